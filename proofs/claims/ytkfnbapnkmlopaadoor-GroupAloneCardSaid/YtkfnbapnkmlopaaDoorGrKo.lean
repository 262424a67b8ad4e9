/- Plain: going on from places till all were seen, each left behind those that it was left for; places that lead to each other (of no program). -/
import Derived.Test.YtkfnbapnkmlopaaDoorGrMath
namespace Go.Proofs.YtkfnbapnkmlopaaDoor

/-- Going on from each of a list in turn: the marks, and what is left. -/
inductive Vs (E : Nat → List Nat) : List Nat → List Bool → List Nat → List Bool → List Nat → Prop
  | nil {S L} : Vs E [] S L S L
  | seen {a ls S L S' L'} : S[a]? = some true → Vs E ls S L S' L' → Vs E (a :: ls) S L S' L'
  | new {a ls S L S1 L1 S' L'} : S[a]? = some false → Vs E (E a) (S.set a true) L S1 L1 → Vs E ls S1 (L1 ++ [a]) S' L' → Vs E (a :: ls) S L S' L'
theorem Vs.app {E : Nat → List Nat} {ls bs S L S1 L1 S2 L2} (h : Vs E ls S L S1 L1) (k : Vs E bs S1 L1 S2 L2) : Vs E (ls ++ bs) S L S2 L2 := by
  induction h with
  | nil => exact k
  | seen a _ ih => exact .seen a (ih k)
  | new a b _ _ ih => exact .new a b (ih k)
theorem set_true {S : List Bool} {a j : Nat} (ha : a < S.length) : (S.set a true)[j]? = some true ↔ S[j]? = some true ∨ j = a := by
  rw [List.getElem?_set]
  by_cases e : a = j
  · subst e
    simp [ha]
  · rw [if_neg e]
    constructor
    · exact .inl
    · rintro (h | h)
      · exact h
      · exact absurd h.symm e
/-- What going on does. -/
structure VsP (E : Nat → List Nat) (ls : List Nat) (S S' : List Bool) (P : List Nat) : Prop where
  len : S'.length = S.length
  nd : P.Nodup
  old : ∀ j ∈ P, S[j]? = some false
  mem : ∀ j, S'[j]? = some true ↔ S[j]? = some true ∨ j ∈ P
  all : ∀ a ∈ ls, S'[a]? = some true
  frm : ∀ j ∈ P, ∃ a ∈ ls, a = j ∨ Wy E a j
  shut : ∀ j ∈ P, ∀ z ∈ E j, S'[z]? = some true
theorem VsP.lt {E : Nat → List Nat} {ls S S' P} (h : VsP E ls S S' P) {j : Nat} (hj : j ∈ P) : j < S.length := (List.getElem?_eq_some_iff.1 (h.old j hj)).1
theorem Vs.ex {E : Nat → List Nat} {ls S L S' L'} (h : Vs E ls S L S' L') : ∃ P, L' = L ++ P ∧ VsP E ls S S' P := by
  induction h with
  | nil => exact ⟨[], by simp, rfl, List.nodup_nil, by simp, by simp, by simp, by simp, by simp⟩
  | @seen a ls S L S' L' ha _ ih =>
    obtain ⟨P, e, h⟩ := ih
    refine ⟨P, e, h.len, h.nd, h.old, h.mem, fun b hb => ?_, fun j hj => ?_, h.shut⟩
    · rcases List.mem_cons.1 hb with rfl | hb
      · exact (h.mem _).2 (.inl ha)
      · exact h.all b hb
    · obtain ⟨b, hb, hw⟩ := h.frm j hj
      exact ⟨b, List.mem_cons_of_mem _ hb, hw⟩
  | @new a ls S L S1 L1 S' L' ha _ _ ih1 ih2 =>
    obtain ⟨P1, e1, h1⟩ := ih1
    obtain ⟨P2, e2, h2⟩ := ih2
    have hal : a < S.length := (List.getElem?_eq_some_iff.1 ha).1
    have m1 : ∀ j, S1[j]? = some true ↔ (S[j]? = some true ∨ j = a) ∨ j ∈ P1 := fun j => by rw [h1.mem, set_true hal]
    have hl1 : S1.length = S.length := by rw [h1.len, List.length_set]
    have o1 : ∀ j ∈ P1, S[j]? = some false ∧ j ≠ a := fun j hj => by
      have h := h1.old j hj
      rw [List.getElem?_set] at h
      by_cases e : a = j
      · rw [if_pos e] at h
        split at h <;> simp at h
      · rw [if_neg e] at h
        exact ⟨h, fun k => e k.symm⟩
    have o2 : ∀ j ∈ P2, S[j]? = some false ∧ j ≠ a ∧ j ∉ P1 := fun j hj => by
      have h := h2.old j hj
      have hn : ¬ ((S[j]? = some true ∨ j = a) ∨ j ∈ P1) := fun k => by
        have := (m1 j).2 k
        rw [h] at this
        cases this
      have hj' : j < S.length := by rw [← hl1]; exact (List.getElem?_eq_some_iff.1 h).1
      refine ⟨?_, fun k => hn (.inl (.inr k)), fun k => hn (.inr k)⟩
      rw [List.getElem?_eq_getElem hj']
      cases hb : S[j] with
      | false => rfl
      | true => exact absurd (.inl (.inl (by rw [List.getElem?_eq_getElem hj', hb]))) hn
    refine ⟨P1 ++ a :: P2, by rw [e2, e1]; simp, by rw [h2.len, hl1], ?_, fun j hj => ?_, fun j => ?_, fun b hb => ?_, fun j hj => ?_, fun j hj z hz => ?_⟩
    · rw [List.nodup_append]
      refine ⟨h1.nd, List.nodup_cons.2 ⟨fun k => (o2 a k).2.1 rfl, h2.nd⟩, fun x hx y hy e => ?_⟩
      subst e
      rcases List.mem_cons.1 hy with e | hy
      · exact (o1 x hx).2 e
      · exact (o2 x hy).2.2 hx
    · rcases List.mem_append.1 hj with hj | hj
      · exact (o1 j hj).1
      · rcases List.mem_cons.1 hj with rfl | hj
        · exact ha
        · exact (o2 j hj).1
    · rw [h2.mem, m1, List.mem_append, List.mem_cons]
      constructor
      · rintro (((h | h) | h) | h)
        · exact .inl h
        · exact .inr (.inr (.inl h))
        · exact .inr (.inl h)
        · exact .inr (.inr (.inr h))
      · rintro (h | h | h | h)
        · exact .inl (.inl (.inl h))
        · exact .inl (.inr h)
        · exact .inl (.inl (.inr h))
        · exact .inr h
    · rcases List.mem_cons.1 hb with rfl | hb
      · exact (h2.mem _).2 (.inl ((m1 _).2 (.inl (.inr rfl))))
      · exact h2.all b hb
    · rcases List.mem_append.1 hj with hj | hj
      · obtain ⟨b, hb, hw⟩ := h1.frm j hj
        refine ⟨a, List.mem_cons_self, .inr ?_⟩
        rcases hw with rfl | hw
        · exact .one hb
        · exact .more hb hw
      · rcases List.mem_cons.1 hj with rfl | hj
        · exact ⟨j, List.mem_cons_self, .inl rfl⟩
        · obtain ⟨b, hb, hw⟩ := h2.frm j hj
          exact ⟨b, List.mem_cons_of_mem _ hb, hw⟩
    · rcases List.mem_append.1 hj with hj | hj
      · exact (h2.mem _).2 (.inl (h1.shut j hj z hz))
      · rcases List.mem_cons.1 hj with rfl | hj
        · exact (h2.mem _).2 (.inl (h1.all z hz))
        · exact h2.shut j hj z hz
/-- Of what is left: where the places up to one lead is up to that one, too, or leads to it. -/
def Kp (E : Nat → List Nat) (L : List Nat) : Prop := ∀ A y B, L = A ++ y :: B → ∀ u ∈ A ++ [y], ∀ v ∈ E u, v ∈ A ++ [y] ∨ Wy E v y
theorem Kp.nil (E : Nat → List Nat) : Kp E [] := fun A y B h => by
  have := congrArg List.length h
  simp at this
theorem Kp.snoc {E : Nat → List Nat} {L : List Nat} {a : Nat} (h : Kp E L) (ha : ∀ u ∈ L ++ [a], ∀ v ∈ E u, v ∈ L ++ [a] ∨ Wy E v a) : Kp E (L ++ [a]) := fun A y B e u hu v hv => by
  rcases List.eq_nil_or_concat B with rfl | ⟨B', b, rfl⟩
  · obtain ⟨e1, e2⟩ := List.append_inj_left' e rfl, List.append_inj_right' e rfl
    injection e2 with e2
    subst e1 e2
    exact ha u hu v hv
  · rw [List.concat_eq_append, ← List.cons_append, ← List.append_assoc] at e
    exact h A y B' (List.append_inj_left' e rfl) u hu v hv
theorem Vs.post {E : Nat → List Nat} {ls S L S' L'} (h : Vs E ls S L S' L') (hL : ∀ u ∈ L, S[u]? = some true) (hE : ∀ u ∈ L, ∀ v ∈ E u, S[v]? = some true) (hG : ∀ g, S[g]? = some true → g ∉ L → ∀ a ∈ ls, Wy E g a) (hK : Kp E L) :
    Kp E L' ∧ (∀ u ∈ L', S'[u]? = some true) ∧ (∀ u ∈ L', ∀ v ∈ E u, S'[v]? = some true) := by
  induction h with
  | nil => exact ⟨hK, hL, hE⟩
  | seen _ _ ih => exact ih hL hE (fun g h1 h2 a h3 => hG g h1 h2 a (List.mem_cons_of_mem _ h3)) hK
  | @new a ls S L S1 L1 S' L' ha h1 _ ih1 ih2 =>
    have hal : a < S.length := (List.getElem?_eq_some_iff.1 ha).1
    have haL : a ∉ L := fun h => by
      have := hL a h
      rw [ha] at this
      cases this
    obtain ⟨P1, e1, p1⟩ := h1.ex
    have m1 : ∀ j, S1[j]? = some true ↔ (S[j]? = some true ∨ j = a) ∨ j ∈ P1 := fun j => by rw [p1.mem, set_true hal]
    obtain ⟨k1, k2, k3⟩ := ih1 (fun u hu => (set_true hal).2 (.inl (hL u hu))) (fun u hu v hv => (set_true hal).2 (.inl (hE u hu v hv))) (fun g h1 h2 c hc => by
      rcases (set_true hal).1 h1 with h | rfl
      · exact (hG g h h2 a List.mem_cons_self).snoc hc
      · exact .one hc) hK
    have gray : ∀ g, S1[g]? = some true → g ∉ L1 ++ [a] → S[g]? = some true ∧ g ∉ L := fun g h1 h2 => by
      rw [e1] at h2
      rcases (m1 g).1 h1 with (h | rfl) | h
      · exact ⟨h, fun k => h2 (List.mem_append.2 (.inl (List.mem_append.2 (.inl k))))⟩
      · exact absurd (List.mem_append.2 (.inr (List.mem_singleton.2 rfl))) h2
      · exact absurd (List.mem_append.2 (.inl (List.mem_append.2 (.inr h)))) h2
    refine ih2 (fun u hu => ?_) (fun u hu v hv => ?_) (fun g h1 h2 b hb => ?_) (k1.snoc fun u hu v hv => ?_)
    · rcases List.mem_append.1 hu with hu | hu
      · exact k2 u hu
      · rw [List.mem_singleton.1 hu]
        exact (m1 a).2 (.inl (.inr rfl))
    · rcases List.mem_append.1 hu with hu | hu
      · exact k3 u hu v hv
      · rw [List.mem_singleton.1 hu] at hv
        exact p1.all v hv
    · obtain ⟨q1, q2⟩ := gray g h1 h2
      exact hG g q1 q2 b (List.mem_cons_of_mem _ hb)
    · have hs : S1[v]? = some true := by
        rcases List.mem_append.1 hu with hu | hu
        · exact k3 u hu v hv
        · rw [List.mem_singleton.1 hu] at hv
          exact p1.all v hv
      by_cases hv2 : v ∈ L1 ++ [a]
      · exact .inl hv2
      · obtain ⟨q1, q2⟩ := gray v hs hv2
        exact .inr (hG v q1 q2 a List.mem_cons_self)
/-- From no marks on: all of n. -/
theorem Vs.whole {E : Nat → List Nat} {n : Nat} {S L} (h : Vs E (List.range n) (List.replicate n false) [] S L) : L.Nodup ∧ (∀ j, j ∈ L ↔ j < n) ∧ Kp E L ∧ S = List.replicate n true := by
  have hno : ∀ j, ¬ (List.replicate n false)[j]? = some true := fun j hj => by
    rw [List.getElem?_replicate] at hj
    split at hj <;> simp at hj
  obtain ⟨k1, _, _⟩ := h.post (fun u hu => by cases hu) (fun u hu => by cases hu) (fun g hg => absurd hg (hno g)) (Kp.nil E)
  obtain ⟨P, e, p⟩ := h.ex
  rw [List.nil_append] at e
  subst e
  have hlt : ∀ j, j ∈ L ↔ j < n := fun j => by
    constructor
    · intro hj
      have := p.lt hj
      rwa [List.length_replicate] at this
    · intro hj
      rcases (p.mem j).1 (p.all j (List.mem_range.2 hj)) with h | h
      · exact absurd h (hno j)
      · exact h
  refine ⟨p.nd, hlt, k1, ?_⟩
  apply List.ext_getElem
  · rw [p.len]; simp
  · intro j h1 h2
    have h3 := (p.mem j).2 (.inr ((hlt j).2 (by simpa using h2)))
    rw [List.getElem?_eq_getElem h1] at h3
    rw [Option.some.inj h3]
    simp
/-- The same, or ways lead to and fro. -/
def ME (E : Nat → List Nat) (a b : Nat) : Prop := a = b ∨ (Wy E a b ∧ Wy E b a)
theorem ME.refl (E : Nat → List Nat) (a : Nat) : ME E a a := .inl rfl
theorem ME.symm {E : Nat → List Nat} {a b : Nat} (h : ME E a b) : ME E b a := by
  rcases h with rfl | ⟨h, k⟩
  · exact .inl rfl
  · exact .inr ⟨k, h⟩
theorem ME.trans {E : Nat → List Nat} {a b c : Nat} (h : ME E a b) (k : ME E b c) : ME E a c := by
  rcases h with rfl | ⟨h1, h2⟩
  · exact k
  · rcases k with rfl | ⟨k1, k2⟩
    · exact .inr ⟨h1, h2⟩
    · exact .inr ⟨h1.trans k1, k2.trans h2⟩
/-- Where a way leaves a part. -/
theorem Wy.leave {E : Nat → List Nat} {D : Nat → Prop} {i j : Nat} (h : Wy E i j) (hi : D i) (hj : ¬ D j) : ∃ a b, D a ∧ b ∈ E a ∧ ¬ D b ∧ (i = a ∨ Wy E i a) ∧ (b = j ∨ Wy E b j) := by
  induction h with
  | @one i j a => exact ⟨i, j, hi, a, hj, .inl rfl, .inl rfl⟩
  | @more i k j a hw ih =>
    by_cases hk : D k
    · obtain ⟨x, y, h1, h2, h3, h4, h5⟩ := ih hk hj
      refine ⟨x, y, h1, h2, h3, .inr ?_, h5⟩
      rcases h4 with rfl | h4
      · exact .one a
      · exact .more a h4
    · exact ⟨i, k, hi, a, hk, .inl rfl, .inr hw⟩
theorem Kp.back {E : Nat → List Nat} {n : Nat} {A B : List Nat} {x : Nat} (hK : Kp E (A ++ x :: B)) (hnd : (A ++ x :: B).Nodup) (hall : ∀ j, j < n → j ∈ A ++ x :: B) (hlt : ∀ i j, j ∈ E i → j < n) (D : Nat → Prop) (hB : ∀ z ∈ B, D z) (hcl : ∀ a b, D a → ME E a b → D b) :
    ∀ (m : Nat) (A1 A2 : List Nat) (u : Nat), A = A1 ++ u :: A2 → A2.length < m → ¬ D u → Wy E u x → Wy E x u
  | 0, _, _, _, _, hm, _, _ => absurd hm (Nat.not_lt_zero _)
  | m + 1, A1, A2, u, hA, hm, hD, hw => by
    subst hA
    have hxA : x ∉ A1 ++ [u] := fun h => by
      have h1 := (List.nodup_append.1 hnd).2.2 x (by
        rcases List.mem_append.1 h with h | h
        · exact List.mem_append.2 (.inl h)
        · rw [List.mem_singleton.1 h]; exact List.mem_append.2 (.inr List.mem_cons_self)) x List.mem_cons_self
      exact h1 rfl
    obtain ⟨a, b, h1, h2, h3, h4, h5⟩ := hw.leave (D := fun z => z ∈ A1 ++ [u]) (List.mem_append.2 (.inr (List.mem_singleton.2 rfl))) hxA
    have hbu : Wy E b u := by
      rcases hK A1 u (A2 ++ x :: B) (by simp) a h1 b h2 with h | h
      · exact absurd h h3
      · exact h
    have hub : Wy E u b := by
      rcases h4 with rfl | h4
      · exact .one h2
      · exact h4.snoc h2
    rcases h5 with rfl | h5
    · exact hbu
    · have hDb : ¬ D b := fun h => hD (hcl b u h (.inr ⟨hbu, hub⟩))
      have hb := hall b (hlt a b h2)
      rcases List.mem_append.1 hb with hb | hb
      · rcases List.mem_append.1 hb with hb | hb
        · exact absurd (List.mem_append.2 (.inl hb)) h3
        · rcases List.mem_cons.1 hb with rfl | hb
          · exact absurd (List.mem_append.2 (.inr (List.mem_singleton.2 rfl))) h3
          · obtain ⟨C1, C2, rfl⟩ := List.append_of_mem hb
            refine Wy.trans (Kp.back hK hnd hall hlt D hB hcl m (A1 ++ u :: C1) C2 b (by simp) ?_ hDb h5) hbu
            simp only [List.length_append, List.length_cons] at hm
            omega
      · rcases List.mem_cons.1 hb with rfl | hb
        · exact hbu
        · exact absurd (hB b hb) hDb
/-- All of a list set to one. -/
def setA (R P : List Nat) (x : Nat) : List Nat := P.foldl (fun R j => R.set j x) R
theorem setA_len (P : List Nat) (x : Nat) : ∀ R : List Nat, (setA R P x).length = R.length := by
  induction P with
  | nil => intro R; rfl
  | cons a P ih =>
    intro R
    show (setA (R.set a x) P x).length = _
    rw [ih, List.length_set]
theorem setA_get (P : List Nat) (x j : Nat) : ∀ R : List Nat, j < R.length → (setA R P x)[j]? = if j ∈ P then some x else R[j]? := by
  induction P with
  | nil => intro R _; simp [setA]
  | cons a P ih =>
    intro R hj
    show (setA (R.set a x) P x)[j]? = _
    rw [ih _ (by rw [List.length_set]; exact hj)]
    by_cases h : j ∈ P
    · rw [if_pos h, if_pos (List.mem_cons_of_mem _ h)]
    · rw [if_neg h, List.getElem?_set]
      by_cases e : a = j
      · subst e
        simp [hj]
      · rw [if_neg e, if_neg]
        rintro k
        rcases List.mem_cons.1 k with k | k
        · exact e k.symm
        · exact h k
theorem setA_take {R P : List Nat} {x i j : Nat} (h : P[i]? = some j) : setA R (P.take (i + 1)) x = (setA R (P.take i) x).set j x := by
  obtain ⟨hi, e⟩ := List.getElem?_eq_some_iff.1 h
  rw [List.take_succ_eq_append_getElem hi, e]
  unfold setA
  rw [List.foldl_append]
  rfl
/-- What is taken, and by what number it goes. -/
structure Rg (E : Nat → List Nat) (n : Nat) (T : List Bool) (R : List Nat) (B : List Nat) : Prop where
  lt : T.length = n
  lr : R.length = n
  cl : ∀ a b, T[a]? = some true → ME E a b → T[b]? = some true
  own : ∀ a r, T[a]? = some true → R[a]? = some r → ME E a r
  eq : ∀ a b, T[a]? = some true → ME E a b → R[a]? = R[b]?
  done : ∀ z ∈ B, T[z]? = some true
  num : ∀ r ∈ R, r < n ∨ r = 0
theorem Rg.init (E : Nat → List Nat) (n : Nat) : Rg E n (List.replicate n false) (List.replicate n 0) [] := by
  have hno : ∀ j, ¬ (List.replicate n false)[j]? = some true := fun j hj => by
    rw [List.getElem?_replicate] at hj
    split at hj <;> simp at hj
  exact ⟨by simp, by simp, fun a _ h => absurd h (hno a), fun a _ h => absurd h (hno a), fun a _ h => absurd h (hno a), by simp, fun r hr => .inr (List.eq_of_mem_replicate hr)⟩
theorem Rg.step {M : Wt} {n : Nat} (hM : Okw n M) {L A B : List Nat} {x : Nat} (hL : L = A ++ x :: B) (hnd : L.Nodup) (hall : ∀ j, j ∈ L ↔ j < n) (hK : Kp (eM M) L) {T T' : List Bool} {R P : List Nat} (h : Rg (eM M) n T R B) (hv : Vs (eM (rvM M)) [x] T [] T' P) :
    Rg (eM M) n T' (setA R P x) (x :: B) := by
  subst hL
  obtain ⟨P', e, p⟩ := hv.ex
  rw [List.nil_append] at e
  subst e
  have hxn : x < n := (hall x).1 (List.mem_append.2 (.inr List.mem_cons_self))
  have hpn : ∀ j ∈ P, j < n := fun j hj => by rw [← h.lt]; exact p.lt hj
  have hnot : ∀ j ∈ P, ¬ T[j]? = some true := fun j hj k => by
    have := p.old j hj
    rw [k] at this
    cases this
  have hback := Kp.back hK hnd (fun j hj => (hall j).2 hj) (fun i j hj => (hM _ (eM_mem.1 hj)).2) (fun z => T[z]? = some true) h.done h.cl
  have hin : T[x]? = some true → P = [] := fun hx => by
    cases hv with
    | seen _ h2 => cases h2; rfl
    | new h1 _ _ => rw [hx] at h1; cases h1
  have hme : ∀ j ∈ P, ME (eM M) j x := fun j hj => by
    obtain ⟨a, ha, hw⟩ := p.frm j hj
    rw [List.mem_singleton.1 ha] at hw
    rcases hw with rfl | hw
    · exact .inl rfl
    · have hw' := rv_iff.1 hw
      have hjL := (hall j).2 (hpn j hj)
      rcases List.mem_append.1 hjL with hj2 | hj2
      · obtain ⟨A1, A2, e⟩ := List.append_of_mem hj2
        exact .inr ⟨hw', hback _ A1 A2 j e (Nat.lt_succ_self _) (hnot j hj) hw'⟩
      · rcases List.mem_cons.1 hj2 with e | hj2
        · exact .inl e
        · exact absurd (h.done j hj2) (hnot j hj)
  have hxT : ¬ T[x]? = some true → x ∈ P := fun hx => by
    rcases (p.mem x).1 (p.all x (List.mem_singleton.2 rfl)) with k | k
    · exact absurd k hx
    · exact k
  have hwalk : ∀ z j, Wy (eM (rvM M)) z j → z ∈ P → ME (eM M) j x → j ∈ P := fun z j hw => by
    induction hw with
    | @one z j a =>
      intro hz hj
      rcases (p.mem j).1 (p.shut z hz j a) with k | k
      · exact absurd (h.cl j z k (hj.trans (hme z hz).symm)) (hnot z hz)
      · exact k
    | @more z y j a hw ih =>
      intro hz hj
      have hy : ME (eM M) y z := by
        refine .inr ⟨.one (eM_mem.2 (rv_mem.1 (eM_mem.1 a))), ?_⟩
        have h1 : Wy (eM M) j y := rv_iff.1 hw
        rcases (hme z hz).trans hj.symm with rfl | ⟨h2, _⟩
        · exact h1
        · exact h2.trans h1
      have hyP : y ∈ P := by
        rcases (p.mem y).1 (p.shut z hz y a) with k | k
        · exact absurd (h.cl y z k hy) (hnot z hz)
        · exact k
      exact ih hyP hj
  have hfull : ¬ T[x]? = some true → ∀ j, ME (eM M) j x → j ∈ P := fun hx j hj => by
    rcases hj with rfl | ⟨h1, h2⟩
    · exact hxT hx
    · exact hwalk x j (rv_iff.2 h1) (hxT hx) (.inr ⟨h1, h2⟩)
  have hPx : ∀ j ∈ P, ¬ T[x]? = some true := fun j hj hx => by
    rw [hin hx] at hj
    cases hj
  refine ⟨by rw [p.len, h.lt], by rw [setA_len, h.lr], fun a b ha hab => ?_, fun a r ha hr => ?_, fun a b ha hab => ?_, fun z hz => ?_, fun r hr => ?_⟩
  · rcases (p.mem a).1 ha with k | k
    · exact (p.mem b).2 (.inl (h.cl a b k hab))
    · exact (p.mem b).2 (.inr (hfull (hPx a k) b (hab.symm.trans (hme a k))))
  · have han : a < R.length := by
      rw [h.lr, ← h.lt, ← p.len]
      exact (List.getElem?_eq_some_iff.1 ha).1
    rw [setA_get P x a R han] at hr
    by_cases k : a ∈ P
    · rw [if_pos k] at hr
      rw [← Option.some.inj hr]
      exact hme a k
    · rw [if_neg k] at hr
      rcases (p.mem a).1 ha with k2 | k2
      · exact h.own a r k2 hr
      · exact absurd k2 k
  · have hln : ∀ z, T'[z]? = some true → z < R.length := fun z hz => by
      rw [h.lr, ← h.lt, ← p.len]
      exact (List.getElem?_eq_some_iff.1 hz).1
    rcases (p.mem a).1 ha with k | k
    · have hb := h.cl a b k hab
      rw [setA_get P x a R (hln a ha), setA_get P x b R (hln b ((p.mem b).2 (.inl hb))), if_neg (fun q => hnot a q k), if_neg (fun q => hnot b q hb)]
      exact h.eq a b k hab
    · have hb := hfull (hPx a k) b (hab.symm.trans (hme a k))
      rw [setA_get P x a R (hln a ha), setA_get P x b R (hln b ((p.mem b).2 (.inr hb))), if_pos k, if_pos hb]
  · rcases List.mem_cons.1 hz with rfl | hz
    · exact p.all z (List.mem_singleton.2 rfl)
    · exact (p.mem z).2 (.inl (h.done z hz))
  · obtain ⟨j, hj, e⟩ := List.mem_iff_getElem.1 hr
    have hj' : j < R.length := by rw [setA_len] at hj; exact hj
    have h1 := setA_get P x j R hj'
    rw [List.getElem?_eq_getElem hj, e] at h1
    by_cases k : j ∈ P
    · rw [if_pos k] at h1
      rw [Option.some.inj h1]
      exact .inl hxn
    · rw [if_neg k] at h1
      exact h.num r (List.mem_of_getElem? h1.symm)
/-- Behind all: places go by one number just where ways lead to and fro. -/
theorem Rg.fin {M : Wt} {n : Nat} {L : List Nat} (hall : ∀ j, j ∈ L ↔ j < n) {T : List Bool} {R : List Nat} (h : Rg (eM M) n T R L) {a b : Nat} (ha : a < n) (hb : b < n) : R[a]? = R[b]? ↔ ME (eM M) a b := by
  have ta := h.done a ((hall a).2 ha)
  have tb := h.done b ((hall b).2 hb)
  constructor
  · intro e
    have h1 := h.own a _ ta (List.getElem?_eq_getElem (by rw [h.lr]; exact ha))
    have h2 := h.own b _ tb (List.getElem?_eq_getElem (by rw [h.lr]; exact hb))
    rw [List.getElem?_eq_getElem (by rw [h.lr]; exact ha), List.getElem?_eq_getElem (by rw [h.lr]; exact hb)] at e
    rw [Option.some.inj e] at h1
    exact h1.trans h2.symm
  · exact h.eq a b ta
end Go.Proofs.YtkfnbapnkmlopaaDoor

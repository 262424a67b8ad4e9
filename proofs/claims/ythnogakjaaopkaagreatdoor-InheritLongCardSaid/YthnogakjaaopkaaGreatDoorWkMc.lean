/- Taj, WkM, WkS, WkC, in one text. -/
import Derived.Test.YthnogakjaaopkaaGreatDoorGph
import Derived.Test.YthnogakjaaopkaaGreatDoorRn
import Derived.Test.YthnogakjaaopkaaGreatDoorBol
import Derived.BigQuiet
import Derived.Deep.QuietTactic
import Derived.Deep.RegionHeld3
import Derived.Deep.Cut
import Derived.StillTailTactics
/- Plain: a walk that goes to each once and finds the rings (of no program). -/
namespace Go.Proofs.YthnogakjaaopkaaGreatDoor

abbrev mxI : Int := 9223372036854775807
/-- What a walk knows: the open ones, how far back each leads, those that are done, which are on a ring. -/
structure Tj where
  O : List Nat
  b : Nat → Int
  R : List Nat
  p : Nat → Bool
def upI {α : Type} (f : Nat → α) (i : Nat) (x : α) : Nat → α := fun j => if j = i then x else f j
theorem upI_same {α : Type} (f : Nat → α) (i : Nat) (x : α) : upI f i x i = x := if_pos rfl
theorem upI_ne {α : Type} (f : Nat → α) {i j : Nat} (x : α) (h : j ≠ i) : upI f i x j = f j := if_neg h
/-- How many have not been seen. -/
def newT (n : Nat) (b : Nat → Int) : Nat := ((List.range n).filter fun v => b v == -1).length
theorem newT_lt {n : Nat} {b b' : Nat → Int} {i : Nat} (hi : i < n) (hb : b i = -1) (hb' : b' i ≠ -1) (h : ∀ v, b v ≠ -1 → b' v ≠ -1) : newT n b' < newT n b := by
  unfold newT
  apply filt_lt
  · intro v _ hv
    have h1 : b' v = -1 := by simpa using hv
    by_cases h2 : b v = -1
    · simpa using h2
    · exact absurd h1 (h v h2)
  · exact ⟨i, List.mem_range.2 hi, by simpa using hb, by simpa using hb'⟩
theorem newT_le {n : Nat} {b b' : Nat → Int} (h : ∀ v, b v ≠ -1 → b' v ≠ -1) : newT n b' ≤ newT n b := by
  unfold newT
  have : ∀ L : List Nat, (L.filter fun v => b' v == -1).length ≤ (L.filter fun v => b v == -1).length := by
    intro L
    induction L with
    | nil => simp
    | cons a L ih =>
      rw [List.filter_cons, List.filter_cons]
      by_cases h1 : b' a = -1
      · have h2 : b a = -1 := by
          by_cases h3 : b a = -1
          · exact h3
          · exact absurd h1 (h a h3)
        simp [h1, h2]
        exact ih
      · have e1 : (b' a == -1) = false := by simpa using h1
        rw [e1]
        simp only [Bool.false_eq_true, if_false]
        by_cases h2 : (b a == -1) = true
        · rw [if_pos h2, List.length_cons]; omega
        · rw [if_neg h2]; exact ih
  exact this _
def Rch (E : Nat → List Nat) (i j : Nat) : Prop := i = j ∨ Wy E i j
theorem Rch.wy {E : Nat → List Nat} {i j k : Nat} (h : Rch E i j) (s : Wy E j k) : Wy E i k := by
  rcases h with rfl | h
  · exact s
  · exact h.trans s
theorem Wy.rch {E : Nat → List Nat} {i j k : Nat} (h : Wy E i j) (s : Rch E j k) : Wy E i k := by
  rcases s with rfl | s
  · exact h
  · exact h.trans s
theorem Rch.trans {E : Nat → List Nat} {i j k : Nat} (h : Rch E i j) (s : Rch E j k) : Rch E i k := by
  rcases s with rfl | s
  · exact h
  · exact .inr (h.wy s)
/-- What holds between the steps; G: those that are under way. -/
structure TJ (E : Nat → List Nat) (n : Nat) (G : List Nat) (s : Tj) : Prop where
  nd : ∀ (a c : Nat) v, s.O[a]? = some v → s.O[c]? = some v → a = c
  op : ∀ (a : Nat) v, s.O[a]? = some v → v < n ∧ 0 ≤ s.b v ∧ s.b v ≤ a ∧ ∃ r, s.O[(s.b v).toNat]? = some r ∧ Rch E v r
  all : ∀ v, v < n → s.b v = -1 ∨ s.b v = mxI ∨ ∃ a : Nat, s.O[a]? = some v
  gr : ∀ g ∈ G, ∃ a : Nat, s.O[a]? = some g ∧ ∀ (c : Nat) u, a ≤ c → s.O[c]? = some u → Rch E g u
  fin : ∀ (a : Nat) v, s.O[a]? = some v → v ∉ G → s.b v < a
  ed : ∀ (a : Nat) v, s.O[a]? = some v → v ∉ G → ∀ j ∈ E v, s.b j = mxI ∨ ∃ c : Nat, s.O[c]? = some j ∧ s.b v ≤ c
  cl : ∀ v, v < n → s.b v = mxI → (∀ j ∈ E v, s.b j = mxI) ∧ (s.p v = true ↔ Wy E v v)
  ord : ¬ Cyc E → ∀ R1 i R2, s.R = R1 ++ i :: R2 → ∀ j ∈ E i, j ∈ R1
  inR : ∀ v, v ∈ s.R ↔ v < n ∧ s.b v ≠ -1 ∧ v ∉ G
  cnt : s.R.length + newT n s.b + G.length ≤ n
theorem nd_len {O : List Nat} {n : Nat} (h : ∀ (a : Nat) v, O[a]? = some v → v < n) (hn : ∀ (a c : Nat) v, O[a]? = some v → O[c]? = some v → a = c) : O.length ≤ n := by
  have h1 : O.Nodup := by
    rw [List.nodup_iff_pairwise_ne, List.pairwise_iff_getElem]
    intro i j hi hj hij e
    have := hn i j O[i] (List.getElem?_eq_getElem hi) (by rw [List.getElem?_eq_getElem hj, e])
    omega
  have h2 : O ⊆ List.range n := fun v hv => by
    obtain ⟨a, ha⟩ := List.mem_iff_getElem?.1 hv
    exact List.mem_range.2 (h a v ha)
  have := h1.length_le_of_subset h2
  rwa [List.length_range] at this
theorem TJ.len {E : Nat → List Nat} {n : Nat} {G : List Nat} {s : Tj} (h : TJ E n G s) : s.O.length ≤ n := nd_len (fun a v hv => (h.op a v hv).1) h.nd
theorem lt_of_at {l : List Nat} {a v : Nat} (h : l[a]? = some v) : a < l.length := (List.getElem?_eq_some_iff.1 h).1
theorem at_snoc {O : List Nat} {i a v : Nat} (h : (O ++ [i])[a]? = some v) : O[a]? = some v ∨ (a = O.length ∧ v = i) := by
  rcases Nat.lt_or_ge a O.length with ha | ha
  · rw [List.getElem?_append_left ha] at h
    exact .inl h
  · rw [List.getElem?_append_right ha] at h
    have := lt_of_at h
    simp only [List.length_singleton] at this
    have e : a = O.length := by omega
    subst e
    rw [Nat.sub_self] at h
    exact .inr ⟨rfl, by simpa using h.symm⟩
theorem at_left {O X : List Nat} {a v : Nat} (h : O[a]? = some v) : (O ++ X)[a]? = some v := by
  rw [List.getElem?_append_left (lt_of_at h)]
  exact h
section
variable {E : Nat → List Nat} {n : Nat} {G : List Nat} {s : Tj} {i : Nat}
/-- The open ones are neither new nor closed. -/
theorem TJ.opn (h : TJ E n G s) (hn : n < 9223372036854775807) {a v : Nat} (ha : s.O[a]? = some v) : s.b v ≠ -1 ∧ s.b v ≠ mxI ∧ a < n := by
  have h1 := h.op a v ha
  have h2 := lt_of_at ha
  have h3 := h.len
  have h4 : mxI = 9223372036854775807 := rfl
  refine ⟨?_, ?_, ?_⟩ <;> omega
/-- One more under way. -/
theorem TJ.push (h : TJ E n G s) (hn : n < 9223372036854775807) (hi : i < n) (hb : s.b i = -1) (hg : ∀ g ∈ G, Rch E g i) : TJ E n (i :: G) ⟨s.O ++ [i], upI s.b i s.O.length, s.R, s.p⟩ := by
  have hne : ∀ (a : Nat) v, s.O[a]? = some v → v ≠ i := fun a v hv e => by
    subst e
    exact (h.opn hn hv).1 hb
  have hbi : ∀ v, s.b v = mxI → v ≠ i := fun v hv e => by
    subst e
    rw [hb] at hv
    cases hv
  have hlen := h.len
  have hmx : mxI = 9223372036854775807 := rfl
  constructor
  · intro a c v ha hc
    dsimp only at ha hc
    rcases at_snoc ha with h1 | ⟨h1, h1'⟩ <;> rcases at_snoc hc with h2 | ⟨h2, h2'⟩
    · exact h.nd a c v h1 h2
    · exact absurd h2' (hne a v h1)
    · exact absurd h1' (hne c v h2)
    · omega
  · intro a v ha
    dsimp only at ha ⊢
    rcases at_snoc ha with h1 | ⟨rfl, rfl⟩
    · rw [upI_ne _ _ (hne a v h1)]
      obtain ⟨q1, q2, q3, r, q4, q5⟩ := h.op a v h1
      exact ⟨q1, q2, q3, r, at_left q4, q5⟩
    · rw [upI_same]
      refine ⟨hi, by omega, Int.le_refl _, v, ?_, .inl rfl⟩
      rw [Int.toNat_natCast]
      simp
  · intro v hv
    dsimp only
    by_cases e : v = i
    · subst e
      exact .inr (.inr ⟨s.O.length, by simp⟩)
    · rw [upI_ne _ _ e]
      rcases h.all v hv with h1 | h1 | ⟨a, h1⟩
      · exact .inl h1
      · exact .inr (.inl h1)
      · exact .inr (.inr ⟨a, at_left h1⟩)
  · intro g hg'
    dsimp only
    rcases List.mem_cons.1 hg' with rfl | hg'
    · refine ⟨s.O.length, by simp, fun c u hc hu => ?_⟩
      rcases at_snoc hu with h1 | ⟨_, rfl⟩
      · have := lt_of_at h1; omega
      · exact .inl rfl
    · have hg2 := hg g hg'
      obtain ⟨a, h1, h2⟩ := h.gr g hg'
      refine ⟨a, at_left h1, fun c u hc hu => ?_⟩
      rcases at_snoc hu with h3 | ⟨_, rfl⟩
      · exact h2 c u hc h3
      · exact hg2
  · intro a v ha hv
    dsimp only at ha ⊢
    rcases at_snoc ha with h1 | ⟨_, rfl⟩
    · rw [upI_ne _ _ (hne a v h1)]
      exact h.fin a v h1 fun hm => hv (List.mem_cons_of_mem _ hm)
    · exact absurd List.mem_cons_self hv
  · intro a v ha hv j hj
    dsimp only at ha ⊢
    rcases at_snoc ha with h1 | ⟨_, rfl⟩
    · rw [upI_ne _ _ (hne a v h1)]
      rcases h.ed a v h1 (fun hm => hv (List.mem_cons_of_mem _ hm)) j hj with h2 | ⟨c, h2, h3⟩
      · rw [upI_ne _ _ (hbi j h2)]
        exact .inl h2
      · exact .inr ⟨c, at_left h2, h3⟩
    · exact absurd List.mem_cons_self hv
  · intro v hv hm
    dsimp only at hm ⊢
    by_cases e : v = i
    · subst e
      rw [upI_same] at hm
      omega
    · rw [upI_ne _ _ e] at hm
      obtain ⟨h1, h2⟩ := h.cl v hv hm
      refine ⟨fun j hj => ?_, h2⟩
      rw [upI_ne _ _ (hbi j (h1 j hj))]
      exact h1 j hj
  · exact h.ord
  · intro v
    dsimp only
    rw [h.inR v]
    by_cases e : v = i
    · subst e
      rw [upI_same, hb]
      simp
    · rw [upI_ne _ _ e]
      simp [e]
  · dsimp only
    have h1 := newT_lt (b' := upI s.b i s.O.length) hi hb (by rw [upI_same]; omega) (fun v hv => by rw [upI_ne _ _ (fun e => by subst e; exact hv hb)]; exact hv)
    have h2 := h.cnt
    rw [List.length_cons]
    omega
/-- One template looked at. -/
theorem TJ.low (h : TJ E n (i :: G) s) (hn : n < 9223372036854775807) {t : Nat} (ht : t ∈ E i) (htn : t < n) (hs : s.b t ≠ -1) : TJ E n (i :: G) ⟨s.O, upI s.b i (min (s.b i) (s.b t)), s.R, s.p⟩ := by
  obtain ⟨pa, hpa, _⟩ := h.gr i List.mem_cons_self
  have hin := h.op pa i hpa
  have hmx : mxI = 9223372036854775807 := rfl
  have hlen := h.len
  have hpl := lt_of_at hpa
  have hbnd : 0 ≤ s.b t := by
    rcases h.all t htn with h1 | h1 | ⟨a, h1⟩
    · exact absurd h1 hs
    · omega
    · exact (h.op a t h1).2.1
  have hbi : ∀ v, s.b v = mxI → v ≠ i := fun v hv e => by
    subst e
    omega
  constructor
  · exact h.nd
  · intro a v ha
    dsimp only at ha ⊢
    by_cases e : v = i
    · subst e
      have ea := h.nd a pa v ha hpa
      subst ea
      rw [upI_same]
      refine ⟨hin.1, by omega, by omega, ?_⟩
      by_cases hc : s.b v ≤ s.b t
      · rw [Int.min_eq_left hc]
        exact hin.2.2.2
      · rw [Int.min_eq_right (by omega)]
        rcases h.all t htn with h1 | h1 | ⟨a', h1⟩
        · exact absurd h1 hs
        · exfalso
          omega
        · obtain ⟨_, _, _, r, h2, h3⟩ := h.op a' t h1
          exact ⟨r, h2, .inr ((Wy.one ht).rch h3)⟩
    · rw [upI_ne _ _ e]
      exact h.op a v ha
  · intro v hv
    dsimp only
    by_cases e : v = i
    · subst e
      exact .inr (.inr ⟨pa, hpa⟩)
    · rw [upI_ne _ _ e]
      exact h.all v hv
  · exact h.gr
  · intro a v ha hv
    dsimp only at ha ⊢
    have hvi : v ≠ i := fun e => hv (by rw [e]; exact List.mem_cons_self)
    rw [upI_ne _ _ hvi]
    exact h.fin a v ha hv
  · intro a v ha hv j hj
    dsimp only at ha ⊢
    have hvi : v ≠ i := fun e => hv (by rw [e]; exact List.mem_cons_self)
    rw [upI_ne _ _ hvi]
    rcases h.ed a v ha hv j hj with h1 | h1
    · rw [upI_ne _ _ (hbi j h1)]
      exact .inl h1
    · exact .inr h1
  · intro v hv hm
    dsimp only at hm ⊢
    by_cases e : v = i
    · subst e
      rw [upI_same] at hm
      omega
    · rw [upI_ne _ _ e] at hm
      obtain ⟨h1, h2⟩ := h.cl v hv hm
      refine ⟨fun j hj => ?_, h2⟩
      rw [upI_ne _ _ (hbi j (h1 j hj))]
      exact h1 j hj
  · exact h.ord
  · intro v
    dsimp only
    rw [h.inR v]
    by_cases e : v = i
    · subst e
      simp
    · rw [upI_ne _ _ e]
  · dsimp only
    have h1 := newT_le (n := n) (b := s.b) (b' := upI s.b i (min (s.b i) (s.b t))) (fun v hv => by
      by_cases e : v = i
      · subst e
        rw [upI_same]
        omega
      · rw [upI_ne _ _ e]
        exact hv)
    have h2 := h.cnt
    omega
end
/-- Behind k of i's templates. -/
structure GoK (E : Nat → List Nat) (n : Nat) (G : List Nat) (i : Nat) (s0 s : Tj) (k : Nat) : Prop where
  T : TJ E n (i :: G) s
  X : ∃ X, s.O = s0.O ++ i :: X
  lo : ∀ (a : Nat) v, s0.O.length ≤ a → s.O[a]? = some v → s.b i ≤ s.b v
  le : s.b i ≤ s0.O.length
  old : ∀ v, s0.b v ≠ -1 → s.b v = s0.b v ∧ s.p v = s0.p v
  ek : ∀ j ∈ (E i).take k, s.b j ≠ -1 ∧ (s.b j = mxI ∨ ∃ c : Nat, s.O[c]? = some j ∧ s.b i ≤ c)
/-- How a call at i ends. -/
structure GoP (E : Nat → List Nat) (n : Nat) (G : List Nat) (i : Nat) (s0 s : Tj) : Prop where
  T : TJ E n G s
  Y : ∃ Y, s.O = s0.O ++ Y
  lo : ∀ (a : Nat) v, s0.O.length ≤ a → s.O[a]? = some v → s.b i ≤ s.b v
  seen : s.b i ≠ -1
  low : s.b i = mxI ∨ s.b i < s0.O.length
  old : ∀ v, s0.b v ≠ -1 → s.b v = s0.b v ∧ s.p v = s0.p v
section
variable {E : Nat → List Nat} {n : Nat} {G : List Nat} {s0 s : Tj} {i k : Nat}
theorem GoK.init (h : TJ E n G s0) (hn : n < 9223372036854775807) (hi : i < n) (hb : s0.b i = -1) (hg : ∀ g ∈ G, Rch E g i) : GoK E n G i s0 ⟨s0.O ++ [i], upI s0.b i s0.O.length, s0.R, s0.p⟩ 0 where
  T := h.push hn hi hb hg
  X := ⟨[], rfl⟩
  lo := fun a v ha hv => by
    rcases at_snoc hv with h1 | ⟨_, rfl⟩
    · have := lt_of_at h1; omega
    · exact Int.le_refl _
  le := by
    dsimp only
    rw [upI_same]
    exact Int.le_refl _
  old := fun v hv => ⟨upI_ne _ _ fun e => by subst e; exact hv hb, rfl⟩
  ek := fun j hj => by simp at hj
theorem GoK.at_i (h : GoK E n G i s0 s k) : s.O[s0.O.length]? = some i := by
  obtain ⟨X, hX⟩ := h.X
  rw [hX]
  simp
/-- One more, which has been seen. -/
theorem GoK.step (h : GoK E n G i s0 s k) (hn : n < 9223372036854775807) (hk : k < (E i).length) {t : Nat} (ht : (E i)[k] = t) (htn : t < n) (hs : s.b t ≠ -1) (hb0 : s0.b i = -1) :
    GoK E n G i s0 ⟨s.O, upI s.b i (min (s.b i) (s.b t)), s.R, s.p⟩ (k + 1) := by
  have hti : t ∈ E i := by rw [← ht]; exact List.getElem_mem hk
  have hpa := h.at_i
  have hin := h.T.op _ i hpa
  have hop := fun (a v : Nat) (hv : s.O[a]? = some v) => h.T.opn hn hv
  have hmx : mxI = 9223372036854775807 := rfl
  have hlen := h.T.len
  have hpl := lt_of_at hpa
  have hT := h.T.low hn hti htn hs
  have hle := h.le
  refine ⟨hT, h.X, fun a v ha hv => ?_, ?_, fun v hv => ?_, fun j hj => ?_⟩
  · dsimp only at hv ⊢
    rw [upI_same]
    by_cases e : v = i
    · subst e
      rw [upI_same]
      exact Int.le_refl _
    · rw [upI_ne _ _ e]
      have := h.lo a v ha hv
      omega
  · dsimp only
    rw [upI_same]
    omega
  · dsimp only
    rw [upI_ne _ _ (fun e => by subst e; exact hv hb0)]
    exact h.old v hv
  · dsimp only
    rw [upI_same]
    have key : s.b j ≠ -1 → (s.b j = mxI ∨ ∃ c : Nat, s.O[c]? = some j ∧ min (s.b i) (s.b t) ≤ c) → upI s.b i (min (s.b i) (s.b t)) j ≠ -1 ∧ (upI s.b i (min (s.b i) (s.b t)) j = mxI ∨ ∃ c : Nat, s.O[c]? = some j ∧ min (s.b i) (s.b t) ≤ c) := by
      intro q1 q2
      by_cases e : j = i
      · subst e
        rw [upI_same]
        have hq := hT.opn hn hpa
        dsimp only at hq
        rw [upI_same] at hq
        refine ⟨hq.1, .inr ⟨_, hpa, ?_⟩⟩
        omega
      · rw [upI_ne _ _ e]
        exact ⟨q1, q2⟩
    rw [List.take_succ_eq_append_getElem hk] at hj
    rcases List.mem_append.1 hj with h1 | h1
    · obtain ⟨q1, q2⟩ := h.ek j h1
      refine key q1 (q2.imp id ?_)
      rintro ⟨c, h2, h3⟩
      exact ⟨c, h2, by omega⟩
    · rw [List.mem_singleton, ht] at h1
      subst h1
      refine key hs ?_
      rcases h.T.all j htn with h2 | h2 | ⟨a, h2⟩
      · exact absurd h2 hs
      · exact .inl h2
      · have := (h.T.op a j h2).2.2.1
        exact .inr ⟨a, h2, by omega⟩
/-- Behind a call at one of i's templates. -/
theorem GoK.call (h : GoK E n G i s0 s k) (hn : n < 9223372036854775807) {t : Nat} {s' : Tj} (hp : GoP E n (i :: G) t s s') : s'.b i = s.b i ∧ ∀ (a : Nat) v, s.O[a]? = some v → s'.O[a]? = some v := by
  refine ⟨(hp.old i (h.T.opn hn h.at_i).1).1, fun a v hv => ?_⟩
  obtain ⟨Y, hY⟩ := hp.Y
  rw [hY]
  exact at_left hv
theorem GoK.back (h : GoK E n G i s0 s k) (hn : n < 9223372036854775807) (hk : k < (E i).length) {t : Nat} (ht : (E i)[k] = t) (htn : t < n) (hb0 : s0.b i = -1) {s' : Tj} (hp : GoP E n (i :: G) t s s') :
    GoK E n G i s0 ⟨s'.O, upI s'.b i (min (s'.b i) (s'.b t)), s'.R, s'.p⟩ (k + 1) := by
  obtain ⟨hbi, hat⟩ := h.call hn hp
  have hti : t ∈ E i := by rw [← ht]; exact List.getElem_mem hk
  have hpa := hat _ _ h.at_i
  have hmx : mxI = 9223372036854775807 := rfl
  have hT := hp.T.low hn hti htn hp.seen
  have hle := h.le
  have hlen := hp.T.len
  have hpl := lt_of_at hpa
  refine ⟨hT, ?_, fun a v ha hv => ?_, ?_, fun v hv => ?_, fun j hj => ?_⟩
  · obtain ⟨X, hX⟩ := h.X
    obtain ⟨Y, hY⟩ := hp.Y
    exact ⟨X ++ Y, by rw [hY, hX]; simp⟩
  · dsimp only at hv ⊢
    rw [upI_same]
    by_cases e : v = i
    · subst e
      rw [upI_same]
      exact Int.le_refl _
    · rw [upI_ne _ _ e]
      rcases Nat.lt_or_ge a s.O.length with h1 | h1
      · have h2 : s.O[a]? = some v := by
          obtain ⟨Y, hY⟩ := hp.Y
          rw [hY, List.getElem?_append_left h1] at hv
          exact hv
        have h3 := h.lo a v ha h2
        have h4 := (hp.old v (h.T.opn hn h2).1).1
        omega
      · have := hp.lo a v h1 hv
        omega
  · dsimp only
    rw [upI_same]
    omega
  · dsimp only
    rw [upI_ne _ _ (fun e => by subst e; exact hv hb0)]
    have h1 := h.old v hv
    have h2 := hp.old v (by rw [h1.1]; exact hv)
    exact ⟨h2.1.trans h1.1, h2.2.trans h1.2⟩
  · dsimp only
    rw [upI_same]
    have key : s'.b j ≠ -1 → (s'.b j = mxI ∨ ∃ c : Nat, s'.O[c]? = some j ∧ min (s'.b i) (s'.b t) ≤ c) → upI s'.b i (min (s'.b i) (s'.b t)) j ≠ -1 ∧ (upI s'.b i (min (s'.b i) (s'.b t)) j = mxI ∨ ∃ c : Nat, s'.O[c]? = some j ∧ min (s'.b i) (s'.b t) ≤ c) := by
      intro q1 q2
      by_cases e : j = i
      · subst e
        rw [upI_same]
        have hq := hT.opn hn hpa
        dsimp only at hq
        rw [upI_same] at hq
        refine ⟨hq.1, .inr ⟨_, hpa, ?_⟩⟩
        omega
      · rw [upI_ne _ _ e]
        exact ⟨q1, q2⟩
    rw [List.take_succ_eq_append_getElem hk] at hj
    rcases List.mem_append.1 hj with h1 | h1
    · obtain ⟨q1, q2⟩ := h.ek j h1
      have e := (hp.old j q1).1
      refine key (by rw [e]; exact q1) ?_
      rcases q2 with q2 | ⟨c, q2, q3⟩
      · exact .inl (e.trans q2)
      · exact .inr ⟨c, hat _ _ q2, by omega⟩
    · rw [List.mem_singleton, ht] at h1
      subst h1
      refine key hp.seen ?_
      rcases hp.T.all j htn with h2 | h2 | ⟨a, h2⟩
      · exact absurd h2 hp.seen
      · exact .inl h2
      · have := (hp.T.op a j h2).2.2.1
        exact .inr ⟨a, h2, by omega⟩
/-- All that i leads to has been seen; what is not done leads to i. -/
theorem GoK.ordN (h : GoK E n G i s0 s (E i).length) (hE : ∀ j ∈ E i, j < n) (hg : ∀ g ∈ G, Rch E g i) (hc : ¬ Cyc E) : ∀ R1 v R2, s.R ++ [i] = R1 ++ v :: R2 → ∀ j ∈ E v, j ∈ R1 := by
  intro R1 v R2 he j hj
  rcases List.eq_nil_or_concat R2 with rfl | ⟨R3, x, rfl⟩
  · have h1 := List.append_inj' (by rw [he] : s.R ++ [i] = R1 ++ [v]) rfl
    obtain ⟨rfl, h2⟩ := h1
    have h2 : i = v := by simpa using h2
    subst h2
    refine (h.T.inR j).2 ⟨hE j hj, (h.ek j (by rw [List.take_length]; exact hj)).1, fun hm => ?_⟩
    rcases List.mem_cons.1 hm with rfl | hm
    · exact hc ⟨j, .one hj⟩
    · exact hc ⟨i, (Wy.one hj).rch (hg j hm)⟩
  · have h1 : s.R ++ [i] = (R1 ++ v :: R3) ++ [x] := by rw [he]; simp
    exact h.T.ord hc R1 v R3 (List.append_inj' h1 rfl).1 j hj
theorem GoK.inRN (h : GoK E n G i s0 s k) (hi : i < n) (hiG : i ∉ G) (hb : s.b i ≠ -1) (v : Nat) : v ∈ s.R ++ [i] ↔ v < n ∧ s.b v ≠ -1 ∧ v ∉ G := by
  rw [List.mem_append, h.T.inR v]
  by_cases e : v = i
  · subst e
    simp [hi, hiG, hb]
  · simp [e]
theorem GoK.cntN (h : GoK E n G i s0 s k) {b : Nat → Int} (hb : newT n b ≤ newT n s.b) : (s.R ++ [i]).length + newT n b + G.length ≤ n := by
  have := h.T.cnt
  rw [List.length_cons] at this
  rw [List.length_append, List.length_singleton]
  omega
/-- i is done, and leads back further. -/
theorem GoK.stay (h : GoK E n G i s0 s (E i).length) (hn : n < 9223372036854775807) (hE : ∀ j ∈ E i, j < n) (hg : ∀ g ∈ G, Rch E g i) (hiG : i ∉ G) (hb : s.b i ≠ s0.O.length) : GoP E n G i s0 ⟨s.O, s.b, s.R ++ [i], s.p⟩ := by
  have hpa := h.at_i
  have hin := h.T.op _ i hpa
  have hle := h.le
  refine ⟨⟨h.T.nd, h.T.op, h.T.all, fun g hgm => h.T.gr g (List.mem_cons_of_mem _ hgm), fun a v ha hv => ?_, fun a v ha hv j hj => ?_, h.T.cl, fun hc => h.ordN hE hg hc, fun v => h.inRN hin.1 hiG (h.T.opn hn hpa).1 v, h.cntN (Nat.le_refl _)⟩, ?_, h.lo, (h.T.opn hn hpa).1, .inr ?_, h.old⟩
  · dsimp only at ha ⊢
    by_cases e : v = i
    · subst e
      have := h.T.nd _ _ _ ha hpa
      omega
    · exact h.T.fin a v ha fun hm => by
        rcases List.mem_cons.1 hm with h1 | h1
        · exact e h1
        · exact hv h1
  · dsimp only at ha ⊢
    by_cases e : v = i
    · subst e
      exact (h.ek j (by rw [List.take_length]; exact hj)).2
    · exact h.T.ed a v ha (fun hm => by
        rcases List.mem_cons.1 hm with h1 | h1
        · exact e h1
        · exact hv h1) j hj
  · obtain ⟨X, hX⟩ := h.X
    exact ⟨i :: X, hX⟩
  · dsimp only
    omega
/-- What is closed with i: the ring. -/
def ringT (s0 s : Tj) : List Nat := s.O.drop s0.O.length
def clsT (E : Nat → List Nat) (s0 s : Tj) (i : Nat) : Tj :=
  ⟨s.O.take s0.O.length, fun v => if v ∈ ringT s0 s then mxI else s.b v, s.R ++ [i], fun v => if v ∈ ringT s0 s then (decide (1 < (ringT s0 s).length) || (E v).contains v) else s.p v⟩
theorem GoK.ring_mem (_ : GoK E n G i s0 s k) (v : Nat) : v ∈ ringT s0 s ↔ ∃ a : Nat, s0.O.length ≤ a ∧ s.O[a]? = some v := by
  unfold ringT
  rw [List.mem_iff_getElem?]
  constructor
  · rintro ⟨a, ha⟩
    rw [List.getElem?_drop] at ha
    exact ⟨_, Nat.le_add_right _ _, ha⟩
  · rintro ⟨a, ha, hv⟩
    refine ⟨a - s0.O.length, ?_⟩
    rw [List.getElem?_drop]
    rwa [Nat.add_sub_cancel' ha]
theorem GoK.ring_back (h : GoK E n G i s0 s k) (hG : ∀ g ∈ G, ∃ a : Nat, s0.O[a]? = some g) (hb : s.b i = s0.O.length) : ∀ (m a : Nat) v, a < m → s0.O.length ≤ a → s.O[a]? = some v → Rch E v i := by
  intro m
  induction m with
  | zero => intro a v hm; omega
  | succ m ih =>
    intro a v hm ha hv
    by_cases e : v = i
    · exact .inl e
    · have hvG : v ∉ i :: G := fun hmm => by
        rcases List.mem_cons.1 hmm with h1 | h1
        · exact e h1
        · obtain ⟨c, hc⟩ := hG v h1
          obtain ⟨X, hX⟩ := h.X
          have h2 : s.O[c]? = some v := by rw [hX]; exact at_left hc
          have h3 := h.T.nd _ _ _ hv h2
          have h4 := lt_of_at hc
          omega
      have h1 := h.T.fin a v hv hvG
      have h2 := h.lo a v ha hv
      obtain ⟨_, h3, _, r, h4, h5⟩ := h.T.op a v hv
      exact h5.trans (ih _ r (by omega) (by omega) h4)
/-- i is done, and closes its ring. -/
theorem GoK.close (h : GoK E n G i s0 s (E i).length) (hn : n < 9223372036854775807) (h0 : TJ E n G s0) (hE : ∀ j ∈ E i, j < n) (hEn : ∀ v, v < n → ∀ j ∈ E v, j < n) (hg : ∀ g ∈ G, Rch E g i) (hiG : i ∉ G) (hb : s.b i = s0.O.length) : GoP E n G i s0 (clsT E s0 s i) := by
  have hpa := h.at_i
  have hin := h.T.op _ i hpa
  have hG0 : ∀ g ∈ G, ∃ a : Nat, s0.O[a]? = some g := fun g hg' => by
    obtain ⟨a, ha, _⟩ := h0.gr g hg'
    exact ⟨a, ha⟩
  have hrm := h.ring_mem
  have hmx : mxI = 9223372036854775807 := rfl
  obtain ⟨X, hX⟩ := h.X
  have hO : s.O.take s0.O.length = s0.O := by rw [hX]; simp
  have hold : ∀ (a : Nat) v, s0.O[a]? = some v → v ∉ ringT s0 s ∧ s.b v = s0.b v := fun a v hv => by
    refine ⟨fun hm => ?_, (h.old v (h0.opn hn hv).1).1⟩
    obtain ⟨c, hc, hcv⟩ := (hrm v).1 hm
    have h1 : s.O[a]? = some v := by rw [hX]; exact at_left hv
    have h2 := h.T.nd _ _ _ h1 hcv
    have h3 := lt_of_at hv
    omega
  have hiR : i ∈ ringT s0 s := (hrm i).2 ⟨_, Nat.le_refl _, hpa⟩
  -- what the ring leads to
  have hlead : ∀ v ∈ ringT s0 s, ∀ j ∈ E v, s.b j = mxI ∨ j ∈ ringT s0 s := by
    intro v hv j hj
    obtain ⟨a, ha, hav⟩ := (hrm v).1 hv
    have key : (s.b j = mxI ∨ ∃ c : Nat, s.O[c]? = some j ∧ s.b v ≤ c) → s.b j = mxI ∨ j ∈ ringT s0 s := by
      rintro (h1 | ⟨c, h1, h2⟩)
      · exact .inl h1
      · have h3 := h.lo a v ha hav
        exact .inr ((hrm j).2 ⟨c, by omega, h1⟩)
    by_cases e : v = i
    · subst e
      exact key (h.ek j (by rw [List.take_length]; exact hj)).2
    · refine key (h.T.ed a v hav (fun hm => ?_) j hj)
      rcases List.mem_cons.1 hm with h1 | h1
      · exact e h1
      · obtain ⟨c, hc⟩ := hG0 v h1
        exact (hold c v hc).1 hv
  have hclosed : ∀ v, v < n → s.b v = mxI → ∀ w, Wy E v w → s.b w = mxI ∧ w < n := by
    intro v hv hm w hw
    exact hw.closed (D := fun v => s.b v = mxI ∧ v < n) (fun a b ha hb => ⟨(h.T.cl a ha.2 ha.1).1 b hb, hEn a ha.2 b hb⟩) ⟨hm, hv⟩
  have hropen : ∀ v ∈ ringT s0 s, s.b v ≠ mxI := fun v hv => by
    obtain ⟨a, _, hav⟩ := (hrm v).1 hv
    exact (h.T.opn hn hav).2.1
  have hrlt : ∀ v ∈ ringT s0 s, v < n := fun v hv => by
    obtain ⟨a, _, hav⟩ := (hrm v).1 hv
    exact (h.T.op a v hav).1
  have htwo : ∀ v ∈ ringT s0 s, ∀ u ∈ ringT s0 s, Rch E v u := by
    intro v hv u hu
    obtain ⟨a, ha, hav⟩ := (hrm v).1 hv
    obtain ⟨c, hc, hcu⟩ := (hrm u).1 hu
    obtain ⟨q, hq, hq2⟩ := h.T.gr i List.mem_cons_self
    have eq : q = s0.O.length := h.T.nd _ _ _ hq hpa
    exact (h.ring_back hG0 hb (a + 1) a v (by omega) ha hav).trans (hq2 c u (by omega) hcu)
  have hloop : ∀ v ∈ ringT s0 s, ((decide (1 < (ringT s0 s).length) || (E v).contains v) = true ↔ Wy E v v) := by
    intro v hv
    rw [Bool.or_eq_true, decide_eq_true_iff, List.contains_iff_mem]
    constructor
    · rintro (h1 | h1)
      · -- another one in the ring
        have hnd : ∀ (a c : Nat) x, (ringT s0 s)[a]? = some x → (ringT s0 s)[c]? = some x → a = c := by
          intro a c x ha hc
          unfold ringT at ha hc
          rw [List.getElem?_drop] at ha hc
          have := h.T.nd _ _ _ ha hc
          omega
        obtain ⟨a, ha⟩ := List.mem_iff_getElem?.1 hv
        obtain ⟨c, hc, hne⟩ : ∃ c, c < (ringT s0 s).length ∧ c ≠ a := by
          by_cases e : a = 0
          · exact ⟨1, h1, by omega⟩
          · exact ⟨0, by omega, fun e2 => e e2.symm⟩
        have hu := List.getElem?_eq_getElem hc
        have hne2 : (ringT s0 s)[c] ≠ v := fun e => hne (hnd c a v (by rw [hu, e]) ha)
        have hum := List.mem_of_getElem? hu
        rcases htwo v hv _ hum with e | h2
        · exact absurd e.symm hne2
        · exact h2.rch (htwo _ hum v hv)
      · exact .one h1
    · intro hw
      by_cases h1 : 1 < (ringT s0 s).length
      · exact .inl h1
      · right
        obtain ⟨j, hj, hj2⟩ := hw.head
        rcases hlead v hv j hj with h2 | h2
        · exfalso
          rcases hj2 with rfl | hj2
          · exact hropen j hv h2
          · exact hropen v hv (hclosed j (hEn v (hrlt v hv) j hj) h2 v hj2).1
        · have e : j = v := by
            obtain ⟨a, ha⟩ := List.mem_iff_getElem?.1 hv
            obtain ⟨c, hc⟩ := List.mem_iff_getElem?.1 h2
            have h3 := lt_of_at ha
            have h4 := lt_of_at hc
            have h5 : a = c := by omega
            subst h5
            rw [ha] at hc
            exact (Option.some.inj hc).symm
          rw [← e] at hj ⊢
          exact hj
  have hbv : ∀ v, (clsT E s0 s i).b v = if v ∈ ringT s0 s then mxI else s.b v := fun v => rfl
  have hpv : ∀ v, (clsT E s0 s i).p v = if v ∈ ringT s0 s then (decide (1 < (ringT s0 s).length) || (E v).contains v) else s.p v := fun v => rfl
  have hOe : (clsT E s0 s i).O = s0.O := hO
  have hbo : ∀ (a : Nat) v, s0.O[a]? = some v → (clsT E s0 s i).b v = s0.b v := fun a v hv => by
    rw [hbv, if_neg (hold a v hv).1, (hold a v hv).2]
  have hbm : ∀ v, s.b v = mxI → (clsT E s0 s i).b v = mxI := fun v hv => by
    rw [hbv]
    split
    · rfl
    · exact hv
  have hb1 : ∀ v, (clsT E s0 s i).b v ≠ -1 ↔ s.b v ≠ -1 := fun v => by
    rw [hbv]
    split
    · rename_i hm
      obtain ⟨a, _, hav⟩ := (hrm v).1 hm
      have := (h.T.opn hn hav).1
      constructor
      · intro _; exact this
      · intro _; omega
    · exact Iff.rfl
  refine ⟨⟨?_, ?_, ?_, ?_, ?_, ?_, ?_, fun hc => h.ordN hE hg hc, fun v => ?_, h.cntN (newT_le fun v hv => (hb1 v).2 hv)⟩, ⟨[], by rw [hOe]; simp⟩, ?_, ?_, .inl ?_, fun v hv => ?_⟩
  · rw [hOe]; exact h0.nd
  · intro a v hv
    rw [hOe] at hv ⊢
    rw [hbo a v hv]
    exact h0.op a v hv
  · intro v hv
    rw [hOe]
    by_cases hm : v ∈ ringT s0 s
    · exact .inr (.inl (by rw [hbv, if_pos hm]))
    · rw [hbv, if_neg hm]
      rcases h.T.all v hv with h1 | h1 | ⟨a, h1⟩
      · exact .inl h1
      · exact .inr (.inl h1)
      · refine .inr (.inr ⟨a, ?_⟩)
        rcases Nat.lt_or_ge a s0.O.length with h2 | h2
        · rw [hX, List.getElem?_append_left h2] at h1
          exact h1
        · exact absurd ((hrm v).2 ⟨a, h2, h1⟩) hm
  · intro g hgm
    rw [hOe]
    exact h0.gr g hgm
  · intro a v hv hvG
    rw [hOe] at hv
    rw [hbo a v hv]
    exact h0.fin a v hv hvG
  · intro a v hv hvG j hj
    rw [hOe] at hv ⊢
    rw [hbo a v hv]
    rcases h0.ed a v hv hvG j hj with h1 | h1
    · left
      refine hbm j ?_
      rw [(h.old j (by rw [h1]; decide)).1]
      exact h1
    · exact .inr h1
  · intro v hv hm
    by_cases hr : v ∈ ringT s0 s
    · refine ⟨fun j hj => ?_, by rw [hpv, if_pos hr]; exact hloop v hr⟩
      rcases hlead v hr j hj with h1 | h1
      · exact hbm j h1
      · rw [hbv, if_pos h1]
    · rw [hbv, if_neg hr] at hm
      obtain ⟨h1, h2⟩ := h.T.cl v hv hm
      refine ⟨fun j hj => hbm j (h1 j hj), by rw [hpv, if_neg hr]; exact h2⟩
  · rw [hb1 v]
    exact h.inRN hin.1 hiG (h.T.opn hn hpa).1 v
  · intro a v ha hv
    rw [hOe] at hv
    have := lt_of_at hv
    omega
  · rw [hb1]
    exact (h.T.opn hn hpa).1
  · rw [hbv, if_pos hiR]
  · have hnr : v ∉ ringT s0 s := fun hm => by
      -- an old one that lies behind place: it is not old
      obtain ⟨a, ha, hav⟩ := (hrm v).1 hm
      have h1 := (h.old v hv).1
      rcases h0.all v (hrlt v hm) with h2 | h2 | ⟨c, h2⟩
      · exact hv h2
      · exact hropen v hm (h1.trans h2)
      · exact (hold c v h2).1 hm
    rw [hbv, hpv, if_neg hnr, if_neg hnr]
    exact h.old v hv
/-- At the end of a call at the top all is closed. -/
theorem GoP.top (h : GoP E n [] i s0 s) (_ : n < 9223372036854775807) (hi : i < n) (h0 : s0.O = []) : s.O = [] := by
  have hmx : mxI = 9223372036854775807 := rfl
  have hlow : s.b i = mxI := by
    rcases h.low with h1 | h1
    · exact h1
    · rw [h0] at h1
      simp only [List.length_nil] at h1
      rcases h.T.all i hi with h2 | h2 | ⟨a, h2⟩
      · exact absurd h2 h.seen
      · exact h2
      · have := (h.T.op a i h2).2.1
        omega
  cases hO : s.O with
  | nil => rfl
  | cons v l =>
    have h1 : s.O[0]? = some v := by rw [hO]; rfl
    have h2 := h.lo 0 v (by rw [h0]; simp) h1
    have h3 := (h.T.op 0 v h1).2.2.1
    omega
end
/-- Ahead of the first call. -/
theorem TJ.init (E : Nat → List Nat) (n : Nat) : TJ E n [] ⟨[], fun _ => -1, [], fun _ => false⟩ where
  nd := fun a c v h => by simp at h
  op := fun a v h => by simp at h
  all := fun v _ => .inl rfl
  gr := fun g h => by cases h
  fin := fun a v h => by simp at h
  ed := fun a v h => by simp at h
  cl := fun v _ h => by cases h
  ord := fun _ R1 i R2 h => by cases R1 <;> cases h
  inR := fun v => by simp
  cnt := by
    have := List.length_filter_le (fun v => (fun _ => (-1 : Int)) v == -1) (List.range n)
    rw [List.length_range] at this
    simp only [List.length_nil, Nat.add_zero, Nat.zero_add]
    exact this
end Go.Proofs.YthnogakjaaopkaaGreatDoor
/- How a walk's state lies in memory (inherit's walk): open, back, order, loops. -/
namespace Go.Proofs.YthnogakjaaopkaaGreatDoor
open Go.RowKit

def InB (bb n : Nat) (b : Nat → Int) (W : World) : Prop := W.heap[bb]? = some (.cells ((List.range n).map fun v => Value.int .i64 (b v)).toArray 3 (0, 0))
theorem range_upd {α : Type} (f : Nat → α) (n i : Nat) (x : α) : ((List.range n).map f).set i x = (List.range n).map (upI f i x) := by
  apply List.ext_getElem
  · simp
  · intro j h1 h2
    simp only [List.length_map, List.length_range] at h2
    rw [List.getElem_set, List.getElem_map, List.getElem_range]
    by_cases e : i = j
    · subst e
      rw [if_pos rfl, List.getElem_map, List.getElem_range, upI_same]
    · rw [if_neg e, List.getElem_map, List.getElem_range, upI_ne _ _ (Ne.symm e)]
theorem InB.lt {bb n : Nat} {b : Nat → Int} {W : World} (h : InB bb n b W) : bb < W.heap.size := (Array.getElem?_eq_some_iff.1 h).1
theorem InB.load {bb n : Nat} {b : Nat → Int} {W : World} (h : InB bb n b W) {i : Nat} (hi : i < n) : W.cell? ⟨bb, i, none⟩ = some (.int .i64 (b i)) :=
  cell9_blk h i (by rw [List.getElem?_toArray, List.getElem?_map, List.getElem?_range hi]; rfl)
theorem InB.frz {bb n : Nat} {b : Nat → Int} {W : World} (h : InB bb n b W) (k : Nat) : W.frozen? ⟨bb, k, none⟩ = false := frz9_blk h k
theorem InB.set {bb n : Nat} {b : Nat → Int} {W : World} (h : InB bb n b W) (i : Nat) (x : Int) : InB bb n (upI b i x) (W.setCell ⟨bb, i, none⟩ (.int .i64 x)) := by
  have := heap_setCell_same W bb i _ _ (.int .i64 x) h
  unfold InB
  rw [this]
  congr 2
  rw [List.setIfInBounds_toArray, range_upd]
  congr 1
  refine List.map_congr_left fun v _ => ?_
  unfold upI
  split <;> rfl
/-- Row of i's templates, as they stood ahead of the walk. -/
def TmR (W0 : World) (tv : Value) (E : Nat → List Nat) (n : Nat) : Prop := ∃ A Z, tv = .slice A n n ∧ Rd W0 A Z ∧ Z.length = n ∧ ∀ i v, Z[i]? = some v → RowN W0 v (E i)
structure WkM (W0 : World) (pw bb bl n : Nat) (tv ov rv : Value) (s : Tj) (w : World) : Prop where
  bel : Below W0.heap.size W0 w
  st : w.heap[pw]? = some (.cells #[tv, ov, .slice (some ⟨bb, 0, none⟩) n n, rv, .slice (some ⟨bl, 0, none⟩) n n] 152 (0, 0))
  ow : w.ownsRow W0.heap.size 3 1 ov s.O.length (s.O.map intC)
  rw_ : w.ownsRow W0.heap.size 3 1 rv s.R.length (s.R.map intC)
  bk : InB bb n s.b w
  lp : BolB bl ((List.range n).map s.p) w
  ge : W0.heap.size ≤ pw ∧ W0.heap.size ≤ bb ∧ W0.heap.size ≤ bl
  ne : pw ≠ bb ∧ pw ≠ bl ∧ bb ≠ bl
  no : ∀ g, ov.ownBlock = some g → g ≠ pw ∧ g ≠ bb ∧ g ≠ bl
  nr : ∀ g, rv.ownBlock = some g → g ≠ pw ∧ g ≠ bb ∧ g ≠ bl
  nx : ∀ g, ov.ownBlock = some g → rv.ownBlock ≠ some g
theorem own_kept {w w' : World} {base n : Nat} {e : TypeId} {v : Value} {xs : List Value} (h : w.ownsRow base e 1 v n xs) (hb : ∀ g, v.ownBlock = some g → w'.heap[g]? = w.heap[g]?) : w'.ownsRow base e 1 v n xs := by
  obtain ⟨h1, h2⟩ := h
  refine ⟨h1, h2.imp id ?_⟩
  rintro ⟨g, cap, cur, rfl, hb', hh, rest⟩
  exact ⟨g, cap, cur, rfl, hb', (hb g rfl).trans hh, rest⟩
theorem own_lt {w : World} {base n : Nat} {e : TypeId} {v : Value} {xs : List Value} (h : w.ownsRow base e 1 v n xs) {g : Nat} (hg : v.ownBlock = some g) : g < w.heap.size := (h.lt g hg).2
section
variable {W0 w w' : World} {pw bb bl n : Nat} {tv ov rv : Value} {s : Tj}
theorem WkM.c0 (h : WkM W0 pw bb bl n tv ov rv s w) : w.cell? ⟨pw, 0, none⟩ = some tv := cell9_blk h.st 0 rfl
theorem WkM.c1 (h : WkM W0 pw bb bl n tv ov rv s w) : w.cell? ⟨pw, 1, none⟩ = some ov := cell9_blk h.st 1 rfl
theorem WkM.c2 (h : WkM W0 pw bb bl n tv ov rv s w) : w.cell? ⟨pw, 2, none⟩ = some (.slice (some ⟨bb, 0, none⟩) n n) := cell9_blk h.st 2 rfl
theorem WkM.c3 (h : WkM W0 pw bb bl n tv ov rv s w) : w.cell? ⟨pw, 3, none⟩ = some rv := cell9_blk h.st 3 rfl
theorem WkM.c4 (h : WkM W0 pw bb bl n tv ov rv s w) : w.cell? ⟨pw, 4, none⟩ = some (.slice (some ⟨bl, 0, none⟩) n n) := cell9_blk h.st 4 rfl
theorem WkM.fz (h : WkM W0 pw bb bl n tv ov rv s w) (k : Nat) : w.frozen? ⟨pw, k, none⟩ = false := frz9_blk h.st k
theorem WkM.below (h : WkM W0 pw bb bl n tv ov rv s w) (hb : Below w.heap.size w w') : WkM W0 pw bb bl n tv ov rv s w' where
  bel := h.bel.trans (hb.mono h.bel.size)
  st := (hb.block _ (Array.getElem?_eq_some_iff.1 h.st).1).trans h.st
  ow := own_sameO h.ow hb
  rw_ := own_sameO h.rw_ hb
  bk := (hb.block _ h.bk.lt).trans h.bk
  lp := h.lp.below hb
  ge := h.ge
  ne := h.ne
  no := h.no
  nr := h.nr
  nx := h.nx
/-- A store into back. -/
theorem WkM.setB (h : WkM W0 pw bb bl n tv ov rv s w) (i : Nat) (x : Int) : WkM W0 pw bb bl n tv ov rv ⟨s.O, upI s.b i x, s.R, s.p⟩ (w.setCell ⟨bb, i, none⟩ (.int .i64 x)) where
  bel := ⟨h.bel.os, h.bel.tape, h.bel.output, by simpa [World.setCell] using h.bel.size, fun k hk => (Below.heap_setCell w _ _ k (fun e => by have := h.ge.2.1; dsimp only at e; omega)).trans (h.bel.block k hk)⟩
  st := (Below.heap_setCell w _ _ pw (fun e => h.ne.1 e)).trans h.st
  ow := own_kept h.ow fun g hg => Below.heap_setCell w _ _ g (fun e => (h.no g hg).2.1 e)
  rw_ := own_kept h.rw_ fun g hg => Below.heap_setCell w _ _ g (fun e => (h.nr g hg).2.1 e)
  bk := h.bk.set i x
  lp := h.lp.other (fun e => h.ne.2.2 e) _
  ge := h.ge
  ne := h.ne
  no := h.no
  nr := h.nr
  nx := h.nx
/-- A store into loops. -/
theorem WkM.setP (h : WkM W0 pw bb bl n tv ov rv s w) (i : Nat) (x : Bool) : WkM W0 pw bb bl n tv ov rv ⟨s.O, s.b, s.R, upI s.p i x⟩ (w.setCell ⟨bl, i, none⟩ (.bool x)) where
  bel := ⟨h.bel.os, h.bel.tape, h.bel.output, by simpa [World.setCell] using h.bel.size, fun k hk => (Below.heap_setCell w _ _ k (fun e => by have := h.ge.2.2; dsimp only at e; omega)).trans (h.bel.block k hk)⟩
  st := (Below.heap_setCell w _ _ pw (fun e => h.ne.2.1 e)).trans h.st
  ow := own_kept h.ow fun g hg => Below.heap_setCell w _ _ g (fun e => (h.no g hg).2.2 e)
  rw_ := own_kept h.rw_ fun g hg => Below.heap_setCell w _ _ g (fun e => (h.nr g hg).2.2 e)
  bk := (Below.heap_setCell w _ _ bb (fun e => h.ne.2.2 e)).trans h.bk
  lp := by
    have := h.lp.set i x
    rwa [range_upd] at this
  ge := h.ge
  ne := h.ne
  no := h.no
  nr := h.nr
  nx := h.nx
/-- open is written anew. -/
theorem WkM.putO (h : WkM W0 pw bb bl n tv ov rv s w) {ov' : Value} {O' : List Nat} (ho : w'.ownsRow W0.heap.size 3 1 ov' O'.length (O'.map intC)) (hg : w.grownBy w' ov.ownBlock) (hb : ov'.ownBlock = ov.ownBlock ∨ ∃ g, ov'.ownBlock = some g ∧ w.heap.size ≤ g) :
    WkM W0 pw bb bl n tv ov' rv ⟨O', s.b, s.R, s.p⟩ (w'.setCell ⟨pw, 1, none⟩ ov') := by
  have hlp := (Array.getElem?_eq_some_iff.1 h.st).1
  have hst : w'.heap[pw]? = _ := (hg.block pw hlp fun e => (h.no pw e.symm).1 rfl).trans h.st
  have hbk : w'.heap[bb]? = _ := hg.block bb h.bk.lt fun e => (h.no bb e.symm).2.1 rfl
  have hbl : w'.heap[bl]? = _ := hg.block bl h.lp.lt fun e => (h.no bl e.symm).2.2 rfl
  have hno : ∀ g, ov'.ownBlock = some g → (g ≠ pw ∧ g ≠ bb ∧ g ≠ bl) ∧ rv.ownBlock ≠ some g := fun g hg' => by
    rcases hb with e | ⟨g', e, hge⟩
    · rw [e] at hg'
      exact ⟨h.no g hg', h.nx g hg'⟩
    · rw [hg'] at e
      injection e with e
      subst e
      have l1 := h.bk.lt
      have l2 := h.lp.lt
      exact ⟨⟨by omega, by omega, by omega⟩, fun e2 => by have := own_lt h.rw_ e2; omega⟩
  have hrv : ∀ g, rv.ownBlock = some g → w'.heap[g]? = w.heap[g]? := fun g hg' => hg.block g (own_lt h.rw_ hg') fun e => h.nx g e.symm hg'
  exact {
    bel := ⟨hg.os.trans h.bel.os, hg.tape.trans h.bel.tape, hg.output.trans h.bel.output, by have := hg.size; have := h.bel.size; simpa [World.setCell] using (by omega : W0.heap.size ≤ w'.heap.size), fun k hk => ((Below.heap_setCell w' _ _ k (fun e => by have := h.ge.1; dsimp only at e; omega)).trans (hg.block k (by have := h.bel.size; omega) fun e => by have := owns_block h.ow k e.symm; omega)).trans (h.bel.block k hk)⟩
    st := by
      have := heap_setCell_same w' pw 1 _ _ ov' hst
      rw [this]
      rfl
    ow := own_kept ho fun g hg' => Below.heap_setCell w' _ _ g (fun e => (hno g hg').1.1 e)
    rw_ := own_kept h.rw_ fun g hg' => (Below.heap_setCell w' _ _ g (fun e => (h.nr g hg').1 e)).trans (hrv g hg')
    bk := (Below.heap_setCell w' _ _ bb (fun e => h.ne.1 e.symm)).trans (hbk.trans h.bk)
    lp := (Below.heap_setCell w' _ _ bl (fun e => h.ne.2.1 e.symm)).trans (hbl.trans h.lp)
    ge := h.ge
    ne := h.ne
    no := fun g hg' => (hno g hg').1
    nr := h.nr
    nx := fun g hg' => (hno g hg').2 }
/-- order is written anew. -/
theorem WkM.putR (h : WkM W0 pw bb bl n tv ov rv s w) {rv' : Value} {R' : List Nat} (ho : w'.ownsRow W0.heap.size 3 1 rv' R'.length (R'.map intC)) (hg : w.grownBy w' rv.ownBlock) (hb : rv'.ownBlock = rv.ownBlock ∨ ∃ g, rv'.ownBlock = some g ∧ w.heap.size ≤ g) :
    WkM W0 pw bb bl n tv ov rv' ⟨s.O, s.b, R', s.p⟩ (w'.setCell ⟨pw, 3, none⟩ rv') := by
  have hlp := (Array.getElem?_eq_some_iff.1 h.st).1
  have hst : w'.heap[pw]? = _ := (hg.block pw hlp fun e => (h.nr pw e.symm).1 rfl).trans h.st
  have hbk : w'.heap[bb]? = _ := hg.block bb h.bk.lt fun e => (h.nr bb e.symm).2.1 rfl
  have hbl : w'.heap[bl]? = _ := hg.block bl h.lp.lt fun e => (h.nr bl e.symm).2.2 rfl
  have hno : ∀ g, rv'.ownBlock = some g → (g ≠ pw ∧ g ≠ bb ∧ g ≠ bl) ∧ ov.ownBlock ≠ some g := fun g hg' => by
    rcases hb with e | ⟨g', e, hge⟩
    · rw [e] at hg'
      exact ⟨h.nr g hg', fun e2 => h.nx g e2 hg'⟩
    · rw [hg'] at e
      injection e with e
      subst e
      have l1 := h.bk.lt
      have l2 := h.lp.lt
      exact ⟨⟨by omega, by omega, by omega⟩, fun e2 => by have := own_lt h.ow e2; omega⟩
  have hrv : ∀ g, ov.ownBlock = some g → w'.heap[g]? = w.heap[g]? := fun g hg' => hg.block g (own_lt h.ow hg') fun e => h.nx g hg' e.symm
  exact {
    bel := ⟨hg.os.trans h.bel.os, hg.tape.trans h.bel.tape, hg.output.trans h.bel.output, by have := hg.size; have := h.bel.size; simpa [World.setCell] using (by omega : W0.heap.size ≤ w'.heap.size), fun k hk => ((Below.heap_setCell w' _ _ k (fun e => by have := h.ge.1; dsimp only at e; omega)).trans (hg.block k (by have := h.bel.size; omega) fun e => by have := owns_block h.rw_ k e.symm; omega)).trans (h.bel.block k hk)⟩
    st := by
      have := heap_setCell_same w' pw 3 _ _ rv' hst
      rw [this]
      rfl
    rw_ := own_kept ho fun g hg' => Below.heap_setCell w' _ _ g (fun e => (hno g hg').1.1 e)
    ow := own_kept h.ow fun g hg' => (Below.heap_setCell w' _ _ g (fun e => (h.no g hg').1 e)).trans (hrv g hg')
    bk := (Below.heap_setCell w' _ _ bb (fun e => h.ne.1 e.symm)).trans (hbk.trans h.bk)
    lp := (Below.heap_setCell w' _ _ bl (fun e => h.ne.2.1 e.symm)).trans (hbl.trans h.lp)
    ge := h.ge
    ne := h.ne
    no := h.no
    nr := fun g hg' => (hno g hg').1
    nx := fun g hg' e => (hno g e).2 hg' }
/-- Part of a row. -/
theorem own_take {base m k : Nat} {e : TypeId} {A : Option Addr} {c : Nat} {xs : List Value} (h : w.ownsRow base e 1 (.slice A m c) m xs) (hk : k ≤ m) (hA : A ≠ none) : w.ownsRow base e 1 (.slice A k c) k (xs.take k) := by
  obtain ⟨h1, h2⟩ := h
  refine ⟨by rw [List.length_take]; omega, ?_⟩
  rcases h2 with ⟨h3, _⟩ | ⟨g, cap, cur, h3, hb, hh, hc, hm, hs, ht⟩
  · injection h3 with h3
    exact absurd h3 hA
  · injection h3 with h4 _ h5
    subst h4
    subst h5
    refine .inr ⟨g, c, cur, rfl, hb, hh, by omega, hm, hs, ?_⟩
    rw [← ht, List.take_take, Nat.mul_one, Nat.mul_one, Nat.min_eq_left hk]
end
end Go.Proofs.YthnogakjaaopkaaGreatDoor
/- Contracts: slices.Contains and Index over places and bools. -/
namespace Go.Proofs.YthnogakjaaopkaaGreatDoor
open Go.RowKit

set_option maxRecDepth 100000 in
set_option maxHeartbeats 1000000 in
theorem indexN_any (A : Option Addr) (c : Nat) (L : List Nat) (x n : Nat) (w : World) (hn : L.length = n) (hl : n ≤ 1000000) (hr : Rd w A (L.map intC)) :
    Calls Tryz.prog 125 #[.slice A n c, .int .i64 (x : Nat)] w fun e w' => ∃ r : Int, e = .returned (.int .i64 r) ∧ w' = w ∧ decide (r ≥ 0) = L.contains x := by
  have HR := Lib.hid (And.intro hn hr)
  clear hr
  go_enter Tryz.func125, Tryz.ntmps125
  go_wp2_with fail
  go_loopw [8] (fun i wr => ∃ k : Nat, k ≤ n ∧ i = .int .i64 k ∧ wr = w ∧ (L.take k).contains x = false) (fun i _ => n - (intOf i).toNat)
  case atStart => exact ⟨0, Nat.zero_le _, rfl, rfl, rfl⟩
  case round =>
    obtain ⟨k, hk, rfl, rfl, hno⟩ := hrel
    have HK := Lib.hid hno
    clear hno
    by_cases hlk : k < n
    · have hkl : k < L.length := by omega
      obtain ⟨ad, hA, hc⟩ := HR.out.2.at_ (k := k) (by rw [List.length_map]; exact hkl)
      subst hA
      rw [List.getElem_map] at hc
      obtain ⟨y, hy⟩ : ∃ y, L[k] = y := ⟨_, rfl⟩
      rw [hy] at hc
      unfold intC at hc
      have htk : L.take (k + 1) = L.take k ++ [y] := by rw [List.take_succ_eq_append_getElem hkl, hy]
      have q0 : (0 : Int) ≤ k := by omega
      have q1 : (k : Int) < n := by omega
      by_cases hxy : x = y
      · subst hxy
        have HC : Hid (L.contains x = true) := by
          unfold Hid
          rw [List.contains_iff_mem, ← hy]
          exact List.getElem_mem hkl
        clear htk hy
        go_wp2_with fail
        go_ret
        exact ⟨_, rfl, rfl, by rw [HC.out]; exact decide_eq_true q0⟩
      · have e1 : ¬ ((x : Int) = (y : Int)) := by omega
        have HT := Lib.hid htk
        clear htk hy
        go_wp2_with fail
        go_roundw
        case rel =>
          refine ⟨k + 1, by omega, by go_num, trivial, ?_⟩
          rw [HT.out, Bool.eq_false_iff]
          intro h
          rw [List.contains_iff_mem, List.mem_append, List.mem_singleton] at h
          rcases h with h | h
          · have := List.contains_iff_mem.2 h
            rw [HK.out] at this
            cases this
          · exact hxy h
        case measure => simp [intOf]; omega
    · obtain rfl : k = n := by omega
      go_wp2_with fail
      go_ret
      refine ⟨_, rfl, rfl, ?_⟩
      have h := HK.out
      rw [List.take_of_length_le (by rw [HR.out.1]; exact Nat.le_refl _)] at h
      rw [h]
      rfl
set_option maxRecDepth 100000 in
theorem containsN_any (A : Option Addr) (c : Nat) (L : List Nat) (x n : Nat) (w : World) (hn : L.length = n) (hl : n ≤ 1000000) (hr : Rd w A (L.map intC)) :
    Calls Tryz.prog 109 #[.slice A n c, .int .i64 (x : Nat)] w fun e w' => e = .returned (.bool (L.contains x)) ∧ w' = w := by
  have HX := Lib.hid (indexN_any A c L x n w hn hl hr)
  clear hr hn hl
  generalize L.contains x = r at *
  go_enter Tryz.func109, Tryz.ntmps109
  go_wp2_with fail
  with_reducible refine HX.out.mono ?_
  rintro e w' ⟨r1, rfl, rfl, hrr⟩
  have HR := Lib.hid hrr
  clear hrr
  go_wp2_with fail
  go_ret
  exact ⟨by rw [← HR.out]; rfl, rfl⟩
set_option maxRecDepth 100000 in
set_option maxHeartbeats 1000000 in
/-- The first that is true. -/
theorem indexT_any (A : Option Addr) (c : Nat) (L : List Bool) (n : Nat) (w : World) (hn : L.length = n) (hl : n ≤ 1000000) (hr : Rd w A (L.map Value.bool)) :
    Calls Tryz.prog 50 #[.slice A n c, .bool true] w fun e w' => w' = w ∧ ((∃ k : Nat, e = .returned (.int .i64 k) ∧ L[k]? = some true ∧ ∀ j, j < k → L[j]? = some false) ∨ (e = .returned (.int .i64 (-1)) ∧ ∀ j, j < n → L[j]? = some false)) := by
  have HR := Lib.hid (And.intro hn hr)
  clear hr
  go_enter Tryz.func50, Tryz.ntmps50
  go_wp2_with fail
  go_loopw [8] (fun i wr => ∃ k : Nat, k ≤ n ∧ i = .int .i64 k ∧ wr = w ∧ ∀ j, j < k → L[j]? = some false) (fun i _ => n - (intOf i).toNat)
  case atStart => exact ⟨0, Nat.zero_le _, rfl, rfl, fun j hj => absurd hj (Nat.not_lt_zero j)⟩
  case round =>
    obtain ⟨k, hk, rfl, rfl, hno⟩ := hrel
    have HK := Lib.hid hno
    clear hno
    by_cases hlk : k < n
    · have hkl : k < L.length := by omega
      obtain ⟨ad, hA, hc⟩ := HR.out.2.at_ (k := k) (by rw [List.length_map]; exact hkl)
      subst hA
      rw [List.getElem_map] at hc
      have hLk : L[k]? = some L[k] := List.getElem?_eq_getElem hkl
      have q0 : (0 : Int) ≤ k := by omega
      have q1 : (k : Int) < n := by omega
      cases hy : L[k] with
      | true =>
        rw [hy] at hc hLk
        have HC := Lib.hid hLk
        clear hy hLk
        go_wp2_with fail
        go_ret
        exact ⟨rfl, .inl ⟨k, rfl, HC.out, HK.out⟩⟩
      | false =>
        rw [hy] at hc hLk
        have HC := Lib.hid hLk
        clear hy hLk
        go_wp2_with fail
        go_roundw
        case rel =>
          refine ⟨k + 1, by omega, by go_num, trivial, fun j hj => ?_⟩
          rcases Nat.lt_succ_iff_lt_or_eq.1 hj with h | rfl
          · exact HK.out j h
          · exact HC.out
        case measure => simp [intOf]; omega
    · obtain rfl : k = n := by omega
      go_wp2_with fail
      go_ret
      exact ⟨rfl, .inr ⟨rfl, HK.out⟩⟩
end Go.Proofs.YthnogakjaaopkaaGreatDoor
/- Contract: closeFrom. -/
namespace Go.Proofs.YthnogakjaaopkaaGreatDoor
open Go.RowKit

theorem cutN_tail (A : Option Addr) (L : List Nat) (p c a : Nat) (hp : L.length = p) (ha : a ≤ p) (hc : p ≤ c) :
    ∃ A1 C1, (∀ W, (Instr.slice 64 (.slice A p c) (some (.int .i64 (a : Int))) none none).run Tryz.prog W = .ok (.slice A1 (p - a) C1) W) ∧ (∀ q, A1 = some q → ∃ q', A = some q' ∧ q'.block = q.block) ∧ ∀ W, Rd W A (L.map intC) → Rd W A1 ((L.drop a).map intC) := by
  have hel : Tryz.prog.elem 64 = 3 := by kernel_rfl
  have hsz : ∀ W, (sizeOf 3).run Tryz.prog W = .ok 1 W := fun W => by kernel_rfl
  refine ⟨if c = a then A else A.map (·.add (a * 1)), c - a, fun W => ?_, fun q hq => ?_, fun W h hne => ?_⟩
  · rw [run_slice_l _ _ _ _ _ (by rw [hel]; exact Tryz.underlying64) .i64 (a : Int) (by omega) (by omega), hel, hsz]
    simp [Result.andThen, sliced]
  · split at hq
    · exact ⟨q, hq, rfl⟩
    · obtain ⟨q', h1, h2⟩ := Option.map_eq_some_iff.1 hq
      exact ⟨q', h1, by rw [← h2, block_add]⟩
  · rw [List.length_map, List.length_drop, hp] at hne
    obtain ⟨ad, hA, hcell⟩ := h (by rw [List.length_map, hp]; omega)
    subst hA
    rw [if_neg (by omega), Nat.mul_one]
    refine ⟨_, rfl, fun j u hu => ?_⟩
    rw [add_add']
    refine hcell _ u ?_
    rw [List.map_drop, List.getElem?_drop] at hu
    exact hu
theorem cutN_head (A : Option Addr) (p c a : Nat) (ha : a ≤ p) (hc : p ≤ c) (h0 : 0 < c) :
    ∀ W, (Instr.slice 64 (.slice A p c) none (some (.int .i64 (a : Int))) none).run Tryz.prog W = .ok (.slice (A.map (·.add 0)) a c) W := fun W => by
  have hel : Tryz.prog.elem 64 = 3 := by kernel_rfl
  have hsz : ∀ W, (sizeOf 3).run Tryz.prog W = .ok 1 W := fun W => by kernel_rfl
  rw [run_slice_h _ _ _ _ _ (by rw [hel]; exact Tryz.underlying64) .i64 (a : Int) (by omega) (by omega), hel, hsz]
  simp [Result.andThen, sliced]
  omega
theorem add0 (ad : Addr) : ad.add 0 = ad := by
  unfold Addr.add
  rw [if_pos rfl]
/-- Behind the first k of a ring. -/
def ringS (E : Nat → List Nat) (place : Nat) (s : Tj) (k : Nat) : Tj :=
  ⟨s.O.take place, fun v => if v ∈ (s.O.drop place).take k then mxI else s.b v, s.R, fun v => if v ∈ (s.O.drop place).take k then (decide (1 < (s.O.drop place).length) || (E v).contains v) else s.p v⟩
theorem ringS_next (E : Nat → List Nat) (place : Nat) (s : Tj) (k i : Nat) (hk : k < (s.O.drop place).length) (hi : (s.O.drop place)[k] = i) :
    (⟨(ringS E place s k).O, upI (ringS E place s k).b i mxI, (ringS E place s k).R, upI (ringS E place s k).p i (decide (1 < (s.O.drop place).length) || (E i).contains i)⟩ : Tj) = ringS E place s (k + 1) := by
  have htk : ∀ v, v ∈ (s.O.drop place).take (k + 1) ↔ v ∈ (s.O.drop place).take k ∨ v = i := fun v => by
    rw [List.take_succ_eq_append_getElem hk, hi, List.mem_append, List.mem_singleton]
  unfold ringS
  congr 1
  · funext v
    dsimp only
    unfold upI
    by_cases e : v = i
    · rw [if_pos e, if_pos ((htk v).2 (.inr e))]
    · rw [if_neg e]
      dsimp only
      by_cases hm : v ∈ (s.O.drop place).take k
      · rw [if_pos hm, if_pos ((htk v).2 (.inl hm))]
      · rw [if_neg hm, if_neg (fun h => ((htk v).1 h).elim hm e)]
  · funext v
    dsimp only
    unfold upI
    by_cases e : v = i
    · rw [if_pos e, if_pos ((htk v).2 (.inr e)), e]
    · rw [if_neg e]
      dsimp only
      by_cases hm : v ∈ (s.O.drop place).take k
      · rw [if_pos hm, if_pos ((htk v).2 (.inl hm))]
      · rw [if_neg hm, if_neg (fun h => ((htk v).1 h).elim hm e)]
set_option maxRecDepth 100000 in
set_option maxHeartbeats 4000000 in
theorem close_any (W0 : World) (pw bb bl n : Nat) (tv ov rv : Value) (E : Nat → List Nat) (s : Tj) (place : Nat) (w : World) (hn : n ≤ 1000000) (hM : WkM W0 pw bb bl n tv ov rv s w) (hT : TmR W0 tv E n) (hO : ∀ v ∈ s.O, v < n) (hOl : s.O.length ≤ n) (hp : place < s.O.length) (hEl : ∀ v, v < n → (E v).length ≤ 1000000) :
    Calls Tryz.prog 88 #[.pointer (some ⟨pw, 0, none⟩), .int .i64 (place : Nat)] w fun e w' => e = .returned (.tuple #[]) ∧ ∃ ov', WkM W0 pw bb bl n tv ov' rv (ringS E place s (s.O.drop place).length) w' := by
  obtain ⟨A, c, hov, hc1, hc2, hlen, hrd, hblk⟩ := owns_form hM.ow
  subst hov
  obtain ⟨p, hpl⟩ : ∃ p, s.O.length = p := ⟨_, rfl⟩
  rw [hpl] at hc1 hp hOl
  have hA : A ≠ none := fun e => by
    subst e
    obtain ⟨ad, h, _⟩ := hrd (by rw [List.length_map, hpl]; omega)
    cases h
  obtain ⟨ad, rfl⟩ : ∃ ad, A = some ad := by
    cases A with
    | none => exact absurd rfl hA
    | some ad => exact ⟨ad, rfl⟩
  obtain ⟨A1, C1, hs1, hblk1, hrd1⟩ := cutN_tail (some ad) s.O p c place hpl (by omega) hc1
  have hs2 := cutN_head (some ad) p c place (by omega) hc1 (by omega)
  have e0 : (some ad : Option Addr).map (·.add 0) = some ad := by rw [Option.map_some, add0]
  rw [e0] at hs2
  have how := own_take (k := place) hM.ow (by rw [hpl]; omega) (by intro h; cases h)
  have hM1 : WkM W0 pw bb bl n tv (.slice (some ad) place c) rv (ringS E place s 0) (w.setCell ⟨pw, 1, none⟩ (.slice (some ad) place c)) := by
    have h := hM.putO (w' := w) (ov' := .slice (some ad) place c) (O' := s.O.take place) (by rw [List.length_take, hpl, Nat.min_eq_left (by omega), List.map_take]; exact how) (World.grownBy.refl w _) (.inl rfl)
    unfold ringS
    simpa using h
  have hring : ∀ W, WkM W0 pw bb bl n tv (.slice (some ad) place c) rv (ringS E place s 0) W → True := fun _ _ => trivial
  clear hring
  obtain ⟨m, hm⟩ : ∃ m, (s.O.drop place).length = m := ⟨_, rfl⟩
  have hpm : p - place = m := by rw [← hm, List.length_drop, hpl]
  rw [hpm] at hs1
  rw [hm]
  -- the ring's cells: they stay, since only back and loops and the walk's own block are written
  have hgb : ∀ g, (some ad : Option Addr) = some g → g.block ≠ pw ∧ g.block ≠ bb ∧ g.block ≠ bl := fun g hg => by
    injection hg with hg
    subst hg
    exact hM.no ad.block rfl
  have hR1 : Rd (w.setCell ⟨pw, 1, none⟩ (.slice (some ad) place c)) A1 ((s.O.drop place).map intC) := (hrd1 w hrd).setCell (fun q hq => by
    obtain ⟨q', h1, h2⟩ := hblk1 q hq
    rw [← h2]
    exact (hgb q' h1).1) _
  obtain ⟨AT, Z, rfl, hZ, hZl, hZr⟩ := hT
  have k0 := hM.c0
  have k1 := hM.c1
  have k2 := hM.fz 1
  have hst := hM.st
  have HM1 := Lib.hid hM1
  have HRg := Lib.hid (And.intro hR1 (And.intro hm (And.intro hgb hblk1)))
  have HZ := Lib.hid (And.intro hZ (And.intro hZl hZr))
  have HB := Lib.hid (And.intro hO hEl)
  rw [hpl] at k1 hst
  have q0 : (0 : Int) ≤ place := by omega
  have q1 : (place : Int) ≤ p := by omega
  have q2 : m ≤ 1000000 := by omega
  clear hM hM1 hrd hrd1 hR1 hZ hZl hZr hO hEl how hlen hblk hpm hm hblk1 hst hgb
  go_enter Tryz.func88, Tryz.ntmps88
  go_wp2_with fail
  go_loopw [24] (fun kv wr => ∃ k : Nat, k ≤ m ∧ kv = .int .i64 k ∧ WkM W0 pw bb bl n (.slice AT n n) (.slice (some ad) place c) rv (ringS E place s k) wr ∧ Rd wr A1 ((s.O.drop place).map intC)) (fun kv _ => m - (intOf kv).toNat)
  case atStart => exact ⟨0, Nat.zero_le _, rfl, HM1.out, HRg.out.1⟩
  case round =>
    obtain ⟨k, hk, rfl, hMk, hRk⟩ := hrel
    by_cases hlk : k < m
    · have hkr : k < (s.O.drop place).length := by rw [HRg.out.2.1]; exact hlk
      obtain ⟨i, hi⟩ : ∃ i, (s.O.drop place)[k] = i := ⟨_, rfl⟩
      have him : i ∈ s.O.drop place := by rw [← hi]; exact List.getElem_mem hkr
      have hin : i < n := HB.out.1 i (List.mem_of_mem_drop him)
      obtain ⟨a1, hA1, hcr⟩ := hRk.at_ (k := k) (by rw [List.length_map]; exact hkr)
      subst hA1
      rw [List.getElem_map, hi] at hcr
      unfold intC at hcr
      have p2 := hMk.c2
      have f2 := hMk.bk.frz i
      have g2 := hMk.bk.load hin
      have hM2 := hMk.setB i mxI
      have hR2 : Rd (wr.setCell ⟨bb, i, none⟩ (.int .i64 mxI)) (some a1) ((s.O.drop place).map intC) := hRk.setCell (fun q hq => by
        obtain ⟨q', h1, h2⟩ := HRg.out.2.2.2 q hq
        rw [← h2]
        exact (HRg.out.2.2.1 q' h1).2.1) _
      obtain ⟨w2, hw2⟩ : ∃ x, wr.setCell ⟨bb, i, none⟩ (.int .i64 mxI) = x := ⟨_, rfl⟩
      rw [hw2] at hM2 hR2
      have l0 := hM2.c0
      have l4 := hM2.c4
      have f4 := hM2.lp.frz i
      have g4 := hM2.lp.load (k := i) (v := (ringS E place s k).p i) (by rw [List.getElem?_map, List.getElem?_range hin]; rfl)
      obtain ⟨y2, hy2⟩ : ∃ y, (ringS E place s k).b i = y := ⟨_, rfl⟩
      obtain ⟨y4, hy4⟩ : ∃ y, (ringS E place s k).p i = y := ⟨_, rfl⟩
      rw [hy2] at g2
      rw [hy4] at g4
      have hZi : i < Z.length := by rw [HZ.out.2.1]; exact hin
      obtain ⟨adz, hAz, lz⟩ := (HZ.out.1.below hM2.bel).at_ hZi
      subst hAz
      obtain ⟨AE, cE, hZe, _, _, hrE⟩ := HZ.out.2.2 i _ (List.getElem?_eq_getElem hZi)
      rw [hZe] at lz
      have HCt := Lib.hid (fun W (h : Below W0.heap.size W0 W) => containsN_any AE cE (E i) i (E i).length W rfl (HB.out.2 i hin) (hrE.below h))
      obtain ⟨q, hq⟩ : ∃ q, (E i).length = q := ⟨_, rfl⟩
      rw [hq] at lz HCt
      have HE := Lib.hid (ringS_next E place s k i hkr hi)
      have HN := Lib.hid (And.intro hM2 hR2)
      have r0 : (0 : Int) ≤ k := by omega
      have r1 : (k : Int) < m := by omega
      have r2 : (0 : Int) ≤ i := by omega
      have r3 : (i : Int) < n := by omega
      clear hMk hRk hM2 hR2 him hi hkr hrE hZe hq hy2 hy4
      have hdr : Below w2.heap.size w2 w2.drew := ⟨rfl, rfl, rfl, Nat.le_refl _, fun _ _ => rfl⟩
      have HD := Lib.hid (HN.out.1.below hdr)
      have hab : adz.block < W0.heap.size := by
        have h := (HZ.out.1.at_ hZi)
        obtain ⟨ad9, hA9, l9⟩ := h
        injection hA9 with hA9
        subst hA9
        have := World.block_lt_of_cell? W0 _ l9
        rwa [block_add] at this
      have HS3 : Hid (∀ (W : World) (u : Value), (W.cell? ⟨pw, 0, none⟩ = some (.slice (some adz) n n) ∧ W.cell? ⟨pw, 4, none⟩ = some (.slice (some ⟨bl, 0, none⟩) n n) ∧ W.cell? (adz.add i) = some (.slice AE q cE)) → ((W.setCell ⟨bl, i, none⟩ u).cell? ⟨pw, 0, none⟩ = some (.slice (some adz) n n) ∧ (W.setCell ⟨bl, i, none⟩ u).cell? ⟨pw, 4, none⟩ = some (.slice (some ⟨bl, 0, none⟩) n n) ∧ (W.setCell ⟨bl, i, none⟩ u).cell? (adz.add i) = some (.slice AE q cE))) := fun W u h => by
        have e1 := World.cell?_of_block (a := ⟨pw, 0, none⟩) (Below.heap_setCell W ⟨bl, i, none⟩ u pw (fun e => HM1.out.ne.2.1 e))
        have e2 := World.cell?_of_block (a := ⟨pw, 4, none⟩) (Below.heap_setCell W ⟨bl, i, none⟩ u pw (fun e => HM1.out.ne.2.1 e))
        have e3 := World.cell?_of_block (a := adz.add i) (Below.heap_setCell W ⟨bl, i, none⟩ u (adz.add i).block (fun e => by rw [block_add] at e; have := HM1.out.ge.2.2; dsimp only at e; omega))
        exact ⟨e1.trans h.1, e2.trans h.2.1, e3.trans h.2.2⟩
      have HR3 : Hid (∀ u, Rd (w2.drew.setCell ⟨bl, i, none⟩ u) (some a1) ((s.O.drop place).map intC)) := fun u => (HN.out.2.drew).setCell (fun q hq => by
        obtain ⟨q', h1, h2⟩ := HRg.out.2.2.2 q hq
        rw [← h2]
        exact (HRg.out.2.2.1 q' h1).2.2) _
      have HHld := Lib.hid (And.intro l0 (And.intro l4 lz))
      have hdm := HRg.out.2.1
      by_cases h1 : 1 < m
      · have r4 : (1 : Int) < m := by omega
        have HV := Lib.hid (HD.out.setP i true)
        have HE1 : Hid ((decide (1 < (s.O.drop place).length) || (E i).contains i) = true) := by
          unfold Hid
          rw [hdm, decide_eq_true h1]
          rfl
        clear hdm h1 hab hdr
        go_wp2_with fail
        have g4d : w2.drew.cell? { block := bl, off := i } = some (.bool y4) := g4
        have f4d : w2.drew.frozen? { block := bl, off := i } = false := f4
        refine wp_region_noPanic ?_
        refine wp_region_held_drew (S := fun W => W.cell? ⟨pw, 0, none⟩ = some (.slice (some adz) n n) ∧ W.cell? ⟨pw, 4, none⟩ = some (.slice (some ⟨bl, 0, none⟩) n n) ∧ W.cell? (adz.add i) = some (.slice AE q cE)) (by kernel_rfl) HHld.out (fun hHeld => ?_)
        refine' wpAnyH_take (i := 0) (oi := { dst := some 34, op := Go.Op.move (Go.Operand.tmp 0), type := 178, pos := "walk.go:64", after := #[], guard := none }) (v := _) rfl (by kernel_rfl) (by kernel_rfl) (by kernel_rfl) (fun _ _ _ h => h) (Or.inl ⟨by rfl, ?_⟩) (by assumption) ?_
        rotate_left
        · (intro W hSw; go_simp; try with_reducible rfl)
        try simp only [Act.put, List.setIfInBounds_toArray, List.set_cons_zero, List.set_cons_succ]
        refine' wpAnyH_take (i := 1) (oi := { dst := some 35, op := Go.Op.nilCheck (Go.Operand.tmp 34), type := 0, pos := "walk.go:64", after := #[{ on := 0, ground := Go.Ground.data }], guard := none }) (v := _) rfl (by kernel_rfl) (by kernel_rfl) (by kernel_rfl) (fun _ _ _ h => h) (Or.inl ⟨by rfl, ?_⟩) (by assumption) ?_
        rotate_left
        · (intro W hSw; go_simp; try with_reducible rfl)
        try simp only [Act.put, List.setIfInBounds_toArray, List.set_cons_zero, List.set_cons_succ]
        refine' wpAnyH_take (i := 2) (oi := { dst := some 36, op := Go.Op.fieldAddr 152 (Go.Operand.tmp 35) 4, type := 0, pos := "walk.go:64", after := #[{ on := 1, ground := Go.Ground.data }], guard := none }) (v := _) rfl (by kernel_rfl) (by kernel_rfl) (by kernel_rfl) (fun _ _ _ h => h) (Or.inl ⟨by rfl, ?_⟩) (by assumption) ?_
        rotate_left
        · (intro W hSw; go_simp; try with_reducible rfl)
        try simp only [Act.put, List.setIfInBounds_toArray, List.set_cons_zero, List.set_cons_succ]
        refine' wpAnyH_take (i := 3) (oi := { dst := some 37, op := Go.Op.load 99 (Go.Operand.tmp 36), type := 99, pos := "walk.go:64", after := #[{ on := 2, ground := Go.Ground.data }], guard := none }) (v := _) rfl (by kernel_rfl) (by kernel_rfl) (by kernel_rfl) (fun _ _ _ h => h) (Or.inl ⟨by rfl, ?_⟩) (by assumption) ?_
        rotate_left
        · (intro W hSw; obtain ⟨f0, f4, fz⟩ := hSw; go_simp; try with_reducible rfl)
        try simp only [Act.put, List.setIfInBounds_toArray, List.set_cons_zero, List.set_cons_succ]
        refine' wpAnyH_take (i := 4) (oi := { dst := some 38, op := Go.Op.move (Go.Operand.tmp 6), type := 3, pos := "walk.go:64", after := #[], guard := none }) (v := _) rfl (by kernel_rfl) (by kernel_rfl) (by kernel_rfl) (fun _ _ _ h => h) (Or.inl ⟨by rfl, ?_⟩) (by assumption) ?_
        rotate_left
        · (intro W hSw; go_simp; try with_reducible rfl)
        try simp only [Act.put, List.setIfInBounds_toArray, List.set_cons_zero, List.set_cons_succ]
        refine' wpAnyH_take (i := 5) (oi := { dst := some 39, op := Go.Op.move (Go.Operand.tmp 4), type := 64, pos := "walk.go:64", after := #[], guard := none }) (v := _) rfl (by kernel_rfl) (by kernel_rfl) (by kernel_rfl) (fun _ _ _ h => h) (Or.inl ⟨by rfl, ?_⟩) (by assumption) ?_
        rotate_left
        · (intro W hSw; go_simp; try with_reducible rfl)
        try simp only [Act.put, List.setIfInBounds_toArray, List.set_cons_zero, List.set_cons_succ]
        refine' wpAnyH_take (i := 6) (oi := { dst := some 40, op := Go.Op.call { callee := Go.Callee.builtin Go.Builtin.len, args := #[Go.Operand.tmp 39], argTypes := #[64] }, type := 3, pos := "walk.go:64", after := #[{ on := 5, ground := Go.Ground.data }], guard := none }) (v := _) rfl (by kernel_rfl) (by kernel_rfl) (by kernel_rfl) (fun _ _ _ h => h) (Or.inl ⟨by rfl, ?_⟩) (by assumption) ?_
        rotate_left
        · (intro W hSw; go_simp; try with_reducible rfl)
        try simp only [Act.put, List.setIfInBounds_toArray, List.set_cons_zero, List.set_cons_succ]
        refine' wpAnyH_take (i := 7) (oi := { dst := some 41, op := Go.Op.binOp Go.BinOp.gtr 3 (Go.Operand.tmp 40) (Go.Operand.const (Go.Value.int Go.IntKind.i64 1)) 3, type := 4, pos := "walk.go:64", after := #[{ on := 6, ground := Go.Ground.data }], guard := none }) (v := _) rfl (by kernel_rfl) (by kernel_rfl) (by kernel_rfl) (fun _ _ _ h => h) (Or.inl ⟨by rfl, ?_⟩) (by assumption) ?_
        rotate_left
        · (intro W hSw; go_simp; try with_reducible rfl)
        try simp only [Act.put, List.setIfInBounds_toArray, List.set_cons_zero, List.set_cons_succ]
        refine' wpAnyH_take (i := 8) (oi := { dst := some 42, op := Go.Op.move (Go.Operand.tmp 41), type := 4, pos := "walk.go:64", after := #[{ on := 7, ground := Go.Ground.data }], guard := none }) (v := _) rfl (by kernel_rfl) (by kernel_rfl) (by kernel_rfl) (fun _ _ _ h => h) (Or.inl ⟨by rfl, ?_⟩) (by assumption) ?_
        rotate_left
        · (intro W hSw; go_simp; try with_reducible rfl)
        try simp only [Act.put, List.setIfInBounds_toArray, List.set_cons_zero, List.set_cons_succ]
        refine wpAnyH_take (i := 9) (oi := { dst := some 43, op := Go.Op.move (Go.Operand.tmp 0), type := 178, pos := "walk.go:64", after := #[{ on := 8, ground := Go.Ground.guard }], guard := some (8, false) }) (v := undef) rfl (by kernel_rfl) (by kernel_rfl) (by kernel_rfl) (fun _ _ _ h => h) (Or.inr ⟨by rfl, rfl⟩) (by assumption) ?_
        try simp only [Act.put, List.setIfInBounds_toArray, List.set_cons_zero, List.set_cons_succ]
        refine wpAnyH_take (i := 10) (oi := { dst := some 44, op := Go.Op.nilCheck (Go.Operand.tmp 43), type := 0, pos := "walk.go:64", after := #[{ on := 9, ground := Go.Ground.data }, { on := 8, ground := Go.Ground.guard }], guard := some (8, false) }) (v := undef) rfl (by kernel_rfl) (by kernel_rfl) (by kernel_rfl) (fun _ _ _ h => h) (Or.inr ⟨by rfl, rfl⟩) (by assumption) ?_
        try simp only [Act.put, List.setIfInBounds_toArray, List.set_cons_zero, List.set_cons_succ]
        refine wpAnyH_take (i := 11) (oi := { dst := some 45, op := Go.Op.fieldAddr 152 (Go.Operand.tmp 44) 0, type := 0, pos := "walk.go:64", after := #[{ on := 10, ground := Go.Ground.data }, { on := 8, ground := Go.Ground.guard }], guard := some (8, false) }) (v := undef) rfl (by kernel_rfl) (by kernel_rfl) (by kernel_rfl) (fun _ _ _ h => h) (Or.inr ⟨by rfl, rfl⟩) (by assumption) ?_
        try simp only [Act.put, List.setIfInBounds_toArray, List.set_cons_zero, List.set_cons_succ]
        refine wpAnyH_take (i := 12) (oi := { dst := some 46, op := Go.Op.load 63 (Go.Operand.tmp 45), type := 63, pos := "walk.go:64", after := #[{ on := 11, ground := Go.Ground.data }, { on := 8, ground := Go.Ground.guard }], guard := some (8, false) }) (v := undef) rfl (by kernel_rfl) (by kernel_rfl) (by kernel_rfl) (fun _ _ _ h => h) (Or.inr ⟨by rfl, rfl⟩) (by assumption) ?_
        try simp only [Act.put, List.setIfInBounds_toArray, List.set_cons_zero, List.set_cons_succ]
        refine wpAnyH_take (i := 13) (oi := { dst := some 47, op := Go.Op.move (Go.Operand.tmp 6), type := 3, pos := "walk.go:64", after := #[{ on := 8, ground := Go.Ground.guard }], guard := some (8, false) }) (v := undef) rfl (by kernel_rfl) (by kernel_rfl) (by kernel_rfl) (fun _ _ _ h => h) (Or.inr ⟨by rfl, rfl⟩) (by assumption) ?_
        try simp only [Act.put, List.setIfInBounds_toArray, List.set_cons_zero, List.set_cons_succ]
        refine wpAnyH_take (i := 14) (oi := { dst := some 48, op := Go.Op.indexAddr 63 (Go.Operand.tmp 46) (Go.Operand.tmp 47), type := 0, pos := "walk.go:64", after := #[{ on := 12, ground := Go.Ground.data }, { on := 13, ground := Go.Ground.data }, { on := 8, ground := Go.Ground.guard }], guard := some (8, false) }) (v := undef) rfl (by kernel_rfl) (by kernel_rfl) (by kernel_rfl) (fun _ _ _ h => h) (Or.inr ⟨by rfl, rfl⟩) (by assumption) ?_
        try simp only [Act.put, List.setIfInBounds_toArray, List.set_cons_zero, List.set_cons_succ]
        refine wpAnyH_take (i := 15) (oi := { dst := some 49, op := Go.Op.load 64 (Go.Operand.tmp 48), type := 64, pos := "walk.go:64", after := #[{ on := 14, ground := Go.Ground.data }, { on := 8, ground := Go.Ground.guard }], guard := some (8, false) }) (v := undef) rfl (by kernel_rfl) (by kernel_rfl) (by kernel_rfl) (fun _ _ _ h => h) (Or.inr ⟨by rfl, rfl⟩) (by assumption) ?_
        try simp only [Act.put, List.setIfInBounds_toArray, List.set_cons_zero, List.set_cons_succ]
        refine wpAnyH_take (i := 16) (oi := { dst := some 50, op := Go.Op.move (Go.Operand.tmp 6), type := 3, pos := "walk.go:64", after := #[{ on := 8, ground := Go.Ground.guard }], guard := some (8, false) }) (v := undef) rfl (by kernel_rfl) (by kernel_rfl) (by kernel_rfl) (fun _ _ _ h => h) (Or.inr ⟨by rfl, rfl⟩) (by assumption) ?_
        try simp only [Act.put, List.setIfInBounds_toArray, List.set_cons_zero, List.set_cons_succ]
        refine wpAnyH_take (i := 17) (oi := { dst := some 51, op := Go.Op.call { callee := Go.Callee.value (Go.Operand.func 109), args := #[Go.Operand.tmp 49, Go.Operand.tmp 50], argTypes := #[64, 3] }, type := 4, pos := "walk.go:64", after := #[{ on := 15, ground := Go.Ground.data }, { on := 16, ground := Go.Ground.data }, { on := 8, ground := Go.Ground.chain }, { on := 8, ground := Go.Ground.guard }], guard := some (8, false) }) (v := undef) rfl (by kernel_rfl) (by kernel_rfl) (by kernel_rfl) (fun _ _ _ h => h) (Or.inr ⟨by rfl, rfl⟩) (by assumption) ?_
        try simp only [Act.put, List.setIfInBounds_toArray, List.set_cons_zero, List.set_cons_succ]
        refine' wpAnyH_take (i := 18) (oi := { dst := some 52, op := Go.Op.pick (Go.Operand.tmp 42) (Go.Operand.const (Go.Value.bool true)) (Go.Operand.tmp 51), type := 4, pos := "walk.go:64", after := #[{ on := 8, ground := Go.Ground.data }, { on := 17, ground := Go.Ground.data }], guard := none }) (v := _) rfl (by kernel_rfl) (by kernel_rfl) (by kernel_rfl) (fun _ _ _ h => h) (Or.inl ⟨by rfl, ?_⟩) (by assumption) ?_
        rotate_left
        · (intro W hSw; go_simp; try with_reducible rfl)
        try simp only [Act.put, List.setIfInBounds_toArray, List.set_cons_zero, List.set_cons_succ]
        refine' wpAnyH_take (i := 19) (oi := { dst := some 53, op := Go.Op.indexAddr 99 (Go.Operand.tmp 37) (Go.Operand.tmp 38), type := 0, pos := "walk.go:64", after := #[{ on := 3, ground := Go.Ground.data }, { on := 4, ground := Go.Ground.data }, { on := 0, ground := Go.Ground.phase }, { on := 1, ground := Go.Ground.phase }, { on := 2, ground := Go.Ground.phase }, { on := 3, ground := Go.Ground.phase }, { on := 4, ground := Go.Ground.phase }, { on := 5, ground := Go.Ground.phase }, { on := 6, ground := Go.Ground.phase }, { on := 7, ground := Go.Ground.phase }, { on := 8, ground := Go.Ground.phase }, { on := 9, ground := Go.Ground.phase }, { on := 10, ground := Go.Ground.phase }, { on := 11, ground := Go.Ground.phase }, { on := 12, ground := Go.Ground.phase }, { on := 13, ground := Go.Ground.phase }, { on := 14, ground := Go.Ground.phase }, { on := 15, ground := Go.Ground.phase }, { on := 16, ground := Go.Ground.phase }, { on := 17, ground := Go.Ground.phase }, { on := 18, ground := Go.Ground.phase }], guard := none }) (v := _) rfl (by kernel_rfl) (by kernel_rfl) (by kernel_rfl) (fun _ _ _ h => h) (Or.inl ⟨by rfl, ?_⟩) (by assumption) ?_
        rotate_left
        · (intro W hSw; go_simp; try with_reducible rfl)
        try simp only [Act.put, List.setIfInBounds_toArray, List.set_cons_zero, List.set_cons_succ]
        refine wpAnyH_ready (rs := [20]) (by kernel_rfl) (by simp) ?_
        refine AllReadyH.cons (o := { dst := none, op := Go.Op.store 4 (Go.Operand.tmp 53) (Go.Operand.tmp 52), type := 0, pos := "walk.go:64", after := #[{ on := 19, ground := Go.Ground.data }, { on := 18, ground := Go.Ground.data }, { on := 17, ground := Go.Ground.chain }, { on := 0, ground := Go.Ground.phase }, { on := 1, ground := Go.Ground.phase }, { on := 2, ground := Go.Ground.phase }, { on := 3, ground := Go.Ground.phase }, { on := 4, ground := Go.Ground.phase }, { on := 5, ground := Go.Ground.phase }, { on := 6, ground := Go.Ground.phase }, { on := 7, ground := Go.Ground.phase }, { on := 8, ground := Go.Ground.phase }, { on := 9, ground := Go.Ground.phase }, { on := 10, ground := Go.Ground.phase }, { on := 11, ground := Go.Ground.phase }, { on := 12, ground := Go.Ground.phase }, { on := 13, ground := Go.Ground.phase }, { on := 14, ground := Go.Ground.phase }, { on := 15, ground := Go.Ground.phase }, { on := 16, ground := Go.Ground.phase }, { on := 17, ground := Go.Ground.phase }, { on := 18, ground := Go.Ground.phase }], guard := none }) rfl (fun K hK => ?_) AllReadyH.nil
        go_simp
        refine hK.out _ _ (HS3.out _ _ hHeld) (fun hHeld => ?_)
        clear hK K
        try simp only [Act.put, List.setIfInBounds_toArray, List.set_cons_zero, List.set_cons_succ]
        refine wpAnyH_done (by kernel_rfl) ?_ _
        refine NoPanic.normal ?_
        go_wp2_with fail
        refine ⟨⟨k + 1, hlk, by go_num, ?_, HR3.out _⟩, by simp [intOf]; omega⟩
        have e := HE.out
        rw [HE1.out] at e
        rw [← e]
        exact HV.out
      · have r4 : ¬ (1 : Int) < m := by omega
        have r5 : decide ((1 : Int) < (m : Int)) = false := decide_eq_false r4
        have HE1 : Hid ((decide (1 < (s.O.drop place).length) || (E i).contains i) = (E i).contains i) := by
          unfold Hid
          rw [hdm, decide_eq_false h1]
          rfl
        obtain ⟨y, hy⟩ : ∃ y, (E i).contains i = y := ⟨_, rfl⟩
        rw [hy] at HCt HE1 HE
        have HV := Lib.hid (HD.out.setP i y)
        clear hdm h1 hab hdr hy
        go_wp2_with fail
        have g4d : w2.drew.cell? { block := bl, off := i } = some (.bool y4) := g4
        have f4d : w2.drew.frozen? { block := bl, off := i } = false := f4
        refine wp_region_noPanic ?_
        refine wp_region_held_drew (S := fun W => W.cell? ⟨pw, 0, none⟩ = some (.slice (some adz) n n) ∧ W.cell? ⟨pw, 4, none⟩ = some (.slice (some ⟨bl, 0, none⟩) n n) ∧ W.cell? (adz.add i) = some (.slice AE q cE)) (by kernel_rfl) HHld.out (fun hHeld => ?_)
        refine' wpAnyH_take (i := 0) (oi := { dst := some 34, op := Go.Op.move (Go.Operand.tmp 0), type := 178, pos := "walk.go:64", after := #[], guard := none }) (v := _) rfl (by kernel_rfl) (by kernel_rfl) (by kernel_rfl) (fun _ _ _ h => h) (Or.inl ⟨by rfl, ?_⟩) (by assumption) ?_
        rotate_left
        · (intro W hSw; go_simp; try with_reducible rfl)
        try simp only [Act.put, List.setIfInBounds_toArray, List.set_cons_zero, List.set_cons_succ]
        refine' wpAnyH_take (i := 1) (oi := { dst := some 35, op := Go.Op.nilCheck (Go.Operand.tmp 34), type := 0, pos := "walk.go:64", after := #[{ on := 0, ground := Go.Ground.data }], guard := none }) (v := _) rfl (by kernel_rfl) (by kernel_rfl) (by kernel_rfl) (fun _ _ _ h => h) (Or.inl ⟨by rfl, ?_⟩) (by assumption) ?_
        rotate_left
        · (intro W hSw; go_simp; try with_reducible rfl)
        try simp only [Act.put, List.setIfInBounds_toArray, List.set_cons_zero, List.set_cons_succ]
        refine' wpAnyH_take (i := 2) (oi := { dst := some 36, op := Go.Op.fieldAddr 152 (Go.Operand.tmp 35) 4, type := 0, pos := "walk.go:64", after := #[{ on := 1, ground := Go.Ground.data }], guard := none }) (v := _) rfl (by kernel_rfl) (by kernel_rfl) (by kernel_rfl) (fun _ _ _ h => h) (Or.inl ⟨by rfl, ?_⟩) (by assumption) ?_
        rotate_left
        · (intro W hSw; go_simp; try with_reducible rfl)
        try simp only [Act.put, List.setIfInBounds_toArray, List.set_cons_zero, List.set_cons_succ]
        refine' wpAnyH_take (i := 3) (oi := { dst := some 37, op := Go.Op.load 99 (Go.Operand.tmp 36), type := 99, pos := "walk.go:64", after := #[{ on := 2, ground := Go.Ground.data }], guard := none }) (v := _) rfl (by kernel_rfl) (by kernel_rfl) (by kernel_rfl) (fun _ _ _ h => h) (Or.inl ⟨by rfl, ?_⟩) (by assumption) ?_
        rotate_left
        · (intro W hSw; obtain ⟨f0, f4, fz⟩ := hSw; go_simp; try with_reducible rfl)
        try simp only [Act.put, List.setIfInBounds_toArray, List.set_cons_zero, List.set_cons_succ]
        refine' wpAnyH_take (i := 4) (oi := { dst := some 38, op := Go.Op.move (Go.Operand.tmp 6), type := 3, pos := "walk.go:64", after := #[], guard := none }) (v := _) rfl (by kernel_rfl) (by kernel_rfl) (by kernel_rfl) (fun _ _ _ h => h) (Or.inl ⟨by rfl, ?_⟩) (by assumption) ?_
        rotate_left
        · (intro W hSw; go_simp; try with_reducible rfl)
        try simp only [Act.put, List.setIfInBounds_toArray, List.set_cons_zero, List.set_cons_succ]
        refine' wpAnyH_take (i := 5) (oi := { dst := some 39, op := Go.Op.move (Go.Operand.tmp 4), type := 64, pos := "walk.go:64", after := #[], guard := none }) (v := _) rfl (by kernel_rfl) (by kernel_rfl) (by kernel_rfl) (fun _ _ _ h => h) (Or.inl ⟨by rfl, ?_⟩) (by assumption) ?_
        rotate_left
        · (intro W hSw; go_simp; try with_reducible rfl)
        try simp only [Act.put, List.setIfInBounds_toArray, List.set_cons_zero, List.set_cons_succ]
        refine' wpAnyH_take (i := 6) (oi := { dst := some 40, op := Go.Op.call { callee := Go.Callee.builtin Go.Builtin.len, args := #[Go.Operand.tmp 39], argTypes := #[64] }, type := 3, pos := "walk.go:64", after := #[{ on := 5, ground := Go.Ground.data }], guard := none }) (v := _) rfl (by kernel_rfl) (by kernel_rfl) (by kernel_rfl) (fun _ _ _ h => h) (Or.inl ⟨by rfl, ?_⟩) (by assumption) ?_
        rotate_left
        · (intro W hSw; go_simp; try with_reducible rfl)
        try simp only [Act.put, List.setIfInBounds_toArray, List.set_cons_zero, List.set_cons_succ]
        refine' wpAnyH_take (i := 7) (oi := { dst := some 41, op := Go.Op.binOp Go.BinOp.gtr 3 (Go.Operand.tmp 40) (Go.Operand.const (Go.Value.int Go.IntKind.i64 1)) 3, type := 4, pos := "walk.go:64", after := #[{ on := 6, ground := Go.Ground.data }], guard := none }) (v := _) rfl (by kernel_rfl) (by kernel_rfl) (by kernel_rfl) (fun _ _ _ h => h) (Or.inl ⟨by rfl, ?_⟩) (by assumption) ?_
        rotate_left
        · (intro W hSw; go_simp; try with_reducible rfl)
        try simp only [Act.put, List.setIfInBounds_toArray, List.set_cons_zero, List.set_cons_succ]
        refine' wpAnyH_take (i := 8) (oi := { dst := some 42, op := Go.Op.move (Go.Operand.tmp 41), type := 4, pos := "walk.go:64", after := #[{ on := 7, ground := Go.Ground.data }], guard := none }) (v := _) rfl (by kernel_rfl) (by kernel_rfl) (by kernel_rfl) (fun _ _ _ h => h) (Or.inl ⟨by rfl, ?_⟩) (by assumption) ?_
        rotate_left
        · (intro W hSw; go_simp; try with_reducible rfl)
        try simp only [Act.put, List.setIfInBounds_toArray, List.set_cons_zero, List.set_cons_succ]
        refine' wpAnyH_take (i := 9) (oi := { dst := some 43, op := Go.Op.move (Go.Operand.tmp 0), type := 178, pos := "walk.go:64", after := #[{ on := 8, ground := Go.Ground.guard }], guard := some (8, false) }) (v := _) rfl (by kernel_rfl) (by kernel_rfl) (by kernel_rfl) (fun _ _ _ h => h) (Or.inl ⟨by rfl, ?_⟩) (by assumption) ?_
        rotate_left
        · (intro W hSw; go_simp; try with_reducible rfl)
        try simp only [Act.put, List.setIfInBounds_toArray, List.set_cons_zero, List.set_cons_succ]
        refine' wpAnyH_take (i := 10) (oi := { dst := some 44, op := Go.Op.nilCheck (Go.Operand.tmp 43), type := 0, pos := "walk.go:64", after := #[{ on := 9, ground := Go.Ground.data }, { on := 8, ground := Go.Ground.guard }], guard := some (8, false) }) (v := _) rfl (by kernel_rfl) (by kernel_rfl) (by kernel_rfl) (fun _ _ _ h => h) (Or.inl ⟨by rfl, ?_⟩) (by assumption) ?_
        rotate_left
        · (intro W hSw; go_simp; try with_reducible rfl)
        try simp only [Act.put, List.setIfInBounds_toArray, List.set_cons_zero, List.set_cons_succ]
        refine' wpAnyH_take (i := 11) (oi := { dst := some 45, op := Go.Op.fieldAddr 152 (Go.Operand.tmp 44) 0, type := 0, pos := "walk.go:64", after := #[{ on := 10, ground := Go.Ground.data }, { on := 8, ground := Go.Ground.guard }], guard := some (8, false) }) (v := _) rfl (by kernel_rfl) (by kernel_rfl) (by kernel_rfl) (fun _ _ _ h => h) (Or.inl ⟨by rfl, ?_⟩) (by assumption) ?_
        rotate_left
        · (intro W hSw; go_simp; try with_reducible rfl)
        try simp only [Act.put, List.setIfInBounds_toArray, List.set_cons_zero, List.set_cons_succ]
        refine' wpAnyH_take (i := 12) (oi := { dst := some 46, op := Go.Op.load 63 (Go.Operand.tmp 45), type := 63, pos := "walk.go:64", after := #[{ on := 11, ground := Go.Ground.data }, { on := 8, ground := Go.Ground.guard }], guard := some (8, false) }) (v := _) rfl (by kernel_rfl) (by kernel_rfl) (by kernel_rfl) (fun _ _ _ h => h) (Or.inl ⟨by rfl, ?_⟩) (by assumption) ?_
        rotate_left
        · (intro W hSw; obtain ⟨f0, f4, fz⟩ := hSw; go_simp; try with_reducible rfl)
        try simp only [Act.put, List.setIfInBounds_toArray, List.set_cons_zero, List.set_cons_succ]
        refine' wpAnyH_take (i := 13) (oi := { dst := some 47, op := Go.Op.move (Go.Operand.tmp 6), type := 3, pos := "walk.go:64", after := #[{ on := 8, ground := Go.Ground.guard }], guard := some (8, false) }) (v := _) rfl (by kernel_rfl) (by kernel_rfl) (by kernel_rfl) (fun _ _ _ h => h) (Or.inl ⟨by rfl, ?_⟩) (by assumption) ?_
        rotate_left
        · (intro W hSw; go_simp; try with_reducible rfl)
        try simp only [Act.put, List.setIfInBounds_toArray, List.set_cons_zero, List.set_cons_succ]
        refine' wpAnyH_take (i := 14) (oi := { dst := some 48, op := Go.Op.indexAddr 63 (Go.Operand.tmp 46) (Go.Operand.tmp 47), type := 0, pos := "walk.go:64", after := #[{ on := 12, ground := Go.Ground.data }, { on := 13, ground := Go.Ground.data }, { on := 8, ground := Go.Ground.guard }], guard := some (8, false) }) (v := _) rfl (by kernel_rfl) (by kernel_rfl) (by kernel_rfl) (fun _ _ _ h => h) (Or.inl ⟨by rfl, ?_⟩) (by assumption) ?_
        rotate_left
        · (intro W hSw; go_simp; try with_reducible rfl)
        try simp only [Act.put, List.setIfInBounds_toArray, List.set_cons_zero, List.set_cons_succ]
        refine' wpAnyH_take (i := 15) (oi := { dst := some 49, op := Go.Op.load 64 (Go.Operand.tmp 48), type := 64, pos := "walk.go:64", after := #[{ on := 14, ground := Go.Ground.data }, { on := 8, ground := Go.Ground.guard }], guard := some (8, false) }) (v := _) rfl (by kernel_rfl) (by kernel_rfl) (by kernel_rfl) (fun _ _ _ h => h) (Or.inl ⟨by rfl, ?_⟩) (by assumption) ?_
        rotate_left
        · (intro W hSw; obtain ⟨f0, f4, fz⟩ := hSw; go_simp; try with_reducible rfl)
        try simp only [Act.put, List.setIfInBounds_toArray, List.set_cons_zero, List.set_cons_succ]
        refine' wpAnyH_take (i := 16) (oi := { dst := some 50, op := Go.Op.move (Go.Operand.tmp 6), type := 3, pos := "walk.go:64", after := #[{ on := 8, ground := Go.Ground.guard }], guard := some (8, false) }) (v := _) rfl (by kernel_rfl) (by kernel_rfl) (by kernel_rfl) (fun _ _ _ h => h) (Or.inl ⟨by rfl, ?_⟩) (by assumption) ?_
        rotate_left
        · (intro W hSw; go_simp; try with_reducible rfl)
        try simp only [Act.put, List.setIfInBounds_toArray, List.set_cons_zero, List.set_cons_succ]
        refine wpAnyH_ready (rs := [17]) (by kernel_rfl) (by simp) ?_
        refine AllReadyH.cons (o := { dst := some 51, op := Go.Op.call { callee := Go.Callee.value (Go.Operand.func 109), args := #[Go.Operand.tmp 49, Go.Operand.tmp 50], argTypes := #[64, 3] }, type := 4, pos := "walk.go:64", after := #[{ on := 15, ground := Go.Ground.data }, { on := 16, ground := Go.Ground.data }, { on := 8, ground := Go.Ground.chain }, { on := 8, ground := Go.Ground.guard }], guard := some (8, false) }) rfl (fun K hK => ?_) AllReadyH.nil
        go_simp
        with_reducible refine (HCt.out _ HD.out.bel).mono ?_
        rintro e w9 ⟨rfl, rfl⟩
        clear hHeld
        try go_wp2_with fail
        refine hK.out _ _ HHld.out (fun hHeld => ?_)
        clear hK K
        try simp only [Act.put, List.setIfInBounds_toArray, List.set_cons_zero, List.set_cons_succ]
        refine' wpAnyH_take (i := 18) (oi := { dst := some 52, op := Go.Op.pick (Go.Operand.tmp 42) (Go.Operand.const (Go.Value.bool true)) (Go.Operand.tmp 51), type := 4, pos := "walk.go:64", after := #[{ on := 8, ground := Go.Ground.data }, { on := 17, ground := Go.Ground.data }], guard := none }) (v := _) rfl (by kernel_rfl) (by kernel_rfl) (by kernel_rfl) (fun _ _ _ h => h) (Or.inl ⟨by rfl, ?_⟩) (by assumption) ?_
        rotate_left
        · (intro W hSw; go_simp; try with_reducible rfl)
        try simp only [Act.put, List.setIfInBounds_toArray, List.set_cons_zero, List.set_cons_succ]
        refine' wpAnyH_take (i := 19) (oi := { dst := some 53, op := Go.Op.indexAddr 99 (Go.Operand.tmp 37) (Go.Operand.tmp 38), type := 0, pos := "walk.go:64", after := #[{ on := 3, ground := Go.Ground.data }, { on := 4, ground := Go.Ground.data }, { on := 0, ground := Go.Ground.phase }, { on := 1, ground := Go.Ground.phase }, { on := 2, ground := Go.Ground.phase }, { on := 3, ground := Go.Ground.phase }, { on := 4, ground := Go.Ground.phase }, { on := 5, ground := Go.Ground.phase }, { on := 6, ground := Go.Ground.phase }, { on := 7, ground := Go.Ground.phase }, { on := 8, ground := Go.Ground.phase }, { on := 9, ground := Go.Ground.phase }, { on := 10, ground := Go.Ground.phase }, { on := 11, ground := Go.Ground.phase }, { on := 12, ground := Go.Ground.phase }, { on := 13, ground := Go.Ground.phase }, { on := 14, ground := Go.Ground.phase }, { on := 15, ground := Go.Ground.phase }, { on := 16, ground := Go.Ground.phase }, { on := 17, ground := Go.Ground.phase }, { on := 18, ground := Go.Ground.phase }], guard := none }) (v := _) rfl (by kernel_rfl) (by kernel_rfl) (by kernel_rfl) (fun _ _ _ h => h) (Or.inl ⟨by rfl, ?_⟩) (by assumption) ?_
        rotate_left
        · (intro W hSw; go_simp; try with_reducible rfl)
        try simp only [Act.put, List.setIfInBounds_toArray, List.set_cons_zero, List.set_cons_succ]
        refine wpAnyH_ready (rs := [20]) (by kernel_rfl) (by simp) ?_
        refine AllReadyH.cons (o := { dst := none, op := Go.Op.store 4 (Go.Operand.tmp 53) (Go.Operand.tmp 52), type := 0, pos := "walk.go:64", after := #[{ on := 19, ground := Go.Ground.data }, { on := 18, ground := Go.Ground.data }, { on := 17, ground := Go.Ground.chain }, { on := 0, ground := Go.Ground.phase }, { on := 1, ground := Go.Ground.phase }, { on := 2, ground := Go.Ground.phase }, { on := 3, ground := Go.Ground.phase }, { on := 4, ground := Go.Ground.phase }, { on := 5, ground := Go.Ground.phase }, { on := 6, ground := Go.Ground.phase }, { on := 7, ground := Go.Ground.phase }, { on := 8, ground := Go.Ground.phase }, { on := 9, ground := Go.Ground.phase }, { on := 10, ground := Go.Ground.phase }, { on := 11, ground := Go.Ground.phase }, { on := 12, ground := Go.Ground.phase }, { on := 13, ground := Go.Ground.phase }, { on := 14, ground := Go.Ground.phase }, { on := 15, ground := Go.Ground.phase }, { on := 16, ground := Go.Ground.phase }, { on := 17, ground := Go.Ground.phase }, { on := 18, ground := Go.Ground.phase }], guard := none }) rfl (fun K hK => ?_) AllReadyH.nil
        go_simp
        refine hK.out _ _ (HS3.out _ _ hHeld) (fun hHeld => ?_)
        clear hK K
        try simp only [Act.put, List.setIfInBounds_toArray, List.set_cons_zero, List.set_cons_succ]
        refine wpAnyH_done (by kernel_rfl) ?_ _
        refine NoPanic.normal ?_
        go_wp2_with fail
        refine ⟨⟨k + 1, hlk, by go_num, ?_, HR3.out _⟩, by simp [intOf]; omega⟩
        have e := HE.out
        rw [HE1.out] at e
        rw [← e]
        exact HV.out
    · obtain rfl : k = m := by omega
      have HM2 := Lib.hid hMk
      clear hMk
      go_wp2_with fail
      go_end0
      exact ⟨rfl, _, HM2.out⟩
end Go.Proofs.YthnogakjaaopkaaGreatDoor

/- IhMath, IhGot, IhLp, IhFs, IhJn, IhTb, in one text. -/
import Derived.Test.YthnogakjaaopkaaGreatDoorBp9
import Derived.Test.YthnogakjaaopkaaGreatDoorVaM
import Derived.Test.YthnogakjaaopkaaGreatDoorGph
import Derived.Test.YthnogakjaaopkaaGreatDoorMapM
import Derived.Maps.RangeWalk
/- Plain: templates (chapter 11's words; of no program). -/
namespace Go.Proofs.YthnogakjaaopkaaGreatDoor
open Go.RowKit

abbrev nmN : Tx := [110, 97, 109, 101]
abbrev nmU : Tx := [117, 115, 101]
abbrev nmR : Tx := [114, 101, 103, 105, 115, 116, 101, 114]
abbrev nmZ : Tx := [110, 117, 108, 108]
def three (k : Tx) : Bool := k == nmN || k == nmU || k == nmR
/-- A block's field. -/
def ownF (b : MB) (k : Tx) : Option MF := b.2.2.find? fun f => f.2.1 == k
/-- Has a block that kind and that name? -/
def isTm (kd nm : Tx) (b : MB) : Bool := match ownF b nmN with
  | some f => b.2.1 == kd && f.2.2 == nm
  | none => false
def tmpl (l : List MB) (kd nm : Tx) : Option Nat := l.findIdx? (isTm kd nm)
def allS {α : Type} : List (Option α) → Option (List α)
  | [] => some []
  | none :: _ => none
  | some a :: l => (allS l).map (a :: ·)
/-- The templates of names, or that there is none. -/
def namesU (l : List MB) (kd : Tx) (q : List Tx) : List Nat × Nat := match allS (q.map (tmpl l kd)) with
  | none => ([], 8)
  | some js => (js, 0)
/-- A block's templates; the error. -/
def usesB (l : List MB) (b : MB) : List Nat × Nat := match ownF b nmU with
  | none => ([], 0)
  | some f => if (listT f.2.2).2 ≠ 0 then ([], (listT f.2.2).2) else namesU l b.2.1 (listT f.2.2).1
def usesT (l : List MB) (i : Nat) : List Nat × Nat := match l[i]? with
  | none => ([], 0)
  | some b => usesB l b
def edg (l : List MB) (i : Nat) : List Nat := (usesT l i).1
theorem allS_mem {α : Type} : ∀ {q : List (Option α)} {js : List α}, allS q = some js → ∀ j ∈ js, some j ∈ q
  | [], js, h, j, hj => by
    cases h
    cases hj
  | none :: _, _, h, _, _ => by cases h
  | some a :: q, js, h, j, hj => by
    rw [allS] at h
    cases hq : allS q with
    | none => rw [hq] at h; cases h
    | some r =>
      rw [hq] at h
      cases h
      rcases List.mem_cons.1 hj with rfl | hj
      · simp
      · exact List.mem_cons_of_mem _ (allS_mem hq j hj)
theorem tmpl_lt {l : List MB} {kd nm : Tx} {j : Nat} (h : tmpl l kd nm = some j) : j < l.length := by
  unfold tmpl at h
  exact (List.findIdx?_eq_some_iff_getElem.1 h).1
theorem edg_lt {l : List MB} {i j : Nat} (h : j ∈ edg l i) : j < l.length := by
  unfold edg usesT at h
  split at h
  · cases h
  · unfold usesB at h
    split at h
    · cases h
    · split at h
      · cases h
      · unfold namesU at h
        split at h
        · cases h
        · rename_i js hjs
          have h1 := allS_mem hjs j h
          obtain ⟨nm, _, h2⟩ := List.mem_map.1 h1
          exact tmpl_lt h2
/-- What is behind a +, with what is given. -/
def plusT (g : Option (Tx × Int)) (r : Tx) : Tx := match g with
  | none => r
  | some p => if p.1 = [] then r else if r = [] then p.1 else p.1 ++ 44 :: r
/-- A block's value by its own field and by what is given. -/
def ownG (f : Option MF) (g : Option (Tx × Int)) : Option (Tx × Int) := match f with
  | none => g
  | some f => if f.2.2 = nmZ then none else if f.2.2.head? = some 43 then some (plusT g f.2.2.tail, f.1) else some (f.2.2, f.1)
/-- What the first that has one gives. -/
def fstS {α : Type} : List (Option α) → Option α
  | [] => none
  | some a :: _ => some a
  | none :: l => fstS l
def gotB (l : List MB) (k : Tx) (i : Nat) (vs : List (Option (Tx × Int))) : Option (Tx × Int) := match l[i]? with
  | none => none
  | some b => ownG (ownF b k) (fstS vs)
/-- A block's value for a name, and where it stands. -/
def gotT (l : List MB) (k : Tx) (i : Nat) : Option (Tx × Int) := calV (edg l) none (gotB l k) l.length i
theorem gotT_eq {l : List MB} (h : ¬ Cyc (edg l)) (k : Tx) {i : Nat} {b : MB} (hb : l[i]? = some b) : gotT l k i = ownG (ownF b k) (fstS ((edg l i).map (gotT l k))) := by
  have e := calV_eq (E := edg l) (z := (none : Option (Tx × Int))) (f := gotB l k) (n := l.length) h (fun _ _ _ hj => edg_lt hj) (i := i) (List.getElem?_eq_some_iff.1 hb).1
  unfold gotT
  rw [e]
  show gotB l k i _ = _
  unfold gotB
  rw [hb]
/-! The looks. -/
/-- What is wrong with a block's name and register. -/
def wrgN (l : List MB) (i : Nat) (b : MB) : Option (Int × Nat) :=
  match ownF b nmN with
  | some f => if nameT f.2.2 = false then some (f.1, 11) else if tmpl l b.2.1 f.2.2 ≠ some i then some (f.1, 7) else wrgR b
  | none => wrgR b
where
  wrgR (b : MB) : Option (Int × Nat) := match ownF b nmR with
    | some g => if (flagT g.2.2).2 ≠ 0 then some (g.1, (flagT g.2.2).2) else none
    | none => none
def atUse (b : MB) : Int := match ownF b nmU with
  | some f => f.1
  | none => 0
def wrgU (l : List MB) (b : MB) : Option (Int × Nat) := if (usesB l b).2 ≠ 0 then some (atUse b, (usesB l b).2) else none
open Classical in
noncomputable def wrgL (l : List MB) (i : Nat) (b : MB) : Option (Int × Nat) := if Wy (edg l) i i then some (atUse b, 9) else none
/-- Has a block a value that is too long? -/
def tooL (l : List MB) (i : Nat) : Prop := ∃ c ∈ l, ∃ f ∈ c.2.2, three f.2.1 = false ∧ ∃ v, gotT l f.2.1 i = some v ∧ 4096 < v.1.length
open Classical in
noncomputable def wrgV (l : List MB) (i : Nat) (b : MB) : Option (Int × Nat) := if tooL l i then some (b.1, 2) else none
/-- The first of the blocks, by their places. -/
def fstB (w : Nat → MB → Option (Int × Nat)) : Nat → List MB → Option (Int × Nat)
  | _, [] => none
  | i, b :: l => (w i b).or (fstB w (i + 1) l)
noncomputable def chkI (l : List MB) : Option (Int × Nat) :=
  (fstB (wrgN l) 0 l).or ((fstB (fun _ => wrgU l) 0 l).or ((fstB (wrgL l) 0 l).or (fstB (wrgV l) 0 l)))
end Go.Proofs.YthnogakjaaopkaaGreatDoor
/- Plain: values as the document's all holds them: cut where they are long. -/
namespace Go.Proofs.YthnogakjaaopkaaGreatDoor
open Go.RowKit

/-- Text, At, Is, Long. -/
abbrev Gt := Tx × Int × Bool × Bool
def gt0 : Gt := ([], 0, false, false)
def gotC (g : Option (Tx × Int)) : Gt := match g with
  | none => gt0
  | some p => if 4096 < p.1.length then ([], p.2, true, true) else (p.1, p.2, true, false)
/-- What is behind a +, as the document puts it together: text and whether it is long. -/
def plusC (g : Gt) (r : Tx) : Tx × Bool :=
  if g.2.2.1 = true ∧ g.2.2.2 = true then ([], true)
  else if g.2.2.1 = true ∧ g.1 ≠ [] then (if r ≠ [] then g.1 ++ 44 :: r else g.1, false)
  else (r, false)
def cutC (t : Tx) (at_ : Int) (is lg : Bool) : Gt := if 4096 < t.length then ([], at_, is, true) else (t, at_, is, lg)
def stepC (f : Option MF) (g : Gt) : Gt := match f with
  | none => cutC g.1 g.2.1 g.2.2.1 g.2.2.2
  | some f => if f.2.2 = nmZ then cutC [] 0 false false else if f.2.2.head? = some 43 then cutC (plusC g f.2.2.tail).1 f.1 true (plusC g f.2.2.tail).2 else cutC f.2.2 f.1 true false
theorem gotC_text (g : Option (Tx × Int)) : (gotC g).1.length ≤ 4096 := by
  unfold gotC
  split
  · simp [gt0]
  · split
    · simp
    · rename_i h
      simpa using h
theorem gotC_is (g : Option (Tx × Int)) : (gotC g).2.2.1 = g.isSome := by
  unfold gotC
  split
  · rfl
  · split <;> rfl
theorem cutC_got (t : Tx) (a : Int) : cutC t a true false = gotC (some (t, a)) := by
  unfold cutC gotC
  rfl
theorem cutC_same {t : Tx} {a : Int} {is lg : Bool} (h : t.length ≤ 4096) : cutC t a is lg = (t, a, is, lg) := by
  unfold cutC
  rw [if_neg (by omega)]
theorem plusC_got (g : Option (Tx × Int)) (r : Tx) (a : Int) : cutC (plusC (gotC g) r).1 a true (plusC (gotC g) r).2 = gotC (some (plusT g r, a)) := by
  cases g with
  | none =>
    have e : plusC (gotC none) r = (r, false) := by
      unfold plusC gotC gt0
      simp
    rw [e]
    exact cutC_got r a
  | some p =>
    by_cases hl : 4096 < p.1.length
    · have e : plusC (gotC (some p)) r = ([], true) := by
        unfold plusC gotC
        simp [hl]
      rw [e]
      have h1 : 4096 < (plusT (some p) r).length := by
        unfold plusT
        have hne : p.1 ≠ [] := by
          intro h
          rw [h] at hl
          simp at hl
        simp only [if_neg hne]
        split
        · exact hl
        · rw [List.length_append, List.length_cons]
          omega
      show cutC [] a true true = gotC (some (plusT (some p) r, a))
      have e2 : gotC (some (plusT (some p) r, a)) = ([], a, true, true) := if_pos h1
      rw [e2]
      rfl
    · have e : plusC (gotC (some p)) r = (plusT (some p) r, false) := by
        unfold plusC gotC plusT
        simp only [if_neg hl]
        by_cases hp : p.1 = []
        · simp [hp]
        · by_cases hr : r = []
          · simp [hp, hr]
          · simp [hp, hr]
      rw [e]
      exact cutC_got _ a
/-- One block's value by the document's way is its value, cut. -/
theorem stepC_got (f : Option MF) (g : Option (Tx × Int)) : stepC f (gotC g) = gotC (ownG f g) := by
  cases f with
  | none =>
    show cutC (gotC g).1 (gotC g).2.1 (gotC g).2.2.1 (gotC g).2.2.2 = gotC g
    rw [cutC_same (gotC_text g)]
  | some f =>
    unfold stepC ownG
    simp only
    by_cases hz : f.2.2 = nmZ
    · rw [if_pos hz, if_pos hz]
      rfl
    · rw [if_neg hz, if_neg hz]
      by_cases h43 : f.2.2.head? = some 43
      · rw [if_pos h43, if_pos h43]
        exact plusC_got g _ f.1
      · rw [if_neg h43, if_neg h43]
        exact cutC_got _ f.1
/-- What is given, as the document finds it: from the last template to the first. -/
def giveC : List Gt → Gt
  | [] => gt0
  | g :: l => if g.2.2.1 = true then g else giveC l
theorem giveC_got : ∀ vs : List (Option (Tx × Int)), giveC (vs.map gotC) = gotC (fstS vs)
  | [] => rfl
  | none :: vs => by
    rw [List.map_cons, giveC, if_neg (by rw [gotC_is]; decide), giveC_got vs]
    rfl
  | some p :: vs => by
    rw [List.map_cons, giveC, if_pos (by rw [gotC_is]; rfl)]
    rfl
theorem got_step {l : List MB} (h : ¬ Cyc (edg l)) (k : Tx) {i : Nat} {b : MB} (hb : l[i]? = some b) :
    gotC (gotT l k i) = stepC (ownF b k) (giveC ((edg l i).map fun j => gotC (gotT l k j))) := by
  rw [gotT_eq h k hb, ← stepC_got, ← giveC_got, List.map_map]
  rfl
/-! How far the sweeps are: those that are known have their values. -/
structure Swp (l : List MB) (k : Tx) (K : List Bool) (O : List Gt) : Prop where
  lenK : K.length = l.length
  lenO : O.length = l.length
  val : ∀ i, K[i]? = some true → O[i]? = some (gotC (gotT l k i))
  sub : ∀ i, K[i]? = some true → ∀ j ∈ edg l i, K[j]? = some true
theorem Swp.init (l : List MB) (k : Tx) : Swp l k (List.replicate l.length false) (List.replicate l.length gt0) where
  lenK := by simp
  lenO := by simp
  val := fun i h => by
    rw [List.getElem?_replicate] at h
    split at h <;> cases h
  sub := fun i h => by
    rw [List.getElem?_replicate] at h
    split at h <;> cases h
/-- One more that is known. -/
theorem Swp.more {l : List MB} {k : Tx} {K : List Bool} {O : List Gt} (h : Swp l k K O) (hc : ¬ Cyc (edg l)) {i : Nat} {b : MB} (hb : l[i]? = some b) (hK : K[i]? = some false) (hu : ∀ j ∈ edg l i, K[j]? = some true) :
    Swp l k (K.set i true) (O.set i (stepC (ownF b k) (giveC ((edg l i).map fun j => O.getD j gt0)))) where
  lenK := by rw [List.length_set]; exact h.lenK
  lenO := by rw [List.length_set]; exact h.lenO
  val := fun m hm => by
    have hil : i < O.length := by rw [h.lenO]; exact (List.getElem?_eq_some_iff.1 hb).1
    by_cases e : i = m
    · subst e
      rw [List.getElem?_set_self hil, got_step hc k hb]
      congr 3
      refine List.map_congr_left fun j hj => ?_
      rw [List.getD_eq_getElem?_getD, h.val j (hu j hj)]
      rfl
    · rw [List.getElem?_set_ne e] at hm ⊢
      exact h.val m hm
  sub := fun m hm j hj => by
    have hjt : K[j]? = some true := by
      by_cases e : i = m
      · subst e; exact hu j hj
      · rw [List.getElem?_set_ne e] at hm
        exact h.sub m hm j hj
    by_cases e : i = j
    · subst e; rw [hK] at hjt; cases hjt
    · rw [List.getElem?_set_ne e]; exact hjt
/-- While one is not known, one can be: so as many sweeps as there are blocks know all. -/
theorem Swp.next {l : List MB} {k : Tx} {K : List Bool} {O : List Gt} (h : Swp l k K O) (hc : ¬ Cyc (edg l)) (hn : ∃ i, i < l.length ∧ K[i]? ≠ some true) : ∃ i, i < l.length ∧ K[i]? = some false ∧ ∀ j ∈ edg l i, K[j]? = some true := by
  obtain ⟨i, hi, hno, hall⟩ := acyc_pick hc (fun _ _ _ hj => edg_lt hj) (fun i => K[i]? = some true) hn
  refine ⟨i, hi, ?_, hall⟩
  have hik : i < K.length := by rw [h.lenK]; exact hi
  rw [List.getElem?_eq_getElem hik] at hno ⊢
  cases hb : K[i] with
  | false => rfl
  | true => rw [hb] at hno; exact absurd rfl hno
end Go.Proofs.YthnogakjaaopkaaGreatDoor
/- Plain: which leads back to itself, by marks set in sweeps (the document's way). -/
namespace Go.Proofs.YthnogakjaaopkaaGreatDoor

/-- Marks: of i itself, and of what it leads to. -/
structure Frm (E : Nat → List Nat) (n i : Nat) (F : List Bool) : Prop where
  len : F.length = n
  self : F[i]? = some true
  frm : ∀ k, F[k]? = some true → k = i ∨ Wy E i k
theorem Frm.init {E : Nat → List Nat} {n i : Nat} (hi : i < n) : Frm E n i ((List.replicate n false).set i true) where
  len := by simp
  self := by rw [List.getElem?_set_self (by simpa using hi)]
  frm := fun k h => by
    by_cases e : i = k
    · exact .inl e.symm
    · rw [List.getElem?_set_ne e, List.getElem?_replicate] at h
      split at h <;> cases h
theorem Frm.cnt {E : Nat → List Nat} {n i : Nat} {F : List Bool} (h : Frm E n i F) : 1 ≤ cntB F ∧ cntB F ≤ n := by
  refine ⟨?_, by rw [← h.len]; exact cntB_le F⟩
  unfold cntB
  have hm : true ∈ F.filter id := List.mem_filter.2 ⟨List.mem_of_getElem? h.self, rfl⟩
  exact List.length_pos_of_mem hm
theorem Frm.loop {E : Nat → List Nat} {n i k : Nat} {F : List Bool} (h : Frm E n i F) (hk : F[k]? = some true) (hi : i ∈ E k) : Wy E i i := by
  rcases h.frm k hk with rfl | hw
  · exact .one hi
  · exact hw.snoc hi
theorem Frm.set {E : Nat → List Nat} {n i k j : Nat} {F : List Bool} (h : Frm E n i F) (hk : F[k]? = some true) (hj : j ∈ E k) : Frm E n i (F.set j true) where
  len := by rw [List.length_set]; exact h.len
  self := by
    by_cases e : j = i
    · subst e
      exact List.getElem?_set_self (List.getElem?_eq_some_iff.1 h.self).1
    · rw [List.getElem?_set_ne e]; exact h.self
  frm := fun m hm => by
    by_cases e : j = m
    · subst e
      rcases h.frm k hk with rfl | hw
      · exact .inr (.one hj)
      · exact .inr (hw.snoc hj)
    · rw [List.getElem?_set_ne e] at hm
      exact h.frm m hm
/-- All that is marked leads to what is marked, and none back. -/
def Shut (E : Nat → List Nat) (i : Nat) (F : List Bool) : Prop := ∀ k, F[k]? = some true → ∀ j ∈ E k, j ≠ i ∧ F[j]? = some true
theorem Frm.no {E : Nat → List Nat} {n i : Nat} {F : List Bool} (h : Frm E n i F) (hs : Shut E i F) : ¬ Wy E i i := by
  have key : ∀ m k, Wy E m k → F[m]? = some true → k ≠ i := by
    intro m k hw
    induction hw with
    | one a => exact fun hm => (hs _ hm _ a).1
    | more a _ ih => exact fun hm => ih (hs _ hm _ a).2
  exact fun hw => key i i hw h.self rfl
/-- Within a sweep: what is ahead of k has been looked at. -/
def Seen (E : Nat → List Nat) (i : Nat) (F0 : List Bool) (k : Nat) (F : List Bool) : Prop :=
  (F = F0 ∧ ∀ m, m < k → F0[m]? = some true → ∀ j ∈ E m, j ≠ i ∧ F0[j]? = some true) ∨ (cntB F0 + 1 ≤ cntB F ∧ ¬ Shut E i F0)
/-- Within a block: its first c templates, too. -/
def SeenIn (E : Nat → List Nat) (i : Nat) (F0 : List Bool) (k c : Nat) (F : List Bool) : Prop :=
  (F = F0 ∧ (∀ m, m < k → F0[m]? = some true → ∀ j ∈ E m, j ≠ i ∧ F0[j]? = some true) ∧ ∀ j ∈ (E k).take c, j ≠ i ∧ F0[j]? = some true) ∨ (cntB F0 + 1 ≤ cntB F ∧ ¬ Shut E i F0)
theorem Seen.init (E : Nat → List Nat) (i : Nat) (F0 : List Bool) : Seen E i F0 0 F0 := .inl ⟨rfl, fun m hm => by omega⟩
theorem Seen.into {E : Nat → List Nat} {i k : Nat} {F0 F : List Bool} (h : Seen E i F0 k F) : SeenIn E i F0 k 0 F := by
  rcases h with ⟨h1, h2⟩ | h
  · exact .inl ⟨h1, h2, fun j hj => by simp at hj⟩
  · exact .inr h
/-- A block that isn't marked is passed over. -/
theorem Seen.skip {E : Nat → List Nat} {i k : Nat} {F0 F : List Bool} (h : Seen E i F0 k F) (hk : F[k]? ≠ some true) : Seen E i F0 (k + 1) F := by
  rcases h with ⟨rfl, h2⟩ | h
  · refine .inl ⟨rfl, fun m hm hv => ?_⟩
    rcases Nat.lt_succ_iff_lt_or_eq.1 hm with h3 | rfl
    · exact h2 m h3 hv
    · exact absurd hv hk
  · exact .inr h
theorem SeenIn.step {E : Nat → List Nat} {i k c j : Nat} {F0 F : List Bool} (h : SeenIn E i F0 k c F) (hk : F[k]? = some true) (hc : c < (E k).length) (hj : (E k)[c] = j) (hne : j ≠ i) (hjl : j < F.length) : SeenIn E i F0 k (c + 1) (F.set j true) := by
  rcases h with ⟨rfl, h2, h3⟩ | h
  · have hb : F[j]? = some F[j] := List.getElem?_eq_getElem hjl
    cases hv : F[j] with
    | true =>
      rw [hv] at hb
      rw [set_same F j hb]
      refine .inl ⟨rfl, h2, fun m hm => ?_⟩
      rw [List.take_succ_eq_append_getElem hc] at hm
      rcases List.mem_append.1 hm with h4 | h4
      · exact h3 m h4
      · rw [List.mem_singleton.1 h4, hj]
        exact ⟨hne, hb⟩
    | false =>
      rw [hv] at hb
      refine .inr ⟨by rw [cntB_set F j hb]; exact Nat.le_refl _, fun hs => ?_⟩
      have := (hs k hk j (by rw [← hj]; exact List.getElem_mem hc)).2
      rw [hb] at this
      cases this
  · right
    have hb : F[j]? = some F[j] := List.getElem?_eq_getElem hjl
    cases hv : F[j] with
    | true => rw [hv] at hb; rw [set_same F j hb]; exact h
    | false => rw [hv] at hb; rw [cntB_set F j hb]; exact ⟨by have := h.1; omega, h.2⟩
theorem SeenIn.out {E : Nat → List Nat} {i k : Nat} {F0 F : List Bool} (h : SeenIn E i F0 k (E k).length F) : Seen E i F0 (k + 1) F := by
  rcases h with ⟨rfl, h2, h3⟩ | h
  · refine .inl ⟨rfl, fun m hm hv => ?_⟩
    rcases Nat.lt_succ_iff_lt_or_eq.1 hm with h4 | rfl
    · exact h2 m h4 hv
    · exact fun j hj => h3 j (by rw [List.take_length]; exact hj)
  · exact .inr h
/-- Behind m sweeps. -/
def Far (E : Nat → List Nat) (i m : Nat) (F : List Bool) : Prop := Shut E i F ∨ m + 1 ≤ cntB F
theorem Far.init {E : Nat → List Nat} {n i : Nat} {F : List Bool} (h : Frm E n i F) : Far E i 0 F := .inr h.cnt.1
theorem Far.next {E : Nat → List Nat} {n i m : Nat} {F0 F : List Bool} (h : Far E i m F0) (hs : Seen E i F0 n F) (hn : F0.length = n) : Far E i (m + 1) F := by
  rcases hs with ⟨rfl, h2⟩ | ⟨h1, h2⟩
  · refine .inl fun k hk => h2 k ?_ hk
    have := (List.getElem?_eq_some_iff.1 hk).1
    omega
  · rcases h with h0 | h0
    · exact absurd h0 h2
    · exact .inr (by omega)
theorem Far.done {E : Nat → List Nat} {n i : Nat} {F : List Bool} (h : Far E i n F) (hf : Frm E n i F) : ¬ Wy E i i := by
  rcases h with h | h
  · exact hf.no h
  · have := hf.cnt.2
    omega
end Go.Proofs.YthnogakjaaopkaaGreatDoor
/- Plain: the first block that a look finds. -/
namespace Go.Proofs.YthnogakjaaopkaaGreatDoor
open Go.RowKit

theorem fstB_none {w : Nat → MB → Option (Int × Nat)} : ∀ (l : List MB) (i : Nat), (∀ (j : Nat) (b : MB), l[j]? = some b → w (i + j) b = none) → fstB w i l = none
  | [], _, _ => rfl
  | b :: l, i, h => by
    rw [fstB, show w i b = none from h 0 b rfl, Option.none_or]
    exact fstB_none l (i + 1) fun j c hc => by
      have := h (j + 1) c hc
      rwa [show i + (j + 1) = i + 1 + j by omega] at this
theorem fstB_hit {w : Nat → MB → Option (Int × Nat)} {r : Int × Nat} : ∀ (l : List MB) (i k : Nat) (b : MB), l[k]? = some b → w (i + k) b = some r → (∀ (j : Nat) (c : MB), j < k → l[j]? = some c → w (i + j) c = none) → fstB w i l = some r
  | b0 :: l, i, 0, b, hb, hw, _ => by
    have : b0 = b := by simpa using hb
    subst this
    rw [fstB, show i = i + 0 from rfl, hw]
    rfl
  | b0 :: l, i, k + 1, b, hb, hw, hno => by
    rw [fstB, show w i b0 = none from hno 0 b0 (by omega) rfl, Option.none_or]
    exact fstB_hit l (i + 1) k b hb (by rwa [show i + 1 + k = i + (k + 1) by omega]) fun j c hj hc => by
      have := hno (j + 1) c (by omega) hc
      rwa [show i + (j + 1) = i + 1 + j by omega] at this
/-- What Check answers, look by look. -/
theorem chk1 {l : List MB} {k : Nat} {b : MB} {r : Int × Nat} (hb : l[k]? = some b) (h : wrgN l k b = some r) (hno : ∀ (j : Nat) (c : MB), j < k → l[j]? = some c → wrgN l j c = none) : chkI l = some r := by
  unfold chkI
  rw [fstB_hit l 0 k b hb (by rw [Nat.zero_add]; exact h) (fun j c hj hc => by rw [Nat.zero_add]; exact hno j c hj hc)]
  rfl
theorem chk2 {l : List MB} {k : Nat} {b : MB} {r : Int × Nat} (h1 : ∀ (j : Nat) (c : MB), l[j]? = some c → wrgN l j c = none) (hb : l[k]? = some b) (h : wrgU l b = some r) (hno : ∀ (j : Nat) (c : MB), j < k → l[j]? = some c → wrgU l c = none) : chkI l = some r := by
  unfold chkI
  rw [fstB_none l 0 (fun j c hc => by rw [Nat.zero_add]; exact h1 j c hc), Option.none_or, fstB_hit l 0 k b hb h hno]
  rfl
theorem chk3 {l : List MB} {k : Nat} {b : MB} (h1 : ∀ (j : Nat) (c : MB), l[j]? = some c → wrgN l j c = none) (h2 : ∀ (j : Nat) (c : MB), l[j]? = some c → wrgU l c = none) (hb : l[k]? = some b) (h : Wy (edg l) k k) (hno : ∀ j, j < k → ¬ Wy (edg l) j j) : chkI l = some (atUse b, 9) := by
  unfold chkI
  have e : wrgL l k b = some (atUse b, 9) := if_pos h
  rw [fstB_none l 0 (fun j c hc => by rw [Nat.zero_add]; exact h1 j c hc), Option.none_or, fstB_none l 0 (fun j c hc => h2 j c hc), Option.none_or,
    fstB_hit l 0 k b hb (by rw [Nat.zero_add]; exact e) (fun j c hj _ => by rw [Nat.zero_add]; exact if_neg (hno j hj))]
  rfl
theorem chk4 {l : List MB} {k : Nat} {b : MB} (h1 : ∀ (j : Nat) (c : MB), l[j]? = some c → wrgN l j c = none) (h2 : ∀ (j : Nat) (c : MB), l[j]? = some c → wrgU l c = none) (h3 : ∀ j, j < l.length → ¬ Wy (edg l) j j) (hb : l[k]? = some b) (h : tooL l k) (hno : ∀ j, j < k → ¬ tooL l j) : chkI l = some (b.1, 2) := by
  unfold chkI
  have e : wrgV l k b = some (b.1, 2) := if_pos h
  rw [fstB_none l 0 (fun j c hc => by rw [Nat.zero_add]; exact h1 j c hc), Option.none_or, fstB_none l 0 (fun j c hc => h2 j c hc), Option.none_or,
    fstB_none l 0 (fun j c hc => by rw [Nat.zero_add]; exact if_neg (h3 j (List.getElem?_eq_some_iff.1 hc).1)), Option.none_or,
    fstB_hit l 0 k b hb (by rw [Nat.zero_add]; exact e) (fun j c hj _ => by rw [Nat.zero_add]; exact if_neg (hno j hj))]
theorem chk5 {l : List MB} (h1 : ∀ (j : Nat) (c : MB), l[j]? = some c → wrgN l j c = none) (h2 : ∀ (j : Nat) (c : MB), l[j]? = some c → wrgU l c = none) (h3 : ∀ j, j < l.length → ¬ Wy (edg l) j j) (h4 : ∀ j, j < l.length → ¬ tooL l j) : chkI l = none := by
  unfold chkI
  rw [fstB_none l 0 (fun j c hc => by rw [Nat.zero_add]; exact h1 j c hc), Option.none_or, fstB_none l 0 (fun j c hc => h2 j c hc), Option.none_or,
    fstB_none l 0 (fun j c hc => by rw [Nat.zero_add]; exact if_neg (h3 j (List.getElem?_eq_some_iff.1 hc).1)), Option.none_or,
    fstB_none l 0 (fun j c hc => by rw [Nat.zero_add]; exact if_neg (h4 j (List.getElem?_eq_some_iff.1 hc).1))]
theorem no_cyc {l : List MB} (h3 : ∀ j, j < l.length → ¬ Wy (edg l) j j) : ¬ Cyc (edg l) := by
  rintro ⟨i, hi⟩
  obtain ⟨j, hj, _⟩ := hi.head
  refine h3 i ?_ hi
  unfold edg usesT at hj
  split at hj
  · cases hj
  · rename_i b hb
    exact (List.getElem?_eq_some_iff.1 hb).1
end Go.Proofs.YthnogakjaaopkaaGreatDoor
/- Plain: values as the program puts them together: what is too long stays as it is. -/
namespace Go.Proofs.YthnogakjaaopkaaGreatDoor
open Go.RowKit

def joinP (g r : Tx) : Tx := if g = [] then r else if r = [] ∨ 4096 < g.length then g else g ++ 44 :: r
def valF (g : Option MF) : Tx := match g with
  | none => []
  | some f => f.2.2
def ownP (f : Option MF) (g : Option MF) : Option MF := match f with
  | none => g
  | some f => if f.2.2 = nmZ then none else if f.2.2.head? = some 43 then some (f.1, f.2.1, joinP (valF g) f.2.2.tail) else some f
def gotPB (l : List MB) (k : Tx) (i : Nat) (vs : List (Option MF)) : Option MF := if three k = true then none else match l[i]? with
  | none => none
  | some b => ownP (ownF b k) (fstS vs)
/-- A block's field for a name in its table. -/
def gotP (l : List MB) (k : Tx) (i : Nat) : Option MF := calV (edg l) none (gotPB l k) l.length i
theorem gotP_eq {l : List MB} (h : ¬ Cyc (edg l)) (k : Tx) {i : Nat} {b : MB} (hb : l[i]? = some b) : gotP l k i = if three k = true then none else ownP (ownF b k) (fstS ((edg l i).map (gotP l k))) := by
  have e := calV_eq (E := edg l) (z := (none : Option MF)) (f := gotPB l k) (n := l.length) h (fun _ _ _ hj => edg_lt hj) (i := i) (List.getElem?_eq_some_iff.1 hb).1
  unfold gotP
  rw [e]
  show gotPB l k i _ = _
  unfold gotPB
  rw [hb]
/-- Text and place of a field. -/
def txA (g : Option MF) : Option (Tx × Int) := g.map fun f => (f.2.2, f.1)
theorem txA_fst : ∀ vs : List (Option MF), fstS (vs.map txA) = txA (fstS vs)
  | [] => rfl
  | none :: vs => by
    show fstS (vs.map txA) = txA (fstS vs)
    exact txA_fst vs
  | some f :: vs => rfl
theorem joinP_got (g : Option MF) (r : Tx) (a : Int) (hg : ∀ f, g = some f → True) : gotC (some (joinP (valF g) r, a)) = gotC (some (plusT (txA g) r, a)) := by
  cases g with
  | none => rfl
  | some f =>
    show gotC (some (joinP f.2.2 r, a)) = gotC (some (plusT (some (f.2.2, f.1)) r, a))
    unfold joinP plusT
    simp only
    by_cases h0 : f.2.2 = []
    · rw [if_pos h0, if_pos h0]
    · rw [if_neg h0, if_neg h0]
      by_cases hr : r = []
      · rw [if_pos (.inl hr), if_pos hr]
      · rw [if_neg hr]
        by_cases hl : 4096 < f.2.2.length
        · rw [if_pos (.inr hl)]
          have e1 : gotC (some (f.2.2, a)) = ([], a, true, true) := if_pos hl
          have e2 : gotC (some (f.2.2 ++ 44 :: r, a)) = ([], a, true, true) := if_pos (by rw [List.length_append]; exact Nat.lt_of_lt_of_le hl (Nat.le_add_right _ _))
          rw [e1, e2]
        · rw [if_neg (by rintro (h | h); exact hr h; exact hl h)]
theorem ownP_got (f : Option MF) (g : Option MF) : gotC (txA (ownP f g)) = stepC f (gotC (txA g)) := by
  rw [stepC_got]
  cases f with
  | none => rfl
  | some f =>
    unfold ownP ownG
    simp only
    by_cases hz : f.2.2 = nmZ
    · rw [if_pos hz, if_pos hz]
      rfl
    · rw [if_neg hz, if_neg hz]
      by_cases h43 : f.2.2.head? = some 43
      · rw [if_pos h43, if_pos h43]
        exact joinP_got g _ f.1 fun _ _ => trivial
      · rw [if_neg h43, if_neg h43]
        rfl
theorem got_same {l : List MB} (h : ¬ Cyc (edg l)) {k : Tx} (hk : three k = false) : ∀ (m i : Nat), rkG (edg l) l.length i < m → i < l.length → gotC (txA (gotP l k i)) = gotC (gotT l k i) := by
  intro m
  induction m with
  | zero => intro i hm; omega
  | succ m ih =>
    intro i hm hi
    have hb : l[i]? = some l[i] := List.getElem?_eq_getElem hi
    rw [got_step h k hb, gotP_eq h k hb, hk]
    simp only [Bool.false_eq_true, if_false]
    rw [ownP_got, ← txA_fst, ← giveC_got, List.map_map, List.map_map]
    congr 2
    refine List.map_congr_left fun j hj => ?_
    have := rkG_lt h hj (edg_lt hj)
    exact ih j (by omega) (edg_lt hj)
/-- The program's value, cut, is the document's. -/
theorem gotP_got {l : List MB} (h : ¬ Cyc (edg l)) {k : Tx} (hk : three k = false) {i : Nat} (hi : i < l.length) : gotC (txA (gotP l k i)) = gotC (gotT l k i) :=
  got_same h hk _ i (Nat.lt_succ_self _) hi
theorem gotC_inj {g g' : Option (Tx × Int)} (h : gotC g = gotC g') (hs : ∀ p, g = some p → p.1.length ≤ 4096) (hs' : ∀ p, g' = some p → p.1.length ≤ 4096) : g = g' := by
  have h1 : (gotC g).2.2.1 = (gotC g').2.2.1 := by rw [h]
  rw [gotC_is, gotC_is] at h1
  cases g with
  | none =>
    cases g' with
    | none => rfl
    | some p => cases h1
  | some p =>
    cases g' with
    | none => cases h1
    | some q =>
      have e1 : gotC (some p) = (p.1, p.2, true, false) := if_neg (by have := hs p rfl; omega)
      have e2 : gotC (some q) = (q.1, q.2, true, false) := if_neg (by have := hs' q rfl; omega)
      rw [e1, e2] at h
      injection h with h2 h3
      injection h3 with h3 _
      rw [show p = q from Prod.ext h2 h3]
theorem gotC_long {g g' : Option (Tx × Int)} (h : gotC g = gotC g') : (∃ p, g = some p ∧ 4096 < p.1.length) ↔ ∃ p, g' = some p ∧ 4096 < p.1.length := by
  have key : ∀ g : Option (Tx × Int), (∃ p, g = some p ∧ 4096 < p.1.length) ↔ (gotC g).2.2.2 = true := by
    intro g
    cases g with
    | none => simp [gotC, gt0]
    | some p =>
      by_cases hl : 4096 < p.1.length
      · have e : gotC (some p) = ([], p.2, true, true) := if_pos hl
        rw [e]
        simp [hl]
      · have e : gotC (some p) = (p.1, p.2, true, false) := if_neg hl
        rw [e]
        simp [hl]
  rw [key, key, h]
/-- A table's names are fields' names, and each field bears its name. -/
theorem ownF_name {b : MB} {k : Tx} {f : MF} (h : ownF b k = some f) : f.2.1 = k ∧ f ∈ b.2.2 := by
  unfold ownF at h
  exact ⟨by simpa using List.find?_some h, List.mem_of_find?_eq_some h⟩
theorem fstS_mem {α : Type} : ∀ {vs : List (Option α)} {a : α}, fstS vs = some a → some a ∈ vs
  | [], _, h => by cases h
  | none :: vs, a, h => List.mem_cons_of_mem _ (fstS_mem (vs := vs) h)
  | some b :: vs, a, h => by
    have : b = a := by simpa [fstS] using h
    subst this
    exact List.mem_cons_self
theorem gotP_in {l : List MB} (h : ¬ Cyc (edg l)) {k : Tx} : ∀ (m i : Nat) (f : MF), rkG (edg l) l.length i < m → i < l.length → gotP l k i = some f → three k = false ∧ f.2.1 = k ∧ ∃ c ∈ l, ∃ g ∈ c.2.2, g.2.1 = k ∧ g.1 = f.1 := by
  intro m
  induction m with
  | zero => intro i f hm; omega
  | succ m ih =>
    intro i f hm hi hf
    have hb : l[i]? = some l[i] := List.getElem?_eq_getElem hi
    rw [gotP_eq h k hb] at hf
    cases hk : three k with
    | true => rw [if_pos hk] at hf; cases hf
    | false =>
      rw [if_neg (by rw [hk]; decide)] at hf
      refine ⟨rfl, ?_⟩
      cases ho : ownF l[i] k with
      | none =>
        rw [ho] at hf
        obtain ⟨j, hj, hj2⟩ := List.mem_map.1 (fstS_mem hf)
        have := rkG_lt h hj (edg_lt hj)
        exact (ih j f (by omega) (edg_lt hj) hj2).2
      | some g =>
        obtain ⟨h1, h2⟩ := ownF_name ho
        rw [ho] at hf
        unfold ownP at hf
        simp only at hf
        have hm2 := List.getElem_mem hi
        split at hf
        · cases hf
        · split at hf
          · have e := Option.some.inj hf
            subst e
            exact ⟨h1, _, hm2, g, h2, h1, rfl⟩
          · have e := Option.some.inj hf
            subst e
            exact ⟨h1, _, hm2, _, h2, h1, rfl⟩
theorem gotP_name {l : List MB} (h : ¬ Cyc (edg l)) {k : Tx} {i : Nat} {f : MF} (hi : i < l.length) (hf : gotP l k i = some f) : three k = false ∧ f.2.1 = k ∧ ∃ c ∈ l, ∃ g ∈ c.2.2, g.2.1 = k ∧ g.1 = f.1 :=
  gotP_in h _ i f (Nat.lt_succ_self _) hi hf
/-- Is one of a block's values in the table too long? -/
theorem tooL_P {l : List MB} (h : ¬ Cyc (edg l)) {i : Nat} (hi : i < l.length) : tooL l i ↔ ∃ k f, gotP l k i = some f ∧ 4096 < f.2.2.length := by
  have key : ∀ k, three k = false → ((∃ v, gotT l k i = some v ∧ 4096 < v.1.length) ↔ ∃ f, gotP l k i = some f ∧ 4096 < f.2.2.length) := by
    intro k hk
    have h1 := gotC_long (gotP_got h hk hi)
    rw [← h1]
    constructor
    · rintro ⟨p, hp, hl⟩
      obtain ⟨f, hf, rfl⟩ := Option.map_eq_some_iff.1 hp
      exact ⟨f, hf, hl⟩
    · rintro ⟨f, hf, hl⟩
      exact ⟨(f.2.2, f.1), by rw [hf]; rfl, hl⟩
  constructor
  · rintro ⟨c, hc, f, hf, h3, hv⟩
    obtain ⟨g, hg⟩ := (key _ h3).1 hv
    exact ⟨_, g, hg⟩
  · rintro ⟨k, f, hf, hl⟩
    obtain ⟨h3, _, c, hc, g, hg, rfl, _⟩ := gotP_name h hi hf
    exact ⟨c, hc, g, hg, h3, (key _ h3).2 ⟨f, hf, hl⟩⟩
/-- Where nothing is too long, the table holds the values. -/
theorem gotP_val {l : List MB} (h : ¬ Cyc (edg l)) {k : Tx} (hk : three k = false) {i : Nat} (hi : i < l.length) (hno : ¬ tooL l i) : txA (gotP l k i) = gotT l k i := by
  have hP : ∀ k f, gotP l k i = some f → f.2.2.length ≤ 4096 := fun k f hf => by
    rcases Nat.lt_or_ge 4096 f.2.2.length with h1 | h1
    · exact absurd ((tooL_P h hi).2 ⟨k, f, hf, h1⟩) hno
    · exact h1
  have hg := gotP_got h hk hi
  refine gotC_inj hg (fun p hp => ?_) (fun p hp => ?_)
  · obtain ⟨f, hf, rfl⟩ := Option.map_eq_some_iff.1 hp
    exact hP k f hf
  · rcases Nat.lt_or_ge 4096 p.1.length with h1 | h1
    · obtain ⟨q, hq, hql⟩ := (gotC_long hg).2 ⟨p, hp, h1⟩
      obtain ⟨f, hf, rfl⟩ := Option.map_eq_some_iff.1 hq
      have := hP k f hf
      dsimp only at hql
      omega
    · exact h1
end Go.Proofs.YthnogakjaaopkaaGreatDoor
/- Tables: maps of fields by their names. -/
namespace Go.Proofs.YthnogakjaaopkaaGreatDoor
open Go.RowKit Go.Maps Go.ChangeMaps Go.WideMaps

def fV (f : MF) : Value := .agg #[.int .i64 f.1, .string (str f.2.1), .string (str f.2.2)]
def fP (f : MF) : Pay := (fV f, [])
def zF0 : MF := (0, [], [])
theorem zeroF9 (w : World) : (zeroValue 45).run Tryz.prog w = .ok (fV zF0) w := by kernel_rfl
/-- Block b is a table with the entries T. -/
def TbE (w : World) (b : Nat) (T : List (Bs × MF)) : Prop := MapI w b (on2 fP T)
/-- Block b is a table that holds this of each name. -/
def TabP (w : World) (b : Nat) (fn : Tx → Option MF) : Prop := ∃ T, TbE w b T ∧ ∀ k, got k T = fn k
section
variable {w w' : World} {b : Nat} {T : List (Bs × MF)} {fn : Tx → Option MF}
theorem TbE.lt (h : TbE w b T) : b < w.heap.size := MapI.lt h
theorem TbE.block (h : TbE w b T) (hb : w'.heap[b]? = w.heap[b]?) : TbE w' b T := MapI.block h hb
theorem TabP.lt (h : TabP w b fn) : b < w.heap.size := by
  obtain ⟨T, h1, _⟩ := h
  exact h1.lt
theorem TabP.block (h : TabP w b fn) (hb : w'.heap[b]? = w.heap[b]?) : TabP w' b fn := by
  obtain ⟨T, h1, h2⟩ := h
  exact ⟨T, h1.block hb, h2⟩
theorem TabP.below (h : TabP w b fn) (hb : Below w.heap.size w w') : TabP w' b fn := h.block (hb.block b h.lt)
theorem TabP.made (w : World) : TabP (w.alloc (.map #[] 0)) w.heap.size (fun _ => none) := ⟨[], World.ownsMap_made w _ _ _, fun _ => rfl⟩
/-- The names are each there once. -/
theorem TbE.nodup (h : TbE w b T) : T.Pairwise fun p q => p.1 ≠ q.1 := by
  obtain ⟨es, he, hp, _⟩ := World.ownsMap.entries h keyLaw9
  unfold mp at he
  injection he with he
  rw [← he] at hp
  unfold on2 at hp
  rw [List.map_map, List.pairwise_map] at hp
  exact hp.imp fun hne e => hne (by simp [e])
theorem got_some_mem {k : Bs} {f : MF} (h : got k T = some f) : (k, f) ∈ T := got_mem h
theorem mem_got (hn : T.Pairwise fun p q => p.1 ≠ q.1) {k : Bs} {f : MF} (h : (k, f) ∈ T) : got k T = some f := by
  induction T with
  | nil => cases h
  | cons p T ih =>
    rw [List.pairwise_cons] at hn
    unfold got at ih ⊢
    rw [List.find?_cons]
    rcases List.mem_cons.1 h with rfl | h
    · simp
    · have hne := hn.1 _ h
      have e : (p.1 == k) = false := beq_eq_false_iff_ne.2 hne
      rw [e]
      exact ih hn.2 h
/-- No more entries than names that can be there. -/
theorem TbE.len (h : TbE w b T) (hf : ∀ k, got k T = fn k) {NL : List Tx} (hN : ∀ k f, fn k = some f → k ∈ NL) : T.length ≤ NL.length := by
  have hn := h.nodup
  have h1 : (T.map (·.1)).Nodup := by
    rw [List.nodup_iff_pairwise_ne, List.pairwise_map]
    exact hn
  have h2 : (T.map (·.1)) ⊆ NL := fun k hk => by
    obtain ⟨p, hp, rfl⟩ := List.mem_map.1 hk
    exact hN p.1 p.2 (by rw [← hf, mem_got hn hp])
  have := h1.length_le_of_subset h2
  rwa [List.length_map] at this
theorem got_on2 (k : Bs) : got k (on2 fP T) = (got k T).map fP := on2_got fP k T
theorem TabP.look (h : TabP w b fn) {k : Tx} (hk : k.length ≤ 1000000) :
    (Instr.lookup 61 (.map (some b)) (.string (str k)) true).run Tryz.prog w = .ok (.tuple #[fV ((fn k).getD zF0), .bool (fn k).isSome]) w := by
  obtain ⟨T, h1, h2⟩ := h
  obtain ⟨v, ps, hr, hv⟩ := World.ownsMap.look_ok h1 keyLaw9 Tryz.underlying61 (zeroF9 w) (zd := .held (fV zF0)) rfl (keyS9 hk)
  rw [mp_at, got_on2, h2] at hv
  rw [mp_has, ← got_has, got_on2, h2] at hr
  rw [hr]
  cases hf : fn k with
  | none =>
    rw [hf] at hv
    simp only [Option.map_none, rv, Option.some.injEq, Prod.mk.injEq, DataW.held.injEq] at hv
    rw [hv.1]
    rfl
  | some f =>
    rw [hf] at hv
    simp only [Option.map_some, rv, Option.some.injEq, Prod.mk.injEq, DataW.held.injEq] at hv
    rw [hv.1]
    rfl
theorem got_del_ne {α : Type} {k k' : Bs} (hne : k' ≠ k) (V : List (Bs × α)) : got k' (del k V) = got k' V := by
  unfold got del
  rw [find_filter_keep (fun p hp => by
    have e : p.1 = k' := by simpa using hp
    simp [e, hne])]
theorem got_del_same {α : Type} (k : Bs) (V : List (Bs × α)) : got k (del k V) = none := by
  unfold got del
  rw [Option.map_eq_none_iff, List.find?_eq_none]
  intro p hp
  have := (List.mem_filter.1 hp).2
  simpa using this
theorem got_ins_ne {α : Type} {k k' : Bs} (hne : k' ≠ k) (a : α) : ∀ V : List (Bs × α), got k' (ins (k, a) V) = got k' V
  | [] => by
    unfold got ins
    rw [List.find?_cons]
    have e : ((k, a).1 == k') = false := beq_eq_false_iff_ne.2 (Ne.symm hne)
    rw [e]
  | y :: r => by
    have ih := got_ins_ne hne a r
    have e : ((k, a).1 == k') = false := beq_eq_false_iff_ne.2 (Ne.symm hne)
    unfold ins
    split
    · unfold got
      rw [List.find?_cons, e]
    · unfold got at ih ⊢
      rw [List.find?_cons, List.find?_cons]
      split
      · rfl
      · exact ih
theorem got_ins_same {α : Type} (k : Bs) (a : α) : ∀ V : List (Bs × α), (∀ p ∈ V, p.1 ≠ k) → got k (ins (k, a) V) = some a
  | [], _ => by simp [got, ins]
  | y :: r, h => by
    have ih := got_ins_same k a r fun p hp => h p (List.mem_cons_of_mem _ hp)
    unfold ins
    split
    · simp [got]
    · unfold got at ih ⊢
      rw [List.find?_cons]
      have e : (y.1 == k) = false := beq_eq_false_iff_ne.2 (h y List.mem_cons_self)
      rw [e]
      exact ih
theorem got_putG {α : Type} (k k' : Bs) (a : α) (V : List (Bs × α)) : got k' (put k a V) = if k' = k then some a else got k' V := by
  unfold put
  by_cases e : k' = k
  · subst e
    rw [if_pos rfl, got_ins_same _ _ _ fun p hp => by
      have := (List.mem_filter.1 hp).2
      simpa using this]
  · rw [if_neg e, got_ins_ne e, got_del_ne e]
theorem on2_putF (k : Bs) (f : MF) : on2 fP (put k f T) = put k (fP f) (on2 fP T) := on2_put fP k f T
theorem TabP.put (h : TabP w b fn) {k : Tx} (hk : k.length ≤ 1000000) (f : MF) {NL : List Tx} (hN : ∀ k f, fn k = some f → k ∈ NL) (hNl : NL.length ≤ 1000000) :
    ∃ w', (Instr.mapUpdate 61 (.map (some b)) (.string (str k)) (fV f)).run Tryz.prog w = .ok () w' ∧ TabP w' b (fun k' => if k' = k then some f else fn k') ∧ w.grownBy w' (some b) := by
  obtain ⟨T, h1, h2⟩ := h
  have hl := h1.len h2 hN
  obtain ⟨w', hr, ho, hg⟩ := World.ownsMap.update (d := .held (fV f)) (ps := []) (val := fV f) h1 keyLaw9 Tryz.underlying61 (by rw [on2_len]; unfold maxLen; omega) (keyS9 hk) rfl
  refine ⟨w', hr, ⟨Go.Proofs.YthnogakjaaopkaaGreatDoor.put k f T, ?_, fun k' => ?_⟩, hg⟩
  · unfold TbE
    rw [on2_putF]
    exact MapI.of (by rw [← mp_put]; exact ho)
  · rw [got_putG, h2]
theorem TabP.del (h : TabP w b fn) {k : Tx} (hk : k.length ≤ 1000000) (ty : TypeId) :
    ∃ w', (Builtin.delete_ #[61, 9] ty #[.map (some b), .string (str k)]).run Tryz.prog w = .ok (.tuple #[]) w' ∧ TabP w' b (fun k' => if k' = k then none else fn k') ∧ w.grownBy w' (some b) := by
  obtain ⟨T, h1, h2⟩ := h
  obtain ⟨w', hr, ho, hg⟩ := World.ownsMap.drop h1 keyLaw9 Tryz.underlying61 (keyS9 hk) ty
  refine ⟨w', hr, ⟨Go.Proofs.YthnogakjaaopkaaGreatDoor.del k T, ?_, fun k' => ?_⟩, hg.grown⟩
  · unfold TbE
    rw [on2_del]
    exact MapI.of (by rw [← mp_del]; exact ho)
  · dsimp only
    by_cases e : k' = k
    · subst e
      rw [if_pos rfl, got_del_same]
    · rw [if_neg e, got_del_ne e, h2]
/-! Under way over a table. -/
/-- Behind some rounds: which names are left, and how many. -/
def TabR (w : World) (b r : Nat) (fn : Tx → Option MF) (left : Tx → Bool) (cnt : Nat) : Prop :=
  ∃ (D : DataW Value) (n : Nat) (lf : Lit → Bool) (T : List (Bs × MF)), D = mp (on2 fP T) ∧ (∀ k, got k T = fn k) ∧ w.ranges Tryz.prog 9 rv b r n D lf cnt ∧ n = (on2 fP T).length ∧ ∀ k, lf (.string k) = left k
theorem TabR.tab {r cnt : Nat} {left : Tx → Bool} (h : TabR w b r fn left cnt) : TabP w b fn := by
  obtain ⟨D, n, lf, T, rfl, h2, h3, rfl, _⟩ := h
  exact ⟨T, h3.owns, h2⟩
theorem TabR.lt {r cnt : Nat} {left : Tx → Bool} (h : TabR w b r fn left cnt) : r < w.heap.size := by
  obtain ⟨D, n, lf, T, rfl, h2, h3, _⟩ := h
  exact h3.lt
theorem TabR.kept {r cnt : Nat} {left : Tx → Bool} {row : Option Nat} (h : TabR w b r fn left cnt) (hg : w.grownBy w' row) (hb : some b ≠ row) (hr : some r ≠ row) : TabR w' b r fn left cnt := by
  obtain ⟨D, n, lf, T, h1, h2, h3, h4, h5⟩ := h
  exact ⟨D, n, lf, T, h1, h2, h3.kept hg hb hr, h4, h5⟩
theorem TabR.left_eq {r cnt : Nat} {left : Tx → Bool} (h : TabR w b r fn left cnt) : w.rangeLeft b r = cnt := by
  obtain ⟨D, n, lf, T, h1, h2, h3, _⟩ := h
  exact h3.left_eq
theorem TabP.range (h : TabP w b fn) : ∃ w' cnt, (Instr.range 61 (.map (some b))).run Tryz.prog w = .ok (.pointer (some ⟨w.heap.size, 0, none⟩)) w' ∧ TabR w' b w.heap.size fn (fun k => (fn k).isSome) cnt ∧ w.grownBy w' none ∧ w'.heap.size = w.heap.size + 1 := by
  obtain ⟨T, h1, h2⟩ := h
  obtain ⟨w', hr, ho, hg, hs⟩ := World.ownsMap.range h1 keyLaw9 Tryz.underlying61
  refine ⟨w', _, hr, ⟨_, _, _, T, rfl, h2, ho, rfl, fun k => ?_⟩, hg, hs⟩
  rw [mp_has, ← got_has, got_on2, h2]
  cases h9 : fn k <;> simp [h9]
/-- The next one. -/
theorem TabR.next {r cnt : Nat} {left : Tx → Bool} (h : TabR w b r fn left cnt) (ty : TypeId) :
    (cnt = 0 ∧ (∀ k, left k = false) ∧ (Instr.next (.pointer (some ⟨r, 0, none⟩)) false ty).run Tryz.prog w = .ok (.tuple #[.bool false]) w) ∨
    ∃ (k : Tx) (f : MF) (w' : World) (cnt' : Nat), left k = true ∧ fn k = some f ∧ (Instr.next (.pointer (some ⟨r, 0, none⟩)) false ty).run Tryz.prog w = .ok (.tuple #[.bool true, .string (str k), fV f]) w' ∧
      TabR w' b r fn (fun x => left x && !(x == k)) cnt' ∧ cnt' < cnt ∧ w.grownBy w' (some r) ∧ w'.heap.size = w.heap.size ∧ (Instr.entry (.pointer (some ⟨r, 0, none⟩))).run Tryz.prog w' = .ok (.tuple #[.string (str k), fV f]) w' := by
  obtain ⟨D, n, lf, T, rfl, h2, h3, h4, h5⟩ := h
  rcases h3.next keyLaw9 ty with ⟨e1, e2, e3⟩ | ⟨key, v, kl, y, w', cnt', e1, e2, e3, e4, e5, e6, e7, e8, e9, e10⟩
  · exact .inl ⟨e1, fun k => by rw [← h5]; exact e2 _, e3⟩
  · obtain ⟨k, rfl, rfl, _⟩ := Maps.keyOf_str Tryz.underlying9 e1
    have hy : y.1 = .held v := by
      unfold rv at e3
      simp only [Option.some.injEq] at e3
      rw [← e3]
    have hf : ∃ f, got k T = some f ∧ v = fV f := by
      have h9 := e4 (.map [])
      rw [mp_at, got_on2, hy] at h9
      cases hg : got k T with
      | none =>
        rw [hg] at h9
        cases h9
      | some f =>
        rw [hg] at h9
        refine ⟨f, rfl, ?_⟩
        simp only [Option.map_some, DataW.held.injEq] at h9
        rw [← h9]
        rfl
    obtain ⟨f, hg, rfl⟩ := hf
    refine .inr ⟨k, f, w', cnt', by rw [← h5]; exact e2, by rw [← h2]; exact hg, e5, ⟨_, n, _, T, rfl, h2, e6, h4, fun x => ?_⟩, e7, e8, e9, e10⟩
    simp only [Lit.sameKey, h5]
end
set_option maxRecDepth 100000 in
set_option maxHeartbeats 2000000 in
/-- Is one of a table's values too long? -/
theorem isLong_any (b : Nat) (fn : Tx → Option MF) (w : World) (h : TabP w b fn) :
    Calls Tryz.prog 53 #[.map (some b)] w fun e w' => Below w.heap.size w w' ∧ ((e = .returned (.bool true) ∧ ∃ k f, fn k = some f ∧ 4096 < f.2.2.length) ∨ (e = .returned (.bool false) ∧ ∀ k f, fn k = some f → f.2.2.length ≤ 4096)) := by
  obtain ⟨w1, cnt, hrg, hR, hg1, hs1⟩ := h.range
  have HR := Lib.hid (And.intro hR hg1)
  have hb := h.lt
  clear hR hg1 h
  go_enter Tryz.func53, Tryz.ntmps53
  go_wp2_with fail
  go_loopw [4] (fun _ wr => ∃ (left : Tx → Bool) (cnt : Nat), TabR wr b w.heap.size fn left cnt ∧ Below w.heap.size w wr ∧ ∀ k f, fn k = some f → left k = false → f.2.2.length ≤ 4096) (fun _ wr => wr.rangeLeft b w.heap.size)
  case atStart => exact ⟨_, _, HR.out.1, ⟨HR.out.2.os, HR.out.2.tape, HR.out.2.output, HR.out.2.size, fun k hk => HR.out.2.block k hk (by simp)⟩, fun k f hf hl => by rw [hf] at hl; cases hl⟩
  case round =>
    obtain ⟨left, cnt, hR, hbl, hno⟩ := hrel
    have hle := hR.left_eq
    rcases hR.next 0 with ⟨_, hl, hnx⟩ | ⟨k, f, w3, cnt', hl, hf, hnx, hR3, hlt, hg3, hs3, hen⟩
    · have HN := Lib.hid (And.intro hbl (And.intro hno hl))
      clear hR hbl hno hle hl
      go_wp2_with fail
      go_ret
      exact ⟨HN.out.1, .inr ⟨rfl, fun k f hf => HN.out.2.1 k f hf (HN.out.2.2 k)⟩⟩
    · have hb3 : Below w.heap.size w w3 := hbl.grown hg3 hbl.size (fun j hj => by injection hj with hj; omega)
      have hno3 : ∀ k' f', fn k' = some f' → (left k' && !(k' == k)) = false → f.2.2.length ≤ 4096 → f'.2.2.length ≤ 4096 := fun k' f' h1 h2 h3 => by
        by_cases e : k' = k
        · subst e
          rw [hf] at h1
          injection h1 with h1
          rw [← h1]
          exact h3
        · refine hno k' f' h1 ?_
          simpa [e] using h2
      obtain ⟨V, hV⟩ : ∃ V, str f.2.2 = V := ⟨_, rfl⟩
      obtain ⟨N1, hN1⟩ : ∃ V, str f.2.1 = V := ⟨_, rfl⟩
      obtain ⟨K1, hK1⟩ : ∃ V, str k = V := ⟨_, rfl⟩
      have hsz : V.size = f.2.2.length := by rw [← hV]; exact str_size _
      unfold fV at hnx hen
      rw [hV, hN1, hK1] at hnx hen
      have HN := Lib.hid (And.intro hb3 (And.intro hno3 (And.intro hR3 (And.intro hlt (And.intro hle hf)))))
      have HS := Lib.hid hsz
      clear hV hN1 hK1 hb3 hno3 hR3 hR hbl hno hlt hle hl hf hg3
      by_cases hlong : 4096 < f.2.2.length
      · have q : (4096 : Int) < V.size := by rw [HS.out]; omega
        clear hsz
        go_wp2_with fail
        go_ret
        exact ⟨HN.out.1.alloc HN.out.1.size _, .inl ⟨rfl, k, f, HN.out.2.2.2.2.2, hlong⟩⟩
      · have q : ¬ (4096 : Int) < V.size := by rw [HS.out]; omega
        clear hsz
        go_wp2_with fail
        have hR4 : TabR (w3.alloc (.cells #[.int .i64 f.1, .string N1, .string V] 45)) b w.heap.size fn (fun x => left x && !(x == k)) cnt' := HN.out.2.2.1.kept (World.grownBy_alloc _ _ none) (by simp) (by simp)
        refine ⟨⟨_, cnt', hR4, HN.out.1.alloc HN.out.1.size _, fun k' f' h1 h2 => HN.out.2.1 k' f' h1 h2 (by omega)⟩, ?_⟩
        rw [hR4.left_eq, HN.out.2.2.2.2.1]
        exact HN.out.2.2.2.1
end Go.Proofs.YthnogakjaaopkaaGreatDoor

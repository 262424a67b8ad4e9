/- Plain: groups, items, and who is whose member (chapter 13's words; of no program). -/
import Derived.Test.YtkfnbapnkmlopaaDoorGrMath
import Derived.Test.YtkfnbapnkmlopaaDoorLx8
namespace Go.Proofs.YtkfnbapnkmlopaaDoor

abbrev Grp := Tx × List Tx × List Tx
abbrev Itm := Tx × List Tx
/-- The place of a name; -1: it is none. -/
def ixI : List Tx → Tx → Int
  | [], _ => -1
  | t :: L, s => if t = s then 0 else if ixI L s < 0 then -1 else ixI L s + 1
theorem ixI_ge : ∀ (L : List Tx) (s : Tx), -1 ≤ ixI L s
  | [], _ => by unfold ixI; omega
  | t :: L, s => by
    have := ixI_ge L s
    unfold ixI
    split
    · omega
    · split <;> omega
theorem ixI_no {L : List Tx} {s : Tx} : ixI L s = -1 ↔ s ∉ L := by
  induction L with
  | nil => simp [ixI]
  | cons t L ih =>
    have h0 := ixI_ge L s
    unfold ixI
    by_cases e : t = s
    · rw [if_pos e]
      simp [e]
    · rw [if_neg e]
      have e2 : ¬ s = t := fun h => e h.symm
      by_cases h : ixI L s < 0
      · rw [if_pos h]
        have : s ∉ L := ih.1 (by omega)
        simp [this, e2]
      · rw [if_neg h]
        have : s ∈ L := Classical.byContradiction fun hn => by have := ih.2 hn; omega
        simp [this]
        omega
theorem ixI_hit : ∀ {L : List Tx} {s : Tx} {i : Nat}, L[i]? = some s → (∀ j, j < i → L[j]? ≠ some s) → ixI L s = i
  | [], _, _, h, _ => by simp at h
  | t :: L, s, 0, h, _ => by
    have : t = s := by simpa using h
    unfold ixI
    rw [if_pos this]
    rfl
  | t :: L, s, i + 1, h, hno => by
    have h1 : ixI L s = i := ixI_hit (by simpa using h) (fun j hj => by have := hno (j + 1) (by omega); simpa using this)
    have e : ¬ t = s := fun e => hno 0 (by omega) (by simp [e])
    unfold ixI
    rw [if_neg e, h1, if_neg (by omega)]
    omega
theorem ixI_at : ∀ {L : List Tx} {s : Tx} {i : Nat}, ixI L s = i → L[i]? = some s ∧ ∀ j, j < i → L[j]? ≠ some s
  | [], s, i, h => by unfold ixI at h; omega
  | t :: L, s, i, h => by
    unfold ixI at h
    by_cases e : t = s
    · rw [if_pos e] at h
      have : i = 0 := by omega
      subst this
      exact ⟨by simp [e], fun j hj => absurd hj (Nat.not_lt_zero j)⟩
    · rw [if_neg e] at h
      by_cases h0 : ixI L s < 0
      · rw [if_pos h0] at h; omega
      · rw [if_neg h0] at h
        obtain ⟨k, rfl⟩ : ∃ k, i = k + 1 := ⟨i - 1, by omega⟩
        obtain ⟨h1, h2⟩ := ixI_at (L := L) (s := s) (i := k) (by omega)
        refine ⟨by simpa using h1, fun j hj => ?_⟩
        cases j with
        | zero => simp [e]
        | succ j => have := h2 j (by omega); simpa using this
theorem ixI_lt {L : List Tx} {s : Tx} {i : Nat} (h : ixI L s = i) : i < L.length := (List.getElem?_eq_some_iff.1 (ixI_at h).1).1
theorem ixI_mem {L : List Tx} {s : Tx} : 0 ≤ ixI L s ↔ s ∈ L := by
  have h := ixI_ge L s
  constructor
  · intro h0
    exact Classical.byContradiction fun hn => by have := ixI_no.2 hn; omega
  · intro h0
    exact Classical.byContradiction fun hn => by
      have e : ixI L s = -1 := by omega
      exact ixI_no.1 e h0
/-- The first of n that is hit. -/
def fiN (n : Nat) (p : Nat → Bool) : Option Nat := (List.range n).find? p
theorem fiN_hit {n i : Nat} {p : Nat → Bool} (hi : i < n) (hp : p i = true) (hno : ∀ j, j < i → p j = false) : fiN n p = some i := by
  unfold fiN
  rw [List.find?_range_eq_some]
  refine ⟨hp, List.mem_range.2 hi, fun j hj => ?_⟩
  rw [hno j hj]
  rfl
theorem fiN_no {n : Nat} {p : Nat → Bool} (hno : ∀ j, j < n → p j = false) : fiN n p = none := by
  unfold fiN
  rw [List.find?_eq_none]
  intro x hx h
  rw [hno x (List.mem_range.1 hx)] at h
  cases h
theorem fiN_none {n : Nat} {p : Nat → Bool} (h : fiN n p = none) : ∀ j, j < n → p j = false := fun j hj => by
  unfold fiN at h
  rw [List.find?_eq_none] at h
  have := h j (List.mem_range.2 hj)
  simpa using this
theorem fiN_some {n i : Nat} {p : Nat → Bool} (h : fiN n p = some i) : i < n ∧ p i = true ∧ ∀ j, j < i → p j = false := by
  unfold fiN at h
  rw [List.find?_range_eq_some] at h
  refine ⟨List.mem_range.1 h.2.1, h.1, fun j hj => ?_⟩
  have := h.2.2 j hj
  simpa using this
def gN (g : List Grp) : List Tx := g.map (·.1)
def iN (x : List Itm) : List Tx := x.map (·.1)
def fullG (g : List Grp) (x : List Itm) : Bool := decide (1024 < g.length) || decide (1024 < x.length) || g.any (fun a => decide (4096 < a.2.1.length) || decide (4096 < a.2.2.length)) || x.any (fun a => decide (4096 < a.2.length))
/-- Has an earlier one this name? -/
def twB (L : List Tx) (i : Nat) : Bool := decide (ixI L (L.getD i []) ≠ i)
def nonB (g : List Grp) (x : List Itm) (i : Nat) : Bool := (g[i]?).any fun a => a.2.1.any (fun s => decide (ixI (iN x) s < 0)) || a.2.2.any fun s => decide (ixI (gN g) s < 0)
def noiB (g : List Grp) (x : List Itm) (i : Nat) : Bool := (x[i]?).any fun b => b.2.any fun s => decide (ixI (gN g) s < 0)
/-- Where a group's groups are. -/
def eG (g : List Grp) (i : Nat) : List Nat := ((g[i]?).map fun a => a.2.2.map fun s => (ixI (gN g) s).toNat).getD []
/-- The ways from groups to their groups. -/
def wyG (g : List Grp) : Wt := (List.range g.length).flatMap fun i => (eG g i).map fun j => (i, j)
open Classical in
noncomputable def lopB (g : List Grp) (i : Nat) : Bool := decide (Wy (eM (wyG g)) i i)
open Classical in
theorem lopB_no {g : List Grp} {i : Nat} : lopB g i = false ↔ ¬ Wy (eM (wyG g)) i i := by unfold lopB; simp
open Classical in
theorem lopB_yes {g : List Grp} {i : Nat} : lopB g i = true ↔ Wy (eM (wyG g)) i i := by unfold lopB; simp
/-- What is wrong first: where, and how. -/
noncomputable def ckG (g : List Grp) (x : List Itm) : Nat × Nat :=
  if fullG g x = true then (0, 10) else
  match fiN g.length (twB (gN g)) with
  | some i => (i, 7)
  | none => match fiN x.length (twB (iN x)) with
    | some i => (g.length + i, 7)
    | none => match fiN g.length (nonB g x) with
      | some i => (i, 8)
      | none => match fiN x.length (noiB g x) with
        | some i => (g.length + i, 8)
        | none => match fiN g.length (lopB g) with
          | some i => (i, 9)
          | none => (0, 0)
section
variable {g : List Grp} {x : List Itm}
theorem ckG_full (h : fullG g x = true) : ckG g x = (0, 10) := by unfold ckG; rw [if_pos h]
theorem ckG_tw {i : Nat} (h : fullG g x = false) (h1 : fiN g.length (twB (gN g)) = some i) : ckG g x = (i, 7) := by unfold ckG; rw [if_neg (by rw [h]; decide), h1]
theorem ckG_ti {i : Nat} (h : fullG g x = false) (h1 : fiN g.length (twB (gN g)) = none) (h2 : fiN x.length (twB (iN x)) = some i) : ckG g x = (g.length + i, 7) := by unfold ckG; rw [if_neg (by rw [h]; decide), h1, h2]
theorem ckG_no {i : Nat} (h : fullG g x = false) (h1 : fiN g.length (twB (gN g)) = none) (h2 : fiN x.length (twB (iN x)) = none) (h3 : fiN g.length (nonB g x) = some i) : ckG g x = (i, 8) := by unfold ckG; rw [if_neg (by rw [h]; decide), h1, h2, h3]
theorem ckG_ni {i : Nat} (h : fullG g x = false) (h1 : fiN g.length (twB (gN g)) = none) (h2 : fiN x.length (twB (iN x)) = none) (h3 : fiN g.length (nonB g x) = none) (h4 : fiN x.length (noiB g x) = some i) : ckG g x = (g.length + i, 8) := by unfold ckG; rw [if_neg (by rw [h]; decide), h1, h2, h3, h4]
theorem ckG_lp {i : Nat} (h : fullG g x = false) (h1 : fiN g.length (twB (gN g)) = none) (h2 : fiN x.length (twB (iN x)) = none) (h3 : fiN g.length (nonB g x) = none) (h4 : fiN x.length (noiB g x) = none) (h5 : fiN g.length (lopB g) = some i) : ckG g x = (i, 9) := by unfold ckG; rw [if_neg (by rw [h]; decide), h1, h2, h3, h4, h5]
theorem ckG_ok (h : fullG g x = false) (h1 : fiN g.length (twB (gN g)) = none) (h2 : fiN x.length (twB (iN x)) = none) (h3 : fiN g.length (nonB g x) = none) (h4 : fiN x.length (noiB g x) = none) (h5 : fiN g.length (lopB g) = none) : ckG g x = (0, 0) := by unfold ckG; rw [if_neg (by rw [h]; decide), h1, h2, h3, h4, h5]
/-- All is right. -/
structure OkG (g : List Grp) (x : List Itm) : Prop where
  full : fullG g x = false
  tg : ∀ i, i < g.length → twB (gN g) i = false
  ti : ∀ i, i < x.length → twB (iN x) i = false
  no : ∀ i, i < g.length → nonB g x i = false
  ni : ∀ i, i < x.length → noiB g x i = false
  lp : ∀ i, i < g.length → ¬ Wy (eM (wyG g)) i i
theorem okG_of (h : (ckG g x).2 = 0) : OkG g x := by
  cases hf : fullG g x with
  | true => rw [ckG_full hf] at h; cases h
  | false =>
    cases h1 : fiN g.length (twB (gN g)) with
    | some i => rw [ckG_tw hf h1] at h; cases h
    | none =>
      cases h2 : fiN x.length (twB (iN x)) with
      | some i => rw [ckG_ti hf h1 h2] at h; cases h
      | none =>
        cases h3 : fiN g.length (nonB g x) with
        | some i => rw [ckG_no hf h1 h2 h3] at h; cases h
        | none =>
          cases h4 : fiN x.length (noiB g x) with
          | some i => rw [ckG_ni hf h1 h2 h3 h4] at h; cases h
          | none =>
            cases h5 : fiN g.length (lopB g) with
            | some i => rw [ckG_lp hf h1 h2 h3 h4 h5] at h; cases h
            | none => exact ⟨hf, fiN_none h1, fiN_none h2, fiN_none h3, fiN_none h4, fun i hi => lopB_no.1 (fiN_none h5 i hi)⟩
theorem OkG.ck (h : OkG g x) : ckG g x = (0, 0) :=
  ckG_ok h.full (fiN_no h.tg) (fiN_no h.ti) (fiN_no h.no) (fiN_no h.ni) (fiN_no fun i hi => lopB_no.2 (h.lp i hi))
theorem ckG_zero : (ckG g x).2 = 0 ↔ OkG g x := ⟨okG_of, fun h => by rw [h.ck]⟩
theorem ckG_at (h : (ckG g x).2 = 0) : (ckG g x).1 = 0 := by rw [(okG_of h).ck]
theorem twB_no {L : List Tx} (h : ∀ i, i < L.length → twB L i = false) : L.Nodup := by
  refine List.pairwise_iff_getElem.2 fun i j hi hj hij e => ?_
  have h1 := h j hj
  unfold twB at h1
  have h2 : ixI L (L.getD j []) = j := by simpa using h1
  have hd : L.getD j [] = L[j] := by rw [List.getD_eq_getElem?_getD, List.getElem?_eq_getElem hj]; rfl
  rw [hd] at h2
  exact (ixI_at h2).2 i hij (by rw [List.getElem?_eq_getElem hi, e])
theorem twB_of {L : List Tx} (h : L.Nodup) : ∀ i, i < L.length → twB L i = false := fun i hi => by
  have hd : L.getD i [] = L[i] := by rw [List.getD_eq_getElem?_getD, List.getElem?_eq_getElem hi]; rfl
  have : ixI L (L.getD i []) = i := by
    rw [hd]
    refine ixI_hit (List.getElem?_eq_getElem hi) fun j hj e => ?_
    have h2 := List.pairwise_iff_getElem.1 h j i (by omega) hi hj
    rw [List.getElem?_eq_getElem (by omega)] at e
    exact h2 (Option.some.inj e)
  unfold twB
  rw [this]
  simp
theorem eG_at {i : Nat} {a : Grp} (h : g[i]? = some a) : eG g i = a.2.2.map fun s => (ixI (gN g) s).toNat := by unfold eG; rw [h]; rfl
theorem eG_out {i : Nat} (h : g.length ≤ i) : eG g i = [] := by unfold eG; rw [List.getElem?_eq_none h]; rfl
theorem wyG_mem {i j : Nat} : (i, j) ∈ wyG g ↔ j ∈ eG g i := by
  unfold wyG
  rw [List.mem_flatMap]
  constructor
  · rintro ⟨k, hk, h⟩
    obtain ⟨y, hy, e⟩ := List.mem_map.1 h
    injection e with e1 e2
    subst e1 e2
    exact hy
  · intro h
    refine ⟨i, List.mem_range.2 (Classical.byContradiction fun hn => ?_), List.mem_map.2 ⟨j, h, rfl⟩⟩
    rw [eG_out (by omega)] at h
    cases h
theorem eM_wyG {i j : Nat} : j ∈ eM (wyG g) i ↔ j ∈ eG g i := by rw [eM_mem, wyG_mem]
theorem okW (h : ∀ i, i < g.length → nonB g x i = false) : Okw g.length (wyG g) := fun p hp => by
  have hm : p.2 ∈ eG g p.1 := wyG_mem.1 hp
  have hi : p.1 < g.length := Classical.byContradiction fun hn => by rw [eG_out (by omega)] at hm; cases hm
  refine ⟨hi, ?_⟩
  have ha : g[p.1]? = some g[p.1] := List.getElem?_eq_getElem hi
  rw [eG_at ha] at hm
  obtain ⟨s, hs, e⟩ := List.mem_map.1 hm
  have h1 := h p.1 hi
  unfold nonB at h1
  rw [ha] at h1
  simp only [Option.any_some, Bool.or_eq_false_iff, List.any_eq_false, decide_eq_true_eq] at h1
  have h2 := h1.2 s hs
  obtain ⟨k, hk⟩ : ∃ k : Nat, ixI (gN g) s = k := ⟨(ixI (gN g) s).toNat, by omega⟩
  have h3 := ixI_lt hk
  unfold gN at h3
  rw [List.length_map] at h3
  rw [← e, hk]
  omega
end
/-! Members. -/
/-- Is an item a group's, by its name, or by the item's word? -/
def dirB (g : List Grp) (x : List Itm) (j k : Nat) : Bool := (g[j]?).any fun a => (x[k]?).any fun b => a.2.1.contains b.1 || b.2.contains a.1
def memB (g : List Grp) (x : List Itm) (i k : Nat) : Prop := ∃ j, (j = i ∨ Wy (eM (wyG g)) i j) ∧ dirB g x j k = true
open Classical in
noncomputable def memL (g : List Grp) (x : List Itm) (i : Nat) : List Nat := (List.range x.length).filter fun k => decide (memB g x i k)
noncomputable def exG (g : List Grp) (x : List Itm) : List (List Nat) := (List.range g.length).map (memL g x)
theorem memL_mem {g : List Grp} {x : List Itm} {i k : Nat} : k ∈ memL g x i ↔ k < x.length ∧ memB g x i k := by
  unfold memL
  rw [List.mem_filter, List.mem_range]
  simp
theorem memB_dir {g : List Grp} {x : List Itm} {i k : Nat} (h : dirB g x i k = true) : memB g x i k := ⟨i, .inl rfl, h⟩
theorem memB_up {g : List Grp} {x : List Itm} {i j k : Nat} (hj : j ∈ eG g i) (h : memB g x j k) : memB g x i k := by
  obtain ⟨t, ht, hd⟩ := h
  refine ⟨t, .inr ?_, hd⟩
  rcases ht with rfl | ht
  · exact .one (eM_wyG.2 hj)
  · exact .more (eM_wyG.2 hj) ht
theorem memB_iff {g : List Grp} {x : List Itm} {i k : Nat} : memB g x i k ↔ dirB g x i k = true ∨ ∃ j, j ∈ eG g i ∧ memB g x j k := by
  constructor
  · rintro ⟨t, rfl | ht, hd⟩
    · exact .inl hd
    · obtain ⟨j, hj, hw⟩ := ht.head
      refine .inr ⟨j, eM_wyG.1 hj, t, ?_, hd⟩
      rcases hw with e | hw
      · exact .inl e.symm
      · exact .inr hw
  · rintro (h | ⟨j, hj, h⟩)
    · exact memB_dir h
    · exact memB_up hj h
/-! Rounds in which groups take over from their groups what these have. -/
/-- Behind r whole rounds, i groups of the next one, and j groups of group i. -/
structure Rex (g : List Grp) (x : List Itm) (r i j : Nat) (F : Nat → Nat → Bool) : Prop where
  snd : ∀ a k, F a k = true → memB g x a k
  dir : ∀ a k, a < g.length → k < x.length → dirB g x a k = true → F a k = true
  lo : ∀ a k, a < g.length → k < x.length → rkG (eM (wyG g)) g.length a < r → memB g x a k → F a k = true
  done : ∀ a k, a < i → a < g.length → k < x.length → rkG (eM (wyG g)) g.length a < r + 1 → memB g x a k → F a k = true
  part : ∀ t ∈ (eG g i).take j, ∀ k, k < x.length → rkG (eM (wyG g)) g.length t < r → memB g x t k → F i k = true
theorem Rex.init (g : List Grp) (x : List Itm) (F : Nat → Nat → Bool) (hF : ∀ a k, F a k = true ↔ a < g.length ∧ k < x.length ∧ dirB g x a k = true) : Rex g x 0 0 0 F where
  snd := fun a k h => memB_dir ((hF a k).1 h).2.2
  dir := fun a k ha hk h => (hF a k).2 ⟨ha, hk, h⟩
  lo := fun a k _ _ h => absurd h (Nat.not_lt_zero _)
  done := fun a k h => absurd h (Nat.not_lt_zero _)
  part := fun t ht => by simp at ht
theorem Rex.step {g : List Grp} {x : List Itm} {r i j t : Nat} {F F' : Nat → Nat → Bool} (h : Rex g x r i j F) (hok : Okw g.length (wyG g)) (ht : (eG g i)[j]? = some t) (hF : ∀ a k, F' a k = if a = i ∧ k < x.length then (F i k || F t k) else F a k) : Rex g x r i (j + 1) F' := by
  have hge : ∀ a k, F a k = true → F' a k = true := fun a k hak => by
    rw [hF]
    by_cases e : a = i ∧ k < x.length
    · rw [if_pos e]
      rw [e.1] at hak
      rw [hak]
      rfl
    · rw [if_neg e]; exact hak
  have htm : t ∈ eG g i := List.mem_of_getElem? ht
  have htn : t < g.length := (hok (i, t) (wyG_mem.2 htm)).2
  refine ⟨fun a k hak => ?_, fun a k ha hk hd => hge a k (h.dir a k ha hk hd), fun a k ha hk hr hm => hge a k (h.lo a k ha hk hr hm), fun a k hai ha hk hr hm => hge a k (h.done a k hai ha hk hr hm), fun u hu k hk hr hm => ?_⟩
  · rw [hF] at hak
    by_cases e : a = i ∧ k < x.length
    · rw [if_pos e] at hak
      rcases (Bool.or_eq_true _ _ ▸ hak : F i k = true ∨ F t k = true) with h1 | h1
      · rw [e.1]; exact h.snd i k h1
      · rw [e.1]; exact memB_up htm (h.snd t k h1)
    · rw [if_neg e] at hak; exact h.snd a k hak
  · obtain ⟨hj, e⟩ := List.getElem?_eq_some_iff.1 ht
    rw [List.take_succ_eq_append_getElem hj, e] at hu
    rcases List.mem_append.1 hu with hu | hu
    · exact hge i k (h.part u hu k hk hr hm)
    · rw [List.mem_singleton.1 hu] at hr hm
      rw [hF, if_pos ⟨rfl, hk⟩, h.lo t k htn hk hr hm, Bool.or_true]
theorem Rex.next {g : List Grp} {x : List Itm} {r i : Nat} {F : Nat → Nat → Bool} (hok : Okw g.length (wyG g)) (hc : ¬ Cyc (eM (wyG g))) (h : Rex g x r i (eG g i).length F) : Rex g x r (i + 1) 0 F where
  snd := h.snd
  dir := h.dir
  lo := h.lo
  done := fun a k hai ha hk hr hm => by
    by_cases e : a = i
    · subst e
      rcases memB_iff.1 hm with hd | ⟨t, ht, hm2⟩
      · exact h.dir a k ha hk hd
      · have htn : t < g.length := (hok (a, t) (wyG_mem.2 ht)).2
        have hlt := rkG_lt hc (eM_wyG.2 ht) htn
        exact h.part t (by rw [List.take_length]; exact ht) k hk (by omega) hm2
    · exact h.done a k (by omega) ha hk hr hm
  part := fun t ht => by simp at ht
theorem Rex.round {g : List Grp} {x : List Itm} {r : Nat} {F : Nat → Nat → Bool} (h : Rex g x r g.length 0 F) : Rex g x (r + 1) 0 0 F where
  snd := h.snd
  dir := h.dir
  lo := fun a k ha hk hr hm => h.done a k ha ha hk hr hm
  done := fun a k h => absurd h (Nat.not_lt_zero _)
  part := fun t ht => by simp at ht
theorem rkG_less {E : Nat → List Nat} {n i : Nat} (h : ¬ Cyc E) (hi : i < n) : rkG E n i < n := by
  have h1 : rkG E n i ≤ ((List.range n).filter fun j => !(j == i)).length := by
    unfold rkG
    have : ∀ L : List Nat, (L.filter fun j => @decide (Wy E i j) (Classical.propDecidable _)).length ≤ (L.filter fun j => !(j == i)).length := fun L => by
      induction L with
      | nil => simp
      | cons a L ih =>
        rw [List.filter_cons, List.filter_cons]
        by_cases e : a = i
        · subst e
          rw [if_neg (by simp; exact fun hw => h ⟨a, hw⟩), if_neg (by simp)]
          exact ih
        · rw [if_pos (show (!(a == i)) = true by simp [e])]
          split <;> simp <;> omega
    exact this _
  have h2 : ((List.range n).filter fun j => !(j == i)).length < ((List.range n).filter fun _ => true).length := filt_lt _ _ _ (fun _ _ _ => rfl) ⟨i, List.mem_range.2 hi, rfl, by simp⟩
  rw [List.filter_eq_self.2 (fun _ _ => rfl), List.length_range] at h2
  omega
theorem Rex.fin {g : List Grp} {x : List Itm} {F : Nat → Nat → Bool} (hc : ¬ Cyc (eM (wyG g))) (h : Rex g x g.length 0 0 F) {a k : Nat} (ha : a < g.length) (hk : k < x.length) : F a k = true ↔ memB g x a k :=
  ⟨h.snd a k, h.lo a k ha hk (rkG_less hc ha)⟩
end Go.Proofs.YtkfnbapnkmlopaaDoor

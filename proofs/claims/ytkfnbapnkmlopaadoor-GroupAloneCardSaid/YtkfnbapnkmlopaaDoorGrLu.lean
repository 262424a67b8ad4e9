/- Plain: places, one by one the least that waits for no other (of no program); ints in a block. -/
import Derived.Test.YtkfnbapnkmlopaaDoorGrLe
namespace Go.Proofs.YtkfnbapnkmlopaaDoor
open Go.RowKit

/-- How many ways to x come from those that are not in the order. -/
def cW (M : Wt) (D : List Nat) (x : Nat) : Nat := (M.filter fun p => p.2 == x && !D.contains p.1).length
def wtI (M : Wt) (D : List Nat) (x : Nat) : Int := if x ∈ D then -1 else (cW M D x : Nat)
def ctW (M : Wt) (i x : Nat) : Nat := ((M.take i).filter fun p => p.2 == x).length
theorem cW_le (M : Wt) (D : List Nat) (x : Nat) : cW M D x ≤ M.length := List.length_filter_le _ _
theorem ctW_le (M : Wt) (i x : Nat) : ctW M i x ≤ M.length := by
  unfold ctW
  have h1 := List.length_filter_le (fun p : Nat × Nat => p.2 == x) (M.take i)
  rw [List.length_take] at h1
  omega
theorem ctW_succ {M : Wt} {i : Nat} {p : Nat × Nat} (h : M[i]? = some p) (x : Nat) : ctW M (i + 1) x = if x = p.2 then ctW M i p.2 + 1 else ctW M i x := by
  obtain ⟨hi, e⟩ := List.getElem?_eq_some_iff.1 h
  unfold ctW
  rw [List.take_succ_eq_append_getElem hi, e, List.filter_append, List.length_append]
  by_cases hx : x = p.2
  · subst hx
    rw [if_pos rfl]
    simp
  · have : ¬ p.2 = x := fun e => hx e.symm
    rw [if_neg hx]
    simp [this]
theorem ctW_all (M : Wt) (x : Nat) : ctW M M.length x = cW M [] x := by
  unfold ctW cW
  rw [List.take_length]
  simp
theorem cW_snoc {D : List Nat} {a : Nat} (ha : a ∉ D) (x : Nat) : ∀ M : Wt, cW M D x = cW M (D ++ [a]) x + (eM M a).count x
  | [] => rfl
  | p :: M => by
    have ih := cW_snoc ha x M
    have e1 : cW (p :: M) D x = (if p.2 = x ∧ p.1 ∉ D then 1 else 0) + cW M D x := by
      unfold cW
      rw [List.filter_cons]
      by_cases h : p.2 = x ∧ p.1 ∉ D
      · rw [if_pos h, if_pos (by simp [h.1, h.2])]; simp; omega
      · rw [if_neg h, if_neg (by simp only [Bool.and_eq_true, beq_iff_eq, Bool.not_eq_true', List.contains_eq_mem, decide_eq_false_iff_not]; exact h)]; simp
    have e2 : cW (p :: M) (D ++ [a]) x = (if p.2 = x ∧ p.1 ∉ D ++ [a] then 1 else 0) + cW M (D ++ [a]) x := by
      unfold cW
      rw [List.filter_cons]
      by_cases h : p.2 = x ∧ p.1 ∉ D ++ [a]
      · rw [if_pos h, if_pos (by simp only [Bool.and_eq_true, beq_iff_eq, Bool.not_eq_true', List.contains_eq_mem, decide_eq_false_iff_not]; exact h)]; simp; omega
      · rw [if_neg h, if_neg (by simp only [Bool.and_eq_true, beq_iff_eq, Bool.not_eq_true', List.contains_eq_mem, decide_eq_false_iff_not]; exact h)]; simp
    have e3 : (eM (p :: M) a).count x = (if p.1 = a ∧ p.2 = x then 1 else 0) + (eM M a).count x := by
      unfold eM
      rw [List.filter_cons]
      by_cases h : p.1 = a
      · rw [if_pos (by simp [h]), List.map_cons, List.count_cons]
        by_cases h2 : p.2 = x
        · rw [if_pos (show (p.2 == x) = true by simp [h2]), if_pos (show p.1 = a ∧ p.2 = x from ⟨h, h2⟩)]; omega
        · rw [if_neg (show ¬ (p.2 == x) = true by simp [h2]), if_neg (show ¬ (p.1 = a ∧ p.2 = x) from fun k => h2 k.2)]; omega
      · rw [if_neg (by simp [h]), if_neg (fun k => h k.1)]; omega
    rw [e1, e2, e3, ih]
    by_cases h2 : p.2 = x
    · by_cases h1 : p.1 = a
      · rw [if_pos ⟨h2, fun k => ha (h1 ▸ k)⟩, if_neg (fun k => k.2 (List.mem_append.2 (.inr (List.mem_singleton.2 h1)))), if_pos ⟨h1, h2⟩]
        omega
      · by_cases h3 : p.1 ∈ D
        · rw [if_neg (fun k => k.2 h3), if_neg (fun k => k.2 (List.mem_append.2 (.inl h3))), if_neg (fun k => h1 k.1)]
          omega
        · rw [if_pos ⟨h2, h3⟩, if_pos ⟨h2, fun k => by
            rcases List.mem_append.1 k with k | k
            · exact h3 k
            · exact h1 (List.mem_singleton.1 k)⟩, if_neg (fun k => h1 k.1)]
          omega
    · rw [if_neg (fun k => h2 k.1), if_neg (fun k => h2 k.1), if_neg (fun k => h2 k.2)]
      omega
theorem cW_zero {M : Wt} {D : List Nat} {x : Nat} : cW M D x = 0 ↔ ∀ y, (y, x) ∈ M → y ∈ D := by
  unfold cW
  rw [List.length_eq_zero_iff, List.filter_eq_nil_iff]
  constructor
  · intro h y hy
    have := h _ hy
    simpa using this
  · intro h p hp
    by_cases e : p.2 = x
    · have := h p.1 (by rw [← e]; exact hp)
      simp [this]
    · simp [e]
theorem frT_cW {M : Wt} {D : List Nat} {x : Nat} : frT M D x = true ↔ x ∉ D ∧ cW M D x = 0 := by rw [frT_iff, cW_zero]
theorem nxtT_wt {M : Wt} {n : Nat} {D : List Nat} {a : Nat} (ha : a < n) (haD : a ∉ D) (h0 : cW M D a = 0) (hlo : ∀ x, x < a → x ∉ D → cW M D x ≠ 0) : nxtT M n D = some a :=
  nxtT_of ha (frT_cW.2 ⟨haD, h0⟩) fun y hy => by
    cases h : frT M D y with
    | false => rfl
    | true =>
      obtain ⟨h1, h2⟩ := frT_cW.1 h
      exact absurd h2 (hlo y hy h1)
theorem nxtT_no {M : Wt} {n : Nat} {D : List Nat} (hlo : ∀ x, x < n → x ∉ D → cW M D x ≠ 0) : nxtT M n D = none := by
  unfold nxtT
  rw [List.find?_eq_none]
  intro x hx h
  obtain ⟨h1, h2⟩ := frT_cW.1 h
  exact hlo x (List.mem_range.1 hx) h1 h2
/-- What a place that is put in the order leads to is not in it. -/
theorem out_kid {M : Wt} {n : Nat} {D : List Nat} (h : Orw M n D) {a z : Nat} (haD : a ∉ D) (h0 : cW M D a = 0) (hz : z ∈ eM M a) : z ∉ D ++ [a] := fun hm => by
  rcases List.mem_append.1 hm with hm | hm
  · obtain ⟨b, hb, e⟩ := List.mem_iff_getElem.1 hm
    have h1 := h.pre b z (by rw [List.getElem?_eq_getElem hb, e]) a (eM_mem.1 hz)
    exact haD (List.mem_of_mem_take h1)
  · rw [List.mem_singleton.1 hm] at hz
    exact haD (cW_zero.1 h0 a (eM_mem.1 hz))
theorem Orw.acyc {M : Wt} {n : Nat} (hM : Okw n M) {D : List Nat} (h : Orw M n D) (hl : D.length = n) : ¬ Cyc (eM M) := by
  have hall : ∀ i, i < n → i ∈ D := fun i hi => by
    have h1 : ∀ j ∈ List.range n, j ∈ D := by
      intro j hj
      refine Classical.byContradiction fun hn => ?_
      have h2 := List.Nodup.length_le_of_subset (l₁ := j :: D) (l₂ := List.range n) (List.nodup_cons.2 ⟨hn, h.nd⟩) (fun y hy => by
        rcases List.mem_cons.1 hy with rfl | hy
        · exact hj
        · exact List.mem_range.2 (h.lt y hy))
      rw [List.length_cons, List.length_range] at h2
      omega
    exact h1 i (List.mem_range.2 hi)
  have hidx : ∀ i j, j ∈ eM M i → D.idxOf i < D.idxOf j := fun i j hj => by
    have hij := eM_mem.1 hj
    have hjD := hall j (hM _ hij).2
    have h1 := h.pre (D.idxOf j) j (by rw [List.getElem?_eq_getElem (List.idxOf_lt_length_of_mem hjD), List.getElem_idxOf]) i hij
    obtain ⟨b, hb, e⟩ := List.mem_iff_getElem.1 h1
    rw [List.length_take] at hb
    rw [List.getElem_take] at e
    have h2 : D.idxOf i = b := by
      rw [← e]
      exact List.Nodup.idxOf_getElem h.nd b (by omega)
    omega
  have hw : ∀ i j, Wy (eM M) i j → D.idxOf i < D.idxOf j := fun i j hw => by
    induction hw with
    | one a => exact hidx _ _ a
    | more a _ ih => exact Nat.lt_trans (hidx _ _ a) ih
  rintro ⟨i, hi⟩
  exact Nat.lt_irrefl _ (hw i i hi)
/-- The waits in the midst of a round. -/
def wtJ (M : Wt) (D : List Nat) (a j x : Nat) : Int := if x ∈ D ++ [a] then -1 else (cW M D x : Int) - (((eM M a).take j).count x : Nat)
theorem wtJ_all {M : Wt} {D : List Nat} {a : Nat} (ha : a ∉ D) (x : Nat) : wtJ M D a (eM M a).length x = wtI M (D ++ [a]) x := by
  unfold wtJ wtI
  rw [List.take_length]
  by_cases h : x ∈ D ++ [a]
  · rw [if_pos h, if_pos h]
  · rw [if_neg h, if_neg h]
    have := cW_snoc ha x M
    omega
theorem wtJ_zero {M : Wt} {D : List Nat} {a : Nat} (x : Nat) : wtJ M D a 0 x = if x = a then -1 else wtI M D x := by
  unfold wtJ wtI
  by_cases h : x = a
  · subst h
    rw [if_pos rfl, if_pos (by simp)]
  · by_cases h2 : x ∈ D
    · rw [if_neg h, if_pos h2, if_pos (List.mem_append.2 (.inl h2))]
    · rw [if_neg h, if_neg h2, if_neg (by
        intro k
        rcases List.mem_append.1 k with k | k
        · exact h2 k
        · exact h (List.mem_singleton.1 k))]
      simp
theorem wtJ_succ {M : Wt} {D : List Nat} {a j t : Nat} (ht : (eM M a)[j]? = some t) (hout : t ∉ D ++ [a]) (x : Nat) : wtJ M D a (j + 1) x = if x = t then wtJ M D a j t - 1 else wtJ M D a j x := by
  obtain ⟨hj, e⟩ := List.getElem?_eq_some_iff.1 ht
  unfold wtJ
  rw [List.take_succ_eq_append_getElem hj, e, List.count_append]
  by_cases hx : x = t
  · subst hx
    rw [if_pos rfl, if_neg hout, if_neg hout]
    simp
    omega
  · rw [if_neg hx]
    have h0 : [t].count x = 0 := by rw [List.count_eq_zero]; intro k; exact hx (List.mem_singleton.1 k)
    rw [h0, Nat.add_zero]
theorem wtJ_bound {M : Wt} {D : List Nat} {a j : Nat} (ha : a ∉ D) (x : Nat) : -1 ≤ wtJ M D a j x ∧ wtJ M D a j x ≤ M.length := by
  unfold wtJ
  split
  · omega
  · have h1 := cW_le M D x
    have h2 := cW_snoc ha x M
    have h3 : ((eM M a).take j).count x ≤ (eM M a).count x := List.Sublist.count_le x (List.take_sublist j _)
    omega
theorem wtI_bound (M : Wt) (D : List Nat) (x : Nat) : -1 ≤ wtI M D x ∧ wtI M D x ≤ M.length := by
  unfold wtI
  split
  · omega
  · have := cW_le M D x
    omega
theorem wtI_eq {M : Wt} {D : List Nat} {x : Nat} : wtI M D x = 0 ↔ x ∉ D ∧ cW M D x = 0 := by
  unfold wtI
  by_cases h : x ∈ D
  · rw [if_pos h]
    constructor
    · intro k; omega
    · intro k; exact absurd h k.1
  · rw [if_neg h]
    constructor
    · intro k; exact ⟨h, by omega⟩
    · intro k; omega
/-- Ints in a block, by their places. -/
def FnB (b n : Nat) (f : Nat → Int) (W : World) : Prop := W.heap[b]? = some (.cells ((List.range n).map fun j => Value.int .i64 (f j)).toArray 3 (0, 0))
theorem FnB.lt {b n : Nat} {f : Nat → Int} {W : World} (h : FnB b n f W) : b < W.heap.size := (Array.getElem?_eq_some_iff.1 h).1
theorem FnB.load {b n : Nat} {f : Nat → Int} {W : World} (h : FnB b n f W) {j : Nat} (hj : j < n) : W.cell? ⟨b, j, none⟩ = some (.int .i64 (f j)) :=
  cell9_blk h j (by rw [List.getElem?_toArray, List.getElem?_map, List.getElem?_range hj]; rfl)
theorem FnB.frz {b n : Nat} {f : Nat → Int} {W : World} (h : FnB b n f W) (k : Nat) : W.frozen? ⟨b, k, none⟩ = false := frz9_blk h k
theorem FnB.below {b n : Nat} {f : Nat → Int} {W W' : World} (h : FnB b n f W) (hb : Below W.heap.size W W') : FnB b n f W' := (hb.block _ h.lt).trans h
theorem FnB.same {b n : Nat} {f f' : Nat → Int} {W : World} (h : FnB b n f W) (he : ∀ j, j < n → f' j = f j) : FnB b n f' W := by
  have e : ((List.range n).map fun j => Value.int .i64 (f' j)) = (List.range n).map fun j => Value.int .i64 (f j) := List.map_congr_left fun j hj => by rw [he j (List.mem_range.1 hj)]
  unfold FnB
  rw [e]
  exact h
theorem FnB.set {b n : Nat} {f : Nat → Int} {W : World} (h : FnB b n f W) (i : Nat) (v : Int) : FnB b n (fun k => if k = i then v else f k) (W.setCell ⟨b, i, none⟩ (.int .i64 v)) := by
  have h1 := heap_setCell_same W b i _ _ (.int .i64 v) h
  unfold FnB
  rw [h1]
  congr 2
  rw [List.setIfInBounds_toArray]
  congr 1
  apply List.ext_getElem
  · simp
  · intro j h2 h3
    simp only [List.getElem_set, List.getElem_map, List.getElem_range]
    by_cases e : i = j
    · rw [if_pos e, if_pos e.symm]
    · rw [if_neg e, if_neg (fun k => e k.symm)]
theorem FnB.of (b n : Nat) (W : World) (h : IntB b (List.replicate n 0) W) : FnB b n (fun _ => 0) W := by
  unfold FnB
  unfold IntB at h
  rw [h]
  congr 3
  apply List.ext_getElem
  · simp
  · intro j h2 h3
    simp [intC]
theorem FnB.grown {b n : Nat} {f : Nat → Int} {W W' : World} {row : Option Nat} (h : FnB b n f W) (hg : W.grownBy W' row) (hne : row ≠ some b) : FnB b n f W' := (hg.block b h.lt (fun e => hne e.symm)).trans h
end Go.Proofs.YtkfnbapnkmlopaaDoor

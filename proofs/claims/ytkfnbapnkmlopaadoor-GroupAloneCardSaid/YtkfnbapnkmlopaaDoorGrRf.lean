/- GrLd, GrRe, GrDp, in one text. -/
import Derived.Test.YtkfnbapnkmlopaaDoorGrMem
import Derived.StillTailTactics
/- Contract: the document's leads. -/
namespace Go.Proofs.YtkfnbapnkmlopaaDoor
open Go.RowKit

end Go.Proofs.YtkfnbapnkmlopaaDoor
/- Contracts: the document's Loop, Reach. -/
namespace Go.Proofs.YtkfnbapnkmlopaaDoor
open Go.RowKit

noncomputable def lpI (M : Wt) (n : Nat) : Int := match lpT M n with | some x => x | none => -1
theorem lpI_some {M : Wt} {n x : Nat} (h : lpT M n = some x) : lpI M n = x := by unfold lpI; rw [h]
theorem lpI_none {M : Wt} {n : Nat} (h : lpT M n = none) : lpI M n = -1 := by unfold lpI; rw [h]
open Classical in
theorem lpT_no {M : Wt} {n : Nat} (h : ∀ y, y < n → ¬ Wy (eM M) y y) : lpT M n = none := by
  unfold lpT
  rw [List.find?_eq_none]
  intro y hy
  have := h y (List.mem_range.1 hy)
  simp [this]
theorem ldT_len (M : Wt) (n x : Nat) : (ldT M n x).length = n := by unfold ldT; simp
open Classical in
theorem ldT_true {M : Wt} {n x j : Nat} (h : (ldT M n x)[j]? = some true) : Wy (eM M) x j := by
  by_cases hj : j < n
  · rw [ldT_get hj] at h
    exact of_decide_eq_true (Option.some.inj h)
  · rw [List.getElem?_eq_none (by rw [ldT_len]; omega)] at h
    cases h
open Classical in
theorem ldT_false {M : Wt} {n x j : Nat} (h : (ldT M n x)[j]? = some false) : ¬ Wy (eM M) x j := by
  by_cases hj : j < n
  · rw [ldT_get hj] at h
    exact of_decide_eq_false (Option.some.inj h)
  · rw [List.getElem?_eq_none (by rw [ldT_len]; omega)] at h
    cases h
open Classical in
theorem rcT_split {M : Wt} {n x k : Nat} (hk : k < n) (h : k = x ∨ Wy (eM M) x k) : ((List.range (k + 1)).filter fun j => j == x || (ldT M n x)[j]? == some true) = ((List.range k).filter fun j => j == x || (ldT M n x)[j]? == some true) ++ [k] := by
  rw [List.range_succ, List.filter_append]
  congr 1
  have e : (k == x || (ldT M n x)[k]? == some true) = true := by
    rcases h with h | h
    · simp [h]
    · have e := ldT_get (M := M) (x := x) hk
      rw [decide_eq_true h] at e
      rw [e]
      simp
  simp [e]
theorem rcT_skip {M : Wt} {n x k : Nat} (hx : k ≠ x) (h : (ldT M n x)[k]? = some false) : ((List.range (k + 1)).filter fun j => j == x || (ldT M n x)[j]? == some true) = ((List.range k).filter fun j => j == x || (ldT M n x)[j]? == some true) := by
  rw [List.range_succ, List.filter_append]
  have e : (k == x || (ldT M n x)[k]? == some true) = false := by
    rw [h]
    simp [hx]
  simp [e]
theorem rcT_all (M : Wt) (n x : Nat) : ((List.range n).filter fun j => j == x || (ldT M n x)[j]? == some true) = rcT M n x := by
  unfold rcT
  refine List.filter_congr fun j hj => ?_
  rw [ldT_get (List.mem_range.1 hj)]
  congr 1
  cases h : @decide (Wy (eM M) x j) (Classical.propDecidable _) <;> rfl
end Go.Proofs.YtkfnbapnkmlopaaDoor
/- Contract: the document's Depths. -/
namespace Go.Proofs.YtkfnbapnkmlopaaDoor
open Go.RowKit

theorem below_dq {B : Nat} (w : World) (q : Nat) : Below B w (w.drewN q) := ⟨rfl, rfl, rfl, Nat.le_refl _, fun _ _ => rfl⟩
/-- Places in a block of their own. -/
def IntB (b : Nat) (O : List Nat) (W : World) : Prop := W.heap[b]? = some (.cells (O.map intC).toArray 3 (0, 0))
theorem IntB.lt {b : Nat} {O : List Nat} {W : World} (h : IntB b O W) : b < W.heap.size := (Array.getElem?_eq_some_iff.1 h).1
theorem IntB.load {b : Nat} {O : List Nat} {W : World} (h : IntB b O W) {k v : Nat} (hk : O[k]? = some v) : W.cell? ⟨b, k, none⟩ = some (.int .i64 (v : Nat)) :=
  cell9_blk h k (by rw [List.getElem?_toArray, List.getElem?_map, hk]; rfl)
theorem IntB.frz {b : Nat} {O : List Nat} {W : World} (h : IntB b O W) (k : Nat) : W.frozen? ⟨b, k, none⟩ = false := frz9_blk h k
theorem IntB.below {b : Nat} {O : List Nat} {W W' : World} (h : IntB b O W) (hb : Below W.heap.size W W') : IntB b O W' := (hb.block _ h.lt).trans h
theorem IntB.set {b : Nat} {O : List Nat} {W : World} (h : IntB b O W) (k v : Nat) : IntB b (O.set k v) (W.setCell ⟨b, k, none⟩ (.int .i64 (v : Nat))) := by
  have := heap_setCell_same W b k _ _ (.int .i64 (v : Nat)) h
  unfold IntB
  rw [this]
  congr 2
  rw [List.map_set, List.setIfInBounds_toArray]
  rfl
theorem IntB.drewN {b : Nat} {O : List Nat} {W : World} (h : IntB b O W) (q : Nat) : IntB b O (W.drewN q) := h
theorem IntB.row {b n : Nat} {O : List Nat} {W : World} (h : IntB b O W) (hn : O.length = n) (h9 : n ≤ maxLen) : RowN W (.slice (some ⟨b, 0, none⟩) n n) O := by
  subst hn
  exact ⟨_, _, rfl, Nat.le_refl _, h9, Rd.block h⟩
set_option maxRecDepth 100000 in
theorem IntB.make (w : World) (n : Nat) (hn : n ≤ 4096) : ∃ V, (Instr.makeSlice 48 (.int .i64 (n : Nat)) (.int .i64 (n : Nat))).run Tryd.prog w = .ok (.slice (some ⟨w.heap.size, 0, none⟩) n n) V ∧ IntB w.heap.size (List.replicate n 0) V ∧ Below w.heap.size w V := by
  refine ⟨w.alloc (.cells ((List.replicate n 0).map intC).toArray 3), ?_, (MapKept.heap_alloc w _).1, (Below.refl _ _).alloc (Nat.le_refl _) _⟩
  have h := run_mk (P := Tryd.prog) elN (n : Nat) (n : Nat) (by omega) (Int.le_refl _) (by omega) (by omega) w
  rw [h]
  congr 3
  rw [Int.toNat_natCast]
  apply Array.toList_inj.1
  have h2 := toList_madeCells_one (Value.int .i64 0) n
  rw [show (Value.int .i64 0 : Value).cells = #[Value.int .i64 0] from rfl, h2, List.map_replicate]
  rfl
set_option maxRecDepth 100000 in
theorem BolB.make (w : World) (n : Nat) (hn : n ≤ 4096) : ∃ V, (Instr.makeSlice 50 (.int .i64 (n : Nat)) (.int .i64 (n : Nat))).run Tryd.prog w = .ok (.slice (some ⟨w.heap.size, 0, none⟩) n n) V ∧ BolB w.heap.size (List.replicate n false) V ∧ Below w.heap.size w V := by
  refine ⟨w.alloc (.cells ((List.replicate n false).map Value.bool).toArray 4), ?_, (MapKept.heap_alloc w _).1, (Below.refl _ _).alloc (Nat.le_refl _) _⟩
  have h := run_mk (P := Tryd.prog) elBo (n : Nat) (n : Nat) (by omega) (Int.le_refl _) (by omega) (by omega) w
  rw [h]
  congr 3
  rw [Int.toNat_natCast]
  apply Array.toList_inj.1
  have h2 := toList_madeCells_one (Value.bool false) n
  rw [show (Value.bool false : Value).cells = #[Value.bool false] from rfl, h2, List.map_replicate]
end Go.Proofs.YtkfnbapnkmlopaaDoor

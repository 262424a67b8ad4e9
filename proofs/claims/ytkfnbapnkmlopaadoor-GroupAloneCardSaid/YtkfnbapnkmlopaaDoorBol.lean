/- Marks in a block of their own: a make of bools. -/
import Derived.Test.YtkfnbapnkmlopaaDoorBp9
namespace Go.Proofs.YtkfnbapnkmlopaaDoor
open Go.RowKit

def BolB (b : Nat) (F : List Bool) (W : World) : Prop := W.heap[b]? = some (.cells (F.map Value.bool).toArray 4 (0, 0))
theorem elBo : Elem Tryd.prog 50 4 (.bool false) 1 := ⟨Tryd.underlying50, by kernel_rfl, rfl⟩
theorem BolB.lt {b : Nat} {F : List Bool} {W : World} (h : BolB b F W) : b < W.heap.size := (Array.getElem?_eq_some_iff.1 h).1
theorem BolB.load {b : Nat} {F : List Bool} {W : World} (h : BolB b F W) {k : Nat} {v : Bool} (hk : F[k]? = some v) : W.cell? ⟨b, k, none⟩ = some (.bool v) :=
  cell9_blk h k (by rw [List.getElem?_toArray, List.getElem?_map, hk]; rfl)
theorem BolB.frz {b : Nat} {F : List Bool} {W : World} (h : BolB b F W) (k : Nat) : W.frozen? ⟨b, k, none⟩ = false := frz9_blk h k
theorem BolB.below {b : Nat} {F : List Bool} {W W' : World} (h : BolB b F W) (hb : Below W.heap.size W W') : BolB b F W' := (hb.block _ h.lt).trans h
theorem BolB.set {b : Nat} {F : List Bool} {W : World} (h : BolB b F W) (k : Nat) (v : Bool) : BolB b (F.set k v) (W.setCell ⟨b, k, none⟩ (.bool v)) := by
  have := heap_setCell_same W b k _ _ (.bool v) h
  unfold BolB
  rw [this]
  congr 2
  rw [List.map_set, List.setIfInBounds_toArray]
theorem BolB.other {b : Nat} {F : List Bool} {W : World} (h : BolB b F W) {p : Addr} (hp : p.block ≠ b) (u : Value) : BolB b F (W.setCell p u) := (Below.heap_setCell W p u b (fun e => hp e.symm)).trans h
theorem BolB.drewN {b : Nat} {F : List Bool} {W : World} (h : BolB b F W) (q : Nat) : BolB b F (W.drewN q) := h
end Go.Proofs.YtkfnbapnkmlopaaDoor

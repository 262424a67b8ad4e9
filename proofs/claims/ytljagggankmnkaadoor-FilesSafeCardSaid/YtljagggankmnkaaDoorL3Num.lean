/- Layer 3's law package: num by contracts. -/
import Derived.Test.YtljagggankmnkaaDoorFsS
import Derived.Test.YtljagggankmnkaaDoorErr
namespace Go.Proofs.YtljagggankmnkaaDoor
open Go.RowKit

theorem num_nil (w : World) : Calls Tryd.prog 15 #[.nilIface] w fun e w' => e = .returned (.int .i64 0) ∧ Below w.heap.size w w' := by
  go_enter Tryd.func15, Tryd.ntmps15
  go_wp2_with fail
  go_ret
  exact ⟨rfl, (Below.refl _ _).alloc (Nat.le_refl _) _⟩
set_option maxHeartbeats 1000000 in
theorem num_err (n : Int) (w : World) (hg : ErrT w) : Calls Tryd.prog 15 #[.iface 70 (.int .i64 n)] w fun e w' => e = .returned (.int .i64 n) ∧ Below w.heap.size w w' := by
  have HG := Lib.hid hg
  clear hg
  go_enter Tryd.func15, Tryd.ntmps15
  go_wp2_with fail
  refine (as_any n ⟨w.heap.size, 0, none⟩ (.int .i64 0) w.heap.size _ (HG.out.below ((Below.refl _ _).alloc (Nat.le_refl _) _)) (by simp) (by simp) (Nat.le_refl _)).mono ?_
  rintro e w' ⟨rfl, hb, hc⟩
  go_wp2_with fail
  go_ret
  exact ⟨rfl, ((Below.refl _ w).alloc (Nat.le_refl _) _).trans hb⟩
theorem errV_pos (k : Nat) (h : 0 < k) : errV k = .iface 70 (.int .i64 (k : Int)) := if_neg (by omega)
theorem num_errV (k : Nat) (w : World) (hg : ErrT w) : Calls Tryd.prog 15 #[errV k] w fun e w' => e = .returned (.int .i64 k) ∧ Below w.heap.size w w' := by
  rcases Nat.eq_zero_or_pos k with rfl | h
  · rw [errV0]; exact num_nil w
  · rw [errV_pos k h]; exact num_err k w hg
end Go.Proofs.YtljagggankmnkaaDoor

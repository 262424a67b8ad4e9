/- Layer 15's law package: num. -/
import Derived.Test.YtkihfafkglkjnaaDoorQuSu
import Derived.Test.YtkihfafkglkjnaaDoorErr
namespace Go.Proofs.YtkihfafkglkjnaaDoor
open Go.RowKit

theorem num15_nil (w : World) : Calls Tryd.prog 8 #[.nilIface] w fun e w' => e = .returned (.int .i64 0) ∧ Below w.heap.size w w' := by
  go_enter Tryd.func8, Tryd.ntmps8
  go_wp2_with fail
  go_ret
  exact ⟨rfl, (Below.refl _ _).alloc (Nat.le_refl _) _⟩
set_option maxHeartbeats 1000000 in
theorem num15_err (n : Int) (w : World) (hg : ErrT w) : Calls Tryd.prog 8 #[errK n] w fun e w' => e = .returned (.int .i64 n) ∧ Below w.heap.size w w' := by
  unfold errK
  have HG := Lib.hid hg
  clear hg
  go_enter Tryd.func8, Tryd.ntmps8
  go_wp2_with fail
  refine (as_any n ⟨w.heap.size, 0, none⟩ (.int .i64 0) w.heap.size _ (HG.out.below ((Below.refl _ _).alloc (Nat.le_refl _) _)) (by simp) (by simp) (Nat.le_refl _)).mono ?_
  rintro e w' ⟨rfl, hb, hc⟩
  go_wp2_with fail
  go_ret
  exact ⟨rfl, ((Below.refl _ w).alloc (Nat.le_refl _) _).trans hb⟩
theorem num15_any (k : Nat) (w : World) (hg : ErrT w) : Calls Tryd.prog 8 #[errE k] w fun e w' => e = .returned (.int .i64 (k : Nat)) ∧ Below w.heap.size w w' := by
  by_cases h : k = 0
  · subst h
    rw [errE_zero]
    exact num15_nil w
  · rw [errE_pos h]
    exact num15_err k w hg
end Go.Proofs.YtkihfafkglkjnaaDoor

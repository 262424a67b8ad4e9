/- Layer 10's law package: num, sure by contracts. -/
import Derived.Test.YtencapplbedcmaaGreatDoorErr
import Derived.Test.YtencapplbedcmaaGreatDoorVaOp
import Derived.Test.YtencapplbedcmaaGreatDoorVaSe
namespace Go.Proofs.YtencapplbedcmaaGreatDoor
open Go.RowKit

theorem num_nil (w : World) : Calls Tryz.prog 15 #[.nilIface] w fun e w' => e = .returned (.int .i64 0) ∧ Below w.heap.size w w' := by
  go_enter Tryz.func15, Tryz.ntmps15
  go_wp2_with fail
  go_ret
  exact ⟨rfl, (Below.refl _ _).alloc (Nat.le_refl _) _⟩
set_option maxHeartbeats 1000000 in
theorem num_err (n : Int) (w : World) (hg : ErrT w) : Calls Tryz.prog 15 #[.iface 58 (.int .i64 n)] w fun e w' => e = .returned (.int .i64 n) ∧ Below w.heap.size w w' := by
  have HG := Lib.hid hg
  clear hg
  go_enter Tryz.func15, Tryz.ntmps15
  go_wp2_with fail
  refine (as_any n ⟨w.heap.size, 0, none⟩ (.int .i64 0) w.heap.size _ (HG.out.below ((Below.refl _ _).alloc (Nat.le_refl _) _)) (by simp) (by simp) (Nat.le_refl _)).mono ?_
  rintro e w' ⟨rfl, hb, hc⟩
  go_wp2_with fail
  go_ret
  exact ⟨rfl, ((Below.refl _ w).alloc (Nat.le_refl _) _).trans hb⟩
theorem num_E (k : Nat) (w : World) (hg : ErrT w) : Calls Tryz.prog 15 #[errE k] w fun e w' => e = .returned (.int .i64 (k : Int)) ∧ Below w.heap.size w w' := by
  unfold errE
  split
  · subst_vars
    exact num_nil w
  · exact num_err k w hg
theorem ret_trueV {w w' : World} (h : Below w.heap.size w w') : Ending.returned (.bool true) = .returned (.bool true) ∧ Below w.heap.size w w' := ⟨rfl, h⟩
theorem sure_sec : secT [53, 109] = (300, 0) := by decide
theorem sure_opt : optT [100, 44, 117] [100, 117, 114] = (3, 0) := by decide
set_option maxHeartbeats 1000000 in
set_option maxRecDepth 100000 in
theorem sure_any (w : World) (he : EsV w) : Calls Tryz.prog 8 #[] w fun e w' => e = .returned (.bool true) ∧ Below w.heap.size w w' := by
  have HS := Lib.hid (fun W h => seconds_any [53, 109] W (by simp) h)
  have HO := Lib.hid (fun W => options_any [100, 44, 117] [100, 117, 114] W (by simp) (by simp))
  rw [sure_sec] at HS
  rw [sure_opt] at HO
  unfold IntE at HS
  unfold OpE at HO
  dsimp only at HS HO
  rw [errE_zero] at HS HO
  have e1 : str [53, 109] = { data := #[53, 109] } := rfl
  have e2 : str [100, 44, 117] = { data := #[100, 44, 117] } := rfl
  have e3 : str [100, 117, 114] = { data := #[100, 117, 114] } := rfl
  rw [e1] at HS
  rw [e2, e3] at HO
  have HE := Lib.hid he
  clear he e1 e2 e3
  go_enter Tryz.func8, Tryz.ntmps8
  go_wp2_with fail
  refine (HS.out _ HE.out).mono ?_
  rintro e w1 ⟨rfl, hb⟩
  have HB1 := Lib.hid hb
  clear hb
  go_wp2_with fail
  refine (HO.out _).mono ?_
  rintro e w2 ⟨rfl, hb⟩
  have HB2 := Lib.hid (HB1.out.trans (hb.mono HB1.out.size))
  clear hb
  go_wp2_with fail
  go_ret
  exact ret_trueV HB2.out
end Go.Proofs.YtencapplbedcmaaGreatDoor

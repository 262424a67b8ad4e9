/- Layer 4's law package: sure by a contract. -/
import Derived.Test.YtgndhhoajacfbaaDoorCvE
namespace Go.Proofs.YtgndhhoajacfbaaDoor
open Go.RowKit

theorem is_2000 : Is 2000 3 1 := ⟨by omega, by omega, by omega, by decide⟩
theorem nr_2000 : nr 2000 3 1 = 11017 := by decide
theorem is_1970 : Is 1970 1 1 := ⟨by omega, by omega, by omega, by decide⟩
theorem nr_1970 : nr 1970 1 1 = 0 := by decide
theorem wd_2000 : wd 11017 = 3 := by decide
set_option maxRecDepth 100000 in
set_option maxHeartbeats 2000000 in
theorem sure_any (w : World) (ht : Tab w) : Calls Tryd.prog 14 #[] w fun e w' => e = .returned (.bool true) ∧ Below w.heap.size w w' := by
  have HT := Lib.hid ht
  have HD := Lib.hid (daysOk_any 2000 3 1 w is_2000 (by omega) (by omega) ht)
  rw [nr_2000] at HD
  unfold dt at HD
  clear ht
  go_enter Tryd.func14, Tryd.ntmps14
  go_wp2_with fail
  refine HD.out.mono ?_
  rintro e w1 ⟨rfl, hb1⟩
  have HB1 := Lib.hid hb1
  have HO := Lib.hid (ofOk_any 1970 1 1 0 w1 is_1970 nr_1970 (by omega) (by omega) (HT.out.below hb1))
  unfold dt at HO
  clear hb1 HD
  go_wp2_with fail
  refine HO.out.mono ?_
  rintro e w2 ⟨rfl, hb2⟩
  have HB2 := Lib.hid (HB1.out.trans (hb2.mono HB1.out.size))
  clear hb2 HO
  go_wp2_with fail
  have HW := Lib.hid (fun W => weekday_any 11017 W)
  rw [wd_2000] at HW
  refine (HW.out _).mono ?_
  rintro e w3 ⟨rfl, rfl⟩
  go_wp2_with fail
  go_ret
  exact ⟨rfl, HB2.out.alloc HB2.out.size _⟩
end Go.Proofs.YtgndhhoajacfbaaDoor

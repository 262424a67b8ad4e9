/- Layer 5's law package: sure by a contract. -/
import Derived.Test.YtgfibckahnjclaaDoorCkG
namespace Go.Proofs.YtgfibckahnjclaaDoor
open Go.RowKit

theorem dec_1970 : Lib.decDigits 1970 = [49, 57, 55, 48] := by
  rw [Lib.decDigits, dif_neg (by omega), Lib.decDigits, dif_neg (by omega), Lib.decDigits, dif_neg (by omega), Lib.decDigits_one (by omega)]
  rfl
theorem stamp_lit : str (stampL 1970 1 1 86399) = { data := #[49, 57, 55, 48, 45, 48, 49, 45, 48, 49, 32, 50, 51, 58, 53, 57, 58, 53, 57] } := by
  unfold stampL
  rw [dec_1970]
  rfl
theorem hours_lit : str (hrs 3600) = { data := #[48, 49, 58, 48, 48] } := rfl
set_option maxRecDepth 100000 in
set_option maxHeartbeats 2000000 in
theorem sure_any (w : World) (ht : Tab w) (hp : Pow w) : Calls Tryd.prog 14 #[] w fun e w' => e = .returned (.bool true) ∧ Below w.heap.size w w' := by
  have H1 := Lib.hid (stamp_ok 86399 0 1970 1 1 86399 0 w (by omega) (by omega) (by omega) (by omega) (by omega) (by omega) ⟨by omega, by omega, by omega, by decide⟩ (by decide) (by omega) (by omega) (by omega) ht hp)
  have H2 := Lib.hid (fun W => hours_ok 3600 W (by omega))
  rw [stamp_lit] at H1
  rw [hours_lit] at H2
  clear ht hp
  go_enter Tryd.func14, Tryd.ntmps14
  go_wp2_with fail
  refine H1.out.mono ?_
  rintro e w1 ⟨rfl, hb1⟩
  have HB1 := Lib.hid hb1
  clear hb1 H1
  go_wp2_with fail
  refine (H2.out _).mono ?_
  rintro e w2 ⟨rfl, rfl⟩
  go_wp2_with fail
  go_ret
  exact ⟨rfl, HB1.out⟩
end Go.Proofs.YtgfibckahnjclaaDoor

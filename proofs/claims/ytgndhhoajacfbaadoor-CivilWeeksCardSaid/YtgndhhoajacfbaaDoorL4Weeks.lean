/- CivilWeeks' walk. -/
import Derived.Test.YtgndhhoajacfbaaDoorL4Sure
namespace Go.Proofs.YtgndhhoajacfbaaDoor
open Go.RowKit

theorem tmod61 (n : Int) : -2305843009213693952 < n.tmod 2305843009213693952 ∧ n.tmod 2305843009213693952 < 2305843009213693952 :=
  ⟨Int.lt_tmod_of_pos n (by omega), Int.tmod_lt_of_pos n (by omega)⟩
set_option maxRecDepth 100000 in
set_option maxHeartbeats 2000000 in
theorem weeks_any (n : Int) (w : World) (ht : Tab w) (_ : -9223372036854775808 ≤ n ∧ n ≤ 9223372036854775807) :
    Calls Tryd.prog 9 #[.int .i64 n] w fun e w' => e = .returned (.bool true) ∧ Below w.heap.size w w' := by
  have HS := Lib.hid (sure_any w ht)
  clear ht
  obtain ⟨k1, k2⟩ := tmod61 n
  obtain ⟨k, hk⟩ : ∃ k, n.tmod 2305843009213693952 = k := ⟨_, rfl⟩
  rw [hk] at k1 k2
  have H0 := Lib.hid (weekday_any k w)
  have H7 := Lib.hid (weekday_any (k + 7) w)
  have HM := Lib.hid (weekday_any (k - 7) w)
  have H1 := Lib.hid (weekday_any (k + 1) w)
  rw [wd_7] at H7
  rw [wd_m7] at HM
  rw [wd_1] at H1
  obtain ⟨b1, b2⟩ := wd_bd k
  generalize wd k = x at *
  go_enter Tryd.func9, Tryd.ntmps9
  go_wp2_with fail
  refine H0.out.mono ?_
  rintro e w1 ⟨rfl, rfl⟩
  go_wp2_with fail
  refine H7.out.mono ?_
  rintro e w1 ⟨rfl, rfl⟩
  go_wp2_with fail
  refine HM.out.mono ?_
  rintro e w1 ⟨rfl, rfl⟩
  go_wp2_with fail
  refine H1.out.mono ?_
  rintro e w1 ⟨rfl, rfl⟩
  go_wp2_with fail
  refine HS.out.mono ?_
  rintro e w1 ⟨rfl, hb⟩
  have HB := Lib.hid hb
  clear hb
  go_wp2_with fail
  go_ret
  exact ⟨rfl, HB.out⟩
end Go.Proofs.YtgndhhoajacfbaaDoor

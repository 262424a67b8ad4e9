/- CivilMonths' walk. -/
import Derived.Test.YtgndhhoajacfbaaDoorL4Sure
import Derived.Test.YtgndhhoajacfbaaDoorL4Num
import Derived.Test.YtgndhhoajacfbaaDoorCvR
namespace Go.Proofs.YtgndhhoajacfbaaDoor
open Go.RowKit

set_option maxRecDepth 100000 in
set_option maxHeartbeats 4000000 in
theorem months_ok (y : Int) (m : Nat) (w : World) (ht : Tab w) (h1 : 1 ≤ m) (h2 : m ≤ 12) (hy1 : -274877906944 ≤ y) (hy2 : y ≤ 274877906944) :
    Calls Tryd.prog 5 #[.int .i64 y, .int .i64 m] w fun e w' => e = .returned (.bool true) ∧ Below w.heap.size w w' := by
  have HT := Lib.hid ht
  have H1 := Lib.hid (lengthOk_any y m w h1 h2 hy1 hy2 ht)
  have H2 := Lib.hid (leap_any y w)
  have H3 := Lib.hid (refLeap_any y w)
  have H4 := Lib.hid (refLength_any y m w h1 h2)
  generalize leapB y = L at *
  generalize mlen y m = x at *
  clear ht
  go_enter Tryd.func5, Tryd.ntmps5
  go_wp2_with fail
  refine H1.out.mono ?_
  rintro e w1 ⟨rfl, rfl⟩
  go_wp2_with fail
  refine H2.out.mono ?_
  rintro e w1 ⟨rfl, rfl⟩
  go_wp2_with fail
  refine H3.out.mono ?_
  rintro e w1 ⟨rfl, rfl⟩
  go_wp2_with fail
  refine H4.out.mono ?_
  rintro e w1 ⟨rfl, hb⟩
  have HB1 := Lib.hid hb
  clear hb
  go_wp2_with fail
  refine (sure_any _ (HT.out.below HB1.out)).mono ?_
  rintro e w2 ⟨rfl, hb⟩
  have HB2 := Lib.hid (HB1.out.trans (hb.mono HB1.out.size))
  clear hb
  go_wp2_with fail
  go_ret
  exact ⟨rfl, HB2.out⟩
set_option maxRecDepth 100000 in
set_option maxHeartbeats 4000000 in
theorem months_no (y m : Int) (w : World) (ht : Tab w) (he : ErrT w) (h : m < 1 ∨ 12 < m ∨ y < -274877906944 ∨ 274877906944 < y) :
    Calls Tryd.prog 5 #[.int .i64 y, .int .i64 m] w fun e w' => e = .returned (.bool true) ∧ Below w.heap.size w w' := by
  have HT := Lib.hid ht
  have H1 := Lib.hid (lengthNo_any y m w h)
  unfold errNo at H1
  have H2 := Lib.hid (leap_any y w)
  have H3 := Lib.hid (refLeap_any y w)
  have H4 := Lib.hid (num_err 1 w he)
  have HH := Lib.hid h
  generalize leapB y = L at *
  clear ht he h
  go_enter Tryd.func5, Tryd.ntmps5
  go_wp2_with fail
  refine H1.out.mono ?_
  rintro e w1 ⟨rfl, rfl⟩
  go_wp2_with fail
  refine H2.out.mono ?_
  rintro e w1 ⟨rfl, rfl⟩
  go_wp2_with fail
  refine H3.out.mono ?_
  rintro e w1 ⟨rfl, rfl⟩
  go_wp2_with fail
  all_goals
    first
    | (refine H4.out.mono ?_
       rintro e w1 ⟨rfl, hb⟩
       have HB1 := Lib.hid hb
       clear hb
       go_wp2_with fail
       refine (sure_any _ (HT.out.below HB1.out)).mono ?_
       rintro e w2 ⟨rfl, hb⟩
       have HB2 := Lib.hid (HB1.out.trans (hb.mono HB1.out.size))
       clear hb
       go_wp2_with fail
       go_ret
       exact ⟨rfl, HB2.out⟩)
    | (exfalso
       have := HH.out
       omega)
theorem months_any (y m : Int) (w : World) (ht : Tab w) (he : ErrT w) (_ : -9223372036854775808 ≤ y ∧ y ≤ 9223372036854775807) (_ : -9223372036854775808 ≤ m ∧ m ≤ 9223372036854775807) :
    Calls Tryd.prog 5 #[.int .i64 y, .int .i64 m] w fun e w' => e = .returned (.bool true) ∧ Below w.heap.size w w' := by
  by_cases h : m < 1 ∨ 12 < m ∨ y < -274877906944 ∨ 274877906944 < y
  · exact months_no y m w ht he h
  · obtain ⟨k, rfl⟩ := Int.eq_ofNat_of_zero_le (show 0 ≤ m by omega)
    exact months_ok y k w ht (by omega) (by omega) (by omega) (by omega)
end Go.Proofs.YtgndhhoajacfbaaDoor

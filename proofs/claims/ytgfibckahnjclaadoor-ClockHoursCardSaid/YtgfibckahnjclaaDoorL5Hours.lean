/- ClockHours' walk. -/
import Derived.Test.YtgfibckahnjclaaDoorL5Sure
import Derived.Test.YtgfibckahnjclaaDoorCkL
namespace Go.Proofs.YtgfibckahnjclaaDoor
open Go.RowKit

theorem hours_both (n : Int) : ∃ (L : ByteArray) (k : Int),
    (∀ W, Calls Tryd.prog 19 #[.int .i64 n] W fun e w' => e = .returned (.tuple #[.string L, errE k]) ∧ W = w') ∧
    (∀ W, Calls Tryd.prog 20 #[.int .i64 n] W fun e w' => e = .returned (.tuple #[.string L, .int .i64 k]) ∧ W = w') := by
  by_cases h : n < 0 ∨ 86400 < n
  · refine ⟨str [], 1, fun W => ?_, fun W => refHours_no n W h⟩
    rw [errE_one]
    exact hours_no n W h
  · obtain ⟨s, rfl⟩ := Int.eq_ofNat_of_zero_le (show 0 ≤ n by omega)
    refine ⟨str (hrs s), 0, fun W => ?_, fun W => refHours_ok s W (by omega)⟩
    rw [errE_zero]
    exact hours_ok s W (by omega)
set_option maxRecDepth 100000 in
set_option maxHeartbeats 2000000 in
theorem lawHours_any (n : Int) (s : ByteArray) (w : World) (ht : Tab w) (hp : Pow w) (he : ErrT w) (hm : Mx w) (_ : -9223372036854775808 ≤ n ∧ n ≤ 9223372036854775807) (_ : s.size ≤ maxLen) :
    Calls Tryd.prog 6 #[.int .i64 n, .string s] w fun e w' => e = .returned (.bool true) ∧ Below w.heap.size w w' := by
  obtain ⟨L, k, h1, h2⟩ := hours_both n
  obtain ⟨z, l, h3, h4⟩ := parse_both s
  have H1 := Lib.hid h1
  have H2 := Lib.hid h2
  have H3 := Lib.hid (h3 w hm)
  have H4 := Lib.hid h4
  have HK := Lib.hid (fun W (hW : ErrT W) => num_E k W hW)
  have HL := Lib.hid (fun W (hW : ErrT W) => num_E l W hW)
  obtain ⟨ek, hek⟩ : ∃ ek, errE k = ek := ⟨_, rfl⟩
  obtain ⟨el, hel⟩ : ∃ el, errE l = el := ⟨_, rfl⟩
  rw [hek] at H1 HK
  rw [hel] at H3 HL
  have HT := Lib.hid ht
  have HP := Lib.hid hp
  have HE := Lib.hid he
  clear h1 h2 h3 h4 hek hel ht hp he hm
  go_enter Tryd.func6, Tryd.ntmps6
  go_wp2_with fail
  refine (H1.out _).mono ?_
  rintro e w' ⟨rfl, rfl⟩
  go_wp2_with fail
  refine (H2.out _).mono ?_
  rintro e w' ⟨rfl, rfl⟩
  go_wp2_with fail
  refine H3.out.mono ?_
  rintro e w1 ⟨rfl, hb1⟩
  have HB1 := Lib.hid hb1
  clear hb1 H3
  go_wp2_with fail
  refine (H4.out _).mono ?_
  rintro e w2 ⟨rfl, hb2⟩
  have HB2 := Lib.hid (HB1.out.trans (hb2.mono HB1.out.size))
  clear hb2
  go_wp2_with fail
  refine (HK.out _ (HE.out.below HB2.out)).mono ?_
  rintro e w4 ⟨rfl, hb4⟩
  have HB4 := Lib.hid (HB2.out.trans (hb4.mono HB2.out.size))
  clear hb4
  go_wp2_with fail
  refine (HL.out _ (HE.out.below HB4.out)).mono ?_
  rintro e w5 ⟨rfl, hb5⟩
  have HB5 := Lib.hid (HB4.out.trans (hb5.mono HB4.out.size))
  clear hb5
  go_wp2_with fail
  refine (sure_any _ (HT.out.below HB5.out) (HP.out.below HB5.out)).mono ?_
  rintro e w6 ⟨rfl, hb6⟩
  have HB6 := Lib.hid (HB5.out.trans (hb6.mono HB5.out.size))
  clear hb6
  go_wp2_with fail
  go_ret
  exact ⟨rfl, HB6.out⟩
end Go.Proofs.YtgfibckahnjclaaDoor

/- ClockStamps' walk. -/
import Derived.Test.YtgfibckahnjclaaDoorL5Sure
import Derived.Test.YtgfibckahnjclaaDoorL5Num
namespace Go.Proofs.YtgfibckahnjclaaDoor
open Go.RowKit

theorem stamp_both (t o : Int) : ∃ (L : ByteArray) (k : Int),
    (∀ W, Tab W → Pow W → Calls Tryd.prog 17 #[.int .i64 t, .int .i64 o] W fun e w' => e = .returned (.tuple #[.string L, errE k]) ∧ Below W.heap.size W w') ∧
    (∀ W, Calls Tryd.prog 18 #[.int .i64 t, .int .i64 o] W fun e w' => e = .returned (.tuple #[.string L, .int .i64 k]) ∧ Below W.heap.size W w') := by
  by_cases h : (t < 0 ∨ 4611686018427387904 < t) ∨ (o < -50400 ∨ 50400 < o)
  · refine ⟨str [], 1, fun W _ _ => ?_, fun W => (refStamp_no t o W h).mono ?_⟩
    · rw [errE_one]
      exact stamp_no t o W h
    · rintro e w' ⟨rfl, rfl⟩
      exact ⟨rfl, Below.refl _ _⟩
  · obtain ⟨y, m, d, hi, hn, hy0, hy, hm, hd⟩ := date_nat ((t + o) / 86400) (by omega) (by omega)
    have hs : (t + o) % 86400 = ((((t + o) % 86400).toNat : Nat) : Int) := by omega
    refine ⟨str (stampL y m d ((t + o) % 86400).toNat), 0, fun W hT hP => ?_, fun W => refStamp_ok t o y m d _ _ W (by omega) (by omega) (by omega) (by omega) rfl hs hi hn hy0 hy hm hd⟩
    rw [errE_zero]
    exact stamp_ok t o y m d _ _ W (by omega) (by omega) (by omega) (by omega) rfl hs hi hn hy hm hd hT hP
set_option maxRecDepth 100000 in
set_option maxHeartbeats 2000000 in
theorem stamps_any (t o : Int) (w : World) (ht : Tab w) (hp : Pow w) (he : ErrT w) (_ : -9223372036854775808 ≤ t ∧ t ≤ 9223372036854775807) (_ : -9223372036854775808 ≤ o ∧ o ≤ 9223372036854775807) :
    Calls Tryd.prog 5 #[.int .i64 t, .int .i64 o] w fun e w' => e = .returned (.bool true) ∧ Below w.heap.size w w' := by
  obtain ⟨L, k, h1, h2⟩ := stamp_both t o
  have H1 := Lib.hid (h1 w ht hp)
  have H2 := Lib.hid h2
  have HK := Lib.hid (fun W (hW : ErrT W) => num_E k W hW)
  obtain ⟨ek, hek⟩ : ∃ ek, errE k = ek := ⟨_, rfl⟩
  rw [hek] at H1 HK
  have HT := Lib.hid ht
  have HP := Lib.hid hp
  have HE := Lib.hid he
  clear h1 h2 hek ht hp he
  go_enter Tryd.func5, Tryd.ntmps5
  go_wp2_with fail
  refine H1.out.mono ?_
  rintro e w1 ⟨rfl, hb1⟩
  have HB1 := Lib.hid hb1
  clear hb1 H1
  go_wp2_with fail
  refine (H2.out _).mono ?_
  rintro e w2 ⟨rfl, hb2⟩
  have HB2 := Lib.hid (HB1.out.trans (hb2.mono HB1.out.size))
  clear hb2
  go_wp2_with fail
  refine (HK.out _ (HE.out.below HB2.out)).mono ?_
  rintro e w4 ⟨rfl, hb4⟩
  have HB4 := Lib.hid (HB2.out.trans (hb4.mono HB2.out.size))
  clear hb4
  go_wp2_with fail
  refine (sure_any _ (HT.out.below HB4.out) (HP.out.below HB4.out)).mono ?_
  rintro e w6 ⟨rfl, hb6⟩
  have HB6 := Lib.hid (HB4.out.trans (hb6.mono HB4.out.size))
  clear hb6
  go_wp2_with fail
  go_ret
  exact ⟨rfl, HB6.out⟩
end Go.Proofs.YtgfibckahnjclaaDoor

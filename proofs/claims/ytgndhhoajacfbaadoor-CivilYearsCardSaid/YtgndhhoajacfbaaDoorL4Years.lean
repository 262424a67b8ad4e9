/- CivilYears' walk. -/
import Derived.Test.YtgndhhoajacfbaaDoorL4Sure
namespace Go.Proofs.YtgndhhoajacfbaaDoor
open Go.RowKit

theorem tmod37 (n : Int) : -137438953472 < n.tmod 137438953472 ∧ n.tmod 137438953472 < 137438953472 :=
  ⟨Int.lt_tmod_of_pos n (by omega), Int.tmod_lt_of_pos n (by omega)⟩
theorem is_first (y : Int) : Is y 1 1 := ⟨by omega, by omega, by omega, by have := mlen_le (y := y) (m := 1) (by omega) (by omega); omega⟩
theorem nr_first (y : Int) : nr y 1 1 = bgn y := by
  show bgn y + 0 + 1 - 1 = bgn y
  omega
set_option maxRecDepth 100000 in
set_option maxHeartbeats 4000000 in
theorem years_any (n : Int) (w : World) (ht : Tab w) (_ : -9223372036854775808 ≤ n ∧ n ≤ 9223372036854775807) :
    Calls Tryd.prog 8 #[.int .i64 n] w fun e w' => e = .returned (.bool true) ∧ Below w.heap.size w w' := by
  have HT := Lib.hid ht
  clear ht
  obtain ⟨k1, k2⟩ := tmod37 n
  obtain ⟨y, hy⟩ : ∃ y, n.tmod 137438953472 = y := ⟨_, rfl⟩
  rw [hy] at k1 k2
  have HA := Lib.hid (daysOk_any y 1 1 w (is_first y) (by omega) (by omega) HT.out)
  rw [nr_first] at HA
  unfold dt at HA
  obtain ⟨hb1, hb2⟩ := bgn_bd (y := y) (by omega) (by omega)
  have hbs := bgn_succ y
  obtain ⟨hl1, hl2⟩ := leapN_le y
  have HLP := Lib.hid (And.intro (leapN_true (y := y)) (leapN_false (y := y)))
  have HLC := Lib.hid (fun W => leap_any y W)
  have HC12 := Lib.hid (cum_12 y)
  go_enter Tryd.func8, Tryd.ntmps8
  go_wp2_with fail
  refine HA.out.mono ?_
  rintro e w1 ⟨rfl, hb⟩
  have HB1 := Lib.hid hb
  have HB := Lib.hid (daysOk_any (y + 1) 1 1 w1 (is_first (y + 1)) (by omega) (by omega) (HT.out.below hb))
  rw [nr_first, hbs] at HB
  unfold dt at HB
  clear hb hbs HA
  generalize bgn y = A at *
  generalize leapN y = l at *
  go_wp2_with fail
  refine HB.out.mono ?_
  rintro e w2 ⟨rfl, hb⟩
  have HB2 := Lib.hid (HB1.out.trans (hb.mono HB1.out.size))
  clear hb HB HB1
  go_wp2_with fail
  go_loop [8, 9] (fun s i => ∃ j : Nat, i = .int .i64 ((j : Int) + 1) ∧ j ≤ 12 ∧ s = .int .i64 (cum y j)) (fun _ i => 13 - (intOf i).toNat)
  case atStart => exact ⟨0, rfl, by omega, rfl⟩
  case round =>
    obtain ⟨j, rfl, hj, rfl⟩ := hrel
    have hcum := cum_nn y j hj
    by_cases hlt : j < 12
    · have HS := Lib.hid (cum_succ y j)
      have hlk := mlen_le (y := y) (m := j + 1) (by omega) (by omega)
      have HL := Lib.hid (lengthOk_any y (j + 1) w2 (by omega) (by omega) (by omega) (by omega) (HT.out.below HB2.out))
      generalize cum y j = c at *
      generalize mlen y (j + 1) = x at *
      go_wp2_with fail
      refine HL.out.mono ?_
      rintro e w3 ⟨rfl, rfl⟩
      go_wp2_with fail
      go_round
      case rel => exact ⟨j + 1, by go_num, by omega, by rw [HS.out]⟩
      case measure => simp [intOf]; omega
    · obtain rfl : j = 12 := by omega
      rw [HC12.out]
      clear hcum
      have HS := Lib.hid (sure_any w2 (HT.out.below HB2.out))
      cases hL : leapB y with
      | true =>
        have hl := HLP.out.1 hL
        subst hl
        rw [hL] at HLC
        clear hL HLP HC12
        go_wp2_with fail
        refine (HLC.out _).mono ?_
        rintro e w3 ⟨rfl, rfl⟩
        go_wp2_with fail
        refine HS.out.mono ?_
        rintro e w4 ⟨rfl, hb⟩
        have HB4 := Lib.hid (HB2.out.trans (hb.mono HB2.out.size))
        clear hb
        go_wp2_with fail
        go_ret
        exact ⟨rfl, HB4.out⟩
      | false =>
        have hl := HLP.out.2 hL
        subst hl
        rw [hL] at HLC
        clear hL HLP HC12
        go_wp2_with fail
        refine (HLC.out _).mono ?_
        rintro e w3 ⟨rfl, rfl⟩
        go_wp2_with fail
        refine HS.out.mono ?_
        rintro e w4 ⟨rfl, hb⟩
        have HB4 := Lib.hid (HB2.out.trans (hb.mono HB2.out.size))
        clear hb
        go_wp2_with fail
        go_ret
        exact ⟨rfl, HB4.out⟩
end Go.Proofs.YtgndhhoajacfbaaDoor

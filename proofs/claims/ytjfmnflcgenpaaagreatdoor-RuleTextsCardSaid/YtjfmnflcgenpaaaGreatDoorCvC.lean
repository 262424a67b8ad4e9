/- Contracts: civil's year, Days, Of. -/
import Derived.Test.YtjfmnflcgenpaaaGreatDoorCvB
namespace Go.Proofs.YtjfmnflcgenpaaaGreatDoor
open Go.RowKit

theorem year_any (n Y : Int) (w : World) (h1 : bgn Y ≤ n) (h2 : n < bgn (Y + 1)) (hn1 : -70368744177664 ≤ n) (hn2 : n ≤ 70368744177664) :
    Calls Tryz.prog 38 #[.int .i64 n] w fun e w' => e = .returned (.int .i64 Y) ∧ w = w' := by
  have hbd := year_bd h1 h2 hn1 hn2
  have H1 := Lib.hid h1
  have H2 := Lib.hid h2
  clear h1 h2
  go_enter Tryz.func38, Tryz.ntmps38
  go_wp2_with fail
  refine (floor_any _ _ _ (by omega) (by omega) (by omega)).mono ?_
  rintro e w' ⟨rfl, rfl⟩
  go_wp2_with fail
  go_loop [3] (fun y => ∃ z : Int, y = .int .i64 z ∧ -549755813888 ≤ z ∧ z ≤ 549755813888) (fun y => (intOf y - Y).toNat)
  case atStart => exact ⟨_, rfl, by omega, by omega⟩
  case round =>
    obtain ⟨z, rfl, hz1, hz2⟩ := hrel
    have hb := Lib.hid (And.intro (bgn_le (a := z) (b := Y)) (bgn_le (a := Y + 1) (b := z)))
    by_cases hlt : n < bgn z
    · have hY : Y < z := by
        have := hb.out
        have := H1.out
        omega
      have hbg := begin_any z w (by omega) (by omega)
      have HBG := Lib.hid hbg
      clear hbg hb
      generalize bgn z = bz at *
      go_wp2_with fail
      refine HBG.out.mono ?_
      rintro e w' ⟨rfl, rfl⟩
      go_wp2_with fail
      go_round
      case rel => exact ⟨z - 1, rfl, by omega, by omega⟩
      case measure => simp [intOf]; omega
    · have hY : z ≤ Y := by
        have := hb.out
        have := H2.out
        omega
      have hbg := begin_any z w (by omega) (by omega)
      have HBG := Lib.hid hbg
      clear hbg hb
      generalize bgn z = bz at *
      go_wp2_with fail
      refine HBG.out.mono ?_
      rintro e w' ⟨rfl, rfl⟩
      go_wp2_with fail
      clear HBG hlt
      go_loop [3] (fun y => ∃ z : Int, y = .int .i64 z ∧ -549755813888 ≤ z ∧ z ≤ Y) (fun y => (Y - intOf y).toNat)
      case atStart => exact ⟨_, rfl, by omega, by omega⟩
      case round =>
        obtain ⟨x, rfl, hx1, hx2⟩ := hrel
        have hb := Lib.hid (And.intro (bgn_le (a := x + 1) (b := Y)) (bgn_le (a := Y + 1) (b := x + 1)))
        have hbg := begin_any (x + 1) w (by omega) (by omega)
        have HBG := Lib.hid hbg
        clear hbg
        by_cases hle : bgn (x + 1) ≤ n
        · have hY : x + 1 ≤ Y := by
            have := hb.out
            have := H2.out
            omega
          clear hb
          generalize bgn (x + 1) = bz at *
          go_wp2_with fail
          refine HBG.out.mono ?_
          rintro e w' ⟨rfl, rfl⟩
          go_wp2_with fail
          go_round
          case rel => exact ⟨x + 1, rfl, by omega, by omega⟩
          case measure => simp [intOf]; omega
        · obtain rfl : x = Y := by
            have := hb.out
            have := H1.out
            omega
          clear hb H2
          generalize bgn (x + 1) = bz at *
          go_wp2_with fail
          refine HBG.out.mono ?_
          rintro e w' ⟨rfl, rfl⟩
          go_wp2_with fail
          go_ret
          exact ⟨rfl, rfl⟩
end Go.Proofs.YtjfmnflcgenpaaaGreatDoor

/- LebOrder's walk. -/
import Derived.Test.YtkhlmlmbgfnolaaLebE
namespace Go.Proofs.Ytkhlmlmbgfnolaa
open Go.RowKit

theorem put0 (v d : Nat) (w : World) (hv : v < 18446744073709551616) (hd : (dig v).length = d) :
    Calls Try.prog 7 #[.slice none 0 0, .int .u64 v] w fun e w' => ∃ A c, e = .returned (.slice A d c) ∧ d ≤ c ∧ Rd w' A (bs (dig v)) ∧ Below w.heap.size w w' := by
  refine (put_n none 0 0 [] v w rfl Rd.nil hv (by omega)).mono ?_
  rintro e w' ⟨x, rfl, hown, hb⟩
  rw [hd, Nat.zero_add, List.nil_append] at hown
  obtain ⟨A, c, rfl, hc, _, _, hR, _⟩ := owns_form hown
  exact ⟨A, c, rfl, hc, hR, hb⟩

set_option maxRecDepth 100000 in
set_option maxHeartbeats 2000000 in
theorem order_nat (v u : Nat) (w : World) (hv : v < 18446744073709551616) (hu : u < 18446744073709551616) :
    Calls Try.prog 4 #[.int .u64 v, .int .u64 u] w fun e w' => e = .returned (.bool true) ∧ Below w.heap.size w w' := by
  obtain ⟨d1, hd1⟩ : ∃ d, (dig v).length = d := ⟨_, rfl⟩
  obtain ⟨d2, hd2⟩ : ∃ d, (dig u).length = d := ⟨_, rfl⟩
  have HD1 := Lib.hid hd1
  have HD2 := Lib.hid hd2
  have h10 : d1 ≤ 10 := by rw [← hd1]; exact dig_len10 hv
  have h10' : d2 ≤ 10 := by rw [← hd2]; exact dig_len10 hu
  have HM : Hid (v ≤ u → d1 ≤ d2) := fun h => by rw [← hd1, ← hd2]; exact dig_mono h
  have HE : Hid (((str (dig v)).toList == (str (dig u)).toList) = decide (v = u)) := by
    unfold Hid
    rw [str_toList, str_toList]
    by_cases h : v = u
    · subst h; simp
    · rw [decide_eq_false h]
      exact beq_eq_false_iff_ne.2 fun h' => h (dig_inj h')
  clear hd1 hd2
  go_enter Try.func4, Try.ntmps4
  go_wp2_with fail
  refine (put0 v d1 w hv HD1.out).mono ?_
  rintro e w1 ⟨A1, c1, rfl, hc1, hR1, hb1⟩
  have HB1 := Lib.hid hb1
  have HR1 := Lib.hid hR1
  clear hb1 hR1
  go_wp2_with fail
  refine (put0 u d2 w1 hu HD2.out).mono ?_
  rintro e w2 ⟨A2, c2, rfl, hc2, hR2, hb2⟩
  have HB2 := Lib.hid (HB1.out.trans (hb2.mono HB1.out.size))
  have cv1 := run_conv_str (P := Try.prog) (w := w2) Try.underlying22 Try.underlying5 Try.underlying9 (c := c1) HD1.out (HR1.out.below hb2)
  have cv2 := run_conv_str (P := Try.prog) (w := w2) Try.underlying22 Try.underlying5 Try.underlying9 (c := c2) HD2.out hR2
  have CV1 := Lib.hid cv1
  have CV2 := Lib.hid cv2
  clear hb2 hR2 cv1 cv2
  go_wp2_with fail
  go_loop [7, 8] (fun nn x => ∃ (k y : Nat), nn = .int .i64 k ∧ x = .int .u64 y ∧ y < 18446744073709551616 ∧ (dig y).length + k = d1 + 1) (fun _ x => (intOf x).toNat)
  case atStart => exact ⟨1, v, rfl, rfl, hv, by rw [HD1.out]⟩
  case round =>
    obtain ⟨k, y, rfl, rfl, hy, hk⟩ := hrel
    have hp := dig_pos y
    rcases Nat.lt_or_ge y 128 with h | h
    · have hk1 : k = d1 := by
        have := (dig_one y).2 h
        omega
      subst hk1
      clear hp hk
      have hE := HE.out
      have cv1 := CV1.out
      have cv2 := CV2.out
      rcases Nat.lt_trichotomy v u with hlt | rfl | hgt
      · have h1 := HM.out (by omega)
        have h2 : (k : Int) ≤ (d2 : Int) := by omega
        have h3 : ¬ (u : Int) < (v : Int) := by omega
        have h4 : ((v : Int) == (u : Int)) = false := beq_eq_false_iff_ne.2 (by omega)
        rw [decide_eq_false (by omega)] at hE
        go_wp2_with fail
        refine (sure_any w2).mono ?_
        rintro e w3 ⟨rfl, hb3⟩
        have HB3 := Lib.hid (HB2.out.trans (hb3.mono HB2.out.size))
        clear hb3
        go_wp2_with fail
        go_ret
        exact ⟨rfl, HB3.out⟩
      · rw [decide_eq_true rfl] at hE
        have h1 := HM.out (Nat.le_refl _)
        have h2 : (k : Int) ≤ (d2 : Int) := by omega
        go_wp2_with fail
        refine (sure_any w2).mono ?_
        rintro e w3 ⟨rfl, hb3⟩
        have HB3 := Lib.hid (HB2.out.trans (hb3.mono HB2.out.size))
        clear hb3
        go_wp2_with fail
        go_ret
        exact ⟨rfl, HB3.out⟩
      · have h3 : (u : Int) < (v : Int) := by omega
        have h4 : ((v : Int) == (u : Int)) = false := beq_eq_false_iff_ne.2 (by omega)
        rw [decide_eq_false (by omega)] at hE
        go_wp2_with fail
        refine (sure_any w2).mono ?_
        rintro e w3 ⟨rfl, hb3⟩
        have HB3 := Lib.hid (HB2.out.trans (hb3.mono HB2.out.size))
        clear hb3
        go_wp2_with fail
        go_ret
        exact ⟨rfl, HB3.out⟩
    · have hdd : (dig (y / 128)).length + (k + 1) = d1 + 1 := by
        rw [dig_ge h, List.length_cons] at hk
        omega
      have hk10 : k ≤ 10 := by omega
      have HDD := Lib.hid hdd
      clear hdd hk hp
      go_wp2_with fail
      go_round
      case rel => exact ⟨k + 1, y / 128, by go_num, by go_num, by omega, HDD.out⟩
      case measure => simp [intOf]; omega
theorem order_any (v u : Int) (w : World) (hv : 0 ≤ v ∧ v ≤ 18446744073709551615) (hu : 0 ≤ u ∧ u ≤ 18446744073709551615) :
    Calls Try.prog 4 #[.int .u64 v, .int .u64 u] w fun e w' => e = .returned (.bool true) ∧ Below w.heap.size w w' := by
  obtain ⟨v, rfl⟩ := Int.eq_ofNat_of_zero_le hv.1
  obtain ⟨u, rfl⟩ := Int.eq_ofNat_of_zero_le hu.1
  exact order_nat v u w (by omega) (by omega)
end Go.Proofs.Ytkhlmlmbgfnolaa

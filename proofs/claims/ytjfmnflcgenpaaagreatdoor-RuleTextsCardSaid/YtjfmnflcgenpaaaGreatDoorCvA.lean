/- Contracts of civil's floor, Leap, begin, length, Length, year, Weekday. -/
import Derived.Test.YtjfmnflcgenpaaaGreatDoorCvMath
import Derived.Deep.QuietTactic
import Derived.BigQuiet
namespace Go.Proofs.YtjfmnflcgenpaaaGreatDoor
open Go.RowKit

theorem ret_int {k : IntKind} {a b : Int} (h : a = b) : Ending.returned (.int k a) = .returned (.int k b) := by rw [h]
theorem ret_bool {a b : Bool} (h : a = b) : Ending.returned (.bool a) = .returned (.bool b) := by rw [h]
theorem ret_pair {a b c d : Int} (h : a = c) (h2 : b = d) : Ending.returned (.tuple #[.int .i64 a, .int .i64 b]) = .returned (.tuple #[.int .i64 c, .int .i64 d]) := by rw [h, h2]
theorem below_drewN (w : World) (n : Nat) : Below w.heap.size w (w.drewN n) := ⟨rfl, rfl, rfl, Nat.le_refl _, fun _ _ => rfl⟩
theorem floor_any (a b : Int) (w : World) (ha : -4611686018427387904 ≤ a) (ha2 : a ≤ 4611686018427387904) (hb : 2 ≤ b) :
    Calls Tryz.prog 57 #[.int .i64 a, .int .i64 b] w fun e w' => e = .returned (.int .i64 (a / b)) ∧ w = w' := by
  rcases Int.lt_or_le a 0 with h | h
  · obtain ⟨h1, h2, h3, h4, h5⟩ := floor_neg a b h (by omega)
    rcases Int.lt_or_le (a.tmod b) 0 with hr | hr
    · have H2 := Lib.hid (h2 hr)
      clear h2 h3
      go_enter Tryz.func57, Tryz.ntmps57
      go_wp2
      go_ret
      exact ⟨ret_int H2.out, rfl⟩
    · have H2 := Lib.hid (h3 hr)
      clear h2 h3
      go_enter Tryz.func57, Tryz.ntmps57
      go_wp2
      go_ret
      exact ⟨ret_int H2.out, rfl⟩
  · have h0 := Int.emod_nonneg a (show b ≠ 0 by omega)
    go_enter Tryz.func57, Tryz.ntmps57
    go_wp2
    go_ret
    exact ⟨rfl, rfl⟩

theorem leap_any (y : Int) (w : World) :
    Calls Tryz.prog 58 #[.int .i64 y] w fun e w' => e = .returned (.bool (leapB y)) ∧ w = w' := by
  have h4 := Lib.hid (tmod_zero y 4)
  have h100 := Lib.hid (tmod_zero y 100)
  have h400 := Lib.hid (tmod_zero y 400)
  have H := Lib.hid (leapB_iff y)
  generalize leapB y = L at *
  go_enter Tryz.func58, Tryz.ntmps58
  go_wp2
  all_goals
    go_ret
    refine ⟨ret_bool ?_, rfl⟩
    have e4 := h4.out
    have e100 := h100.out
    have e400 := h400.out
    have e := H.out
    rw [Bool.eq_iff_iff, e]
    simp only [beq_iff_eq, true_iff]
    omega
theorem refLeap_any (y : Int) (w : World) :
    Calls Tryz.prog 45 #[.int .i64 y] w fun e w' => e = .returned (.bool (leapB y)) ∧ w = w' := by
  have h4 := Lib.hid (tmod_zero y 4)
  have h100 := Lib.hid (tmod_zero y 100)
  have h400 := Lib.hid (tmod_zero y 400)
  have H := Lib.hid (leapB_iff y)
  generalize leapB y = L at *
  go_enter Tryz.func45, Tryz.ntmps45
  go_wp2
  all_goals
    go_ret
    refine ⟨ret_bool ?_, rfl⟩
    have e4 := h4.out
    have e100 := h100.out
    have e400 := h400.out
    have e := H.out
    rw [Bool.eq_iff_iff, e]
    simp only [bne_iff_ne, ne_eq, true_iff, Bool.or_eq_true, beq_iff_eq]
    omega

theorem weekday_any (n : Int) (w : World) :
    Calls Tryz.prog 18 #[.int .i64 n] w fun e w' => e = .returned (.int .i64 (wd n)) ∧ w = w' := by
  obtain ⟨h1, h2, h3, _, _⟩ := tmod7 n
  obtain ⟨r, hr⟩ : ∃ r, n.tmod 7 = r := ⟨_, rfl⟩
  rw [hr] at h1 h2 h3
  have H := Lib.hid h3
  clear h3
  generalize wd n = W at *
  go_enter Tryz.func18, Tryz.ntmps18
  go_wp2
  go_ret
  exact ⟨ret_int H.out, rfl⟩
theorem whole_any (n b : Int) (w : World) (hn : -9223372036854775808 ≤ n) (hn2 : n ≤ 9223372036854775807) (hb : 2 ≤ b) (hb2 : b ≤ 1000000) :
    Calls Tryz.prog 44 #[.int .i64 n, .int .i64 b] w fun e w' => e = .returned (.tuple #[.int .i64 (n / b), .int .i64 (n % b)]) ∧ Below w.heap.size w w' := by
  rcases Int.lt_or_le n 0 with h | h
  · obtain ⟨h1, h2, h3, h4, h5⟩ := floor_neg n b h (by omega)
    obtain ⟨g1, g2, g3⟩ := mod_neg n b h (by omega)
    have hh := floor_half n b h hb
    rcases Int.lt_or_le (n.tmod b) 0 with hr | hr
    · have H2 := Lib.hid (h2 hr)
      have G2 := Lib.hid (g2 hr)
      clear h2 h3 g2 g3
      go_enter Tryz.func44, Tryz.ntmps44
      go_wp2
      go_quiet (fail)
      go_wp2
      go_ret2
      exact ⟨ret_pair H2.out G2.out, below_drewN _ _⟩
    · have H2 := Lib.hid (h3 hr)
      have G2 := Lib.hid (g3 hr)
      clear h2 h3 g2 g3
      go_enter Tryz.func44, Tryz.ntmps44
      go_wp2
      go_quiet (fail)
      go_wp2
      go_ret2
      exact ⟨ret_pair H2.out G2.out, below_drewN _ _⟩
  · have h0 := Int.emod_nonneg n (show b ≠ 0 by omega)
    go_enter Tryz.func44, Tryz.ntmps44
    go_wp2
    go_quiet (fail)
    go_wp2
    go_ret2
    exact ⟨rfl, below_drewN _ _⟩
theorem refWeekday_any (n : Int) (w : World) (hn : -9223372036854775808 ≤ n) (hn2 : n ≤ 9223372036854775807) :
    Calls Tryz.prog 28 #[.int .i64 n] w fun e w' => e = .returned (.int .i64 (wd n)) ∧ Below w.heap.size w w' := by
  have H : Hid ((n % 7 + 4) % 7 = wd n) := by unfold Hid wd; omega
  have hb : 0 ≤ n % 7 ∧ n % 7 < 7 := by omega
  obtain ⟨hb1, hb2⟩ := hb
  go_enter Tryz.func28, Tryz.ntmps28
  go_wp2_with fail
  refine (whole_any n 7 _ hn hn2 (by omega) (by omega)).mono ?_
  rintro e w1 ⟨rfl, hb⟩
  have HB := Lib.hid hb
  clear hb
  go_wp2_with fail
  go_ret
  exact ⟨ret_int H.out, HB.out⟩
end Go.Proofs.YtjfmnflcgenpaaaGreatDoor

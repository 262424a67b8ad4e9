/- Contracts of civil's floor, Leap, begin, length, Length, year, Weekday. -/
import Derived.Test.YtgfibckahnjclaaDoorCvMath
import Derived.Deep.QuietTactic
import Derived.BigQuiet
namespace Go.Proofs.YtgfibckahnjclaaDoor
open Go.RowKit

theorem ret_int {k : IntKind} {a b : Int} (h : a = b) : Ending.returned (.int k a) = .returned (.int k b) := by rw [h]
theorem ret_bool {a b : Bool} (h : a = b) : Ending.returned (.bool a) = .returned (.bool b) := by rw [h]
theorem ret_pair {a b c d : Int} (h : a = c) (h2 : b = d) : Ending.returned (.tuple #[.int .i64 a, .int .i64 b]) = .returned (.tuple #[.int .i64 c, .int .i64 d]) := by rw [h, h2]
theorem below_drewN (w : World) (n : Nat) : Below w.heap.size w (w.drewN n) := ⟨rfl, rfl, rfl, Nat.le_refl _, fun _ _ => rfl⟩
theorem floor_any (a b : Int) (w : World) (ha : -4611686018427387904 ≤ a) (ha2 : a ≤ 4611686018427387904) (hb : 2 ≤ b) :
    Calls Tryd.prog 54 #[.int .i64 a, .int .i64 b] w fun e w' => e = .returned (.int .i64 (a / b)) ∧ w = w' := by
  rcases Int.lt_or_le a 0 with h | h
  · obtain ⟨h1, h2, h3, h4, h5⟩ := floor_neg a b h (by omega)
    rcases Int.lt_or_le (a.tmod b) 0 with hr | hr
    · have H2 := Lib.hid (h2 hr)
      clear h2 h3
      go_enter Tryd.func54, Tryd.ntmps54
      go_wp2
      go_ret
      exact ⟨ret_int H2.out, rfl⟩
    · have H2 := Lib.hid (h3 hr)
      clear h2 h3
      go_enter Tryd.func54, Tryd.ntmps54
      go_wp2
      go_ret
      exact ⟨ret_int H2.out, rfl⟩
  · have h0 := Int.emod_nonneg a (show b ≠ 0 by omega)
    go_enter Tryd.func54, Tryd.ntmps54
    go_wp2
    go_ret
    exact ⟨rfl, rfl⟩

theorem leap_any (y : Int) (w : World) :
    Calls Tryd.prog 55 #[.int .i64 y] w fun e w' => e = .returned (.bool (leapB y)) ∧ w = w' := by
  have h4 := Lib.hid (tmod_zero y 4)
  have h100 := Lib.hid (tmod_zero y 100)
  have h400 := Lib.hid (tmod_zero y 400)
  have H := Lib.hid (leapB_iff y)
  generalize leapB y = L at *
  go_enter Tryd.func55, Tryd.ntmps55
  go_wp2
  all_goals
    go_ret
    refine ⟨ret_bool ?_, rfl⟩
    have e4 := h4.out
    have e100 := h100.out
    have e400 := h400.out
    have e := H.out
    rw [Bool.eq_iff_iff, e]
    simp only [beq_iff_eq, true_iff]
    omega
theorem refLeap_any (y : Int) (w : World) :
    Calls Tryd.prog 47 #[.int .i64 y] w fun e w' => e = .returned (.bool (leapB y)) ∧ w = w' := by
  have h4 := Lib.hid (tmod_zero y 4)
  have h100 := Lib.hid (tmod_zero y 100)
  have h400 := Lib.hid (tmod_zero y 400)
  have H := Lib.hid (leapB_iff y)
  generalize leapB y = L at *
  go_enter Tryd.func47, Tryd.ntmps47
  go_wp2
  all_goals
    go_ret
    refine ⟨ret_bool ?_, rfl⟩
    have e4 := h4.out
    have e100 := h100.out
    have e400 := h400.out
    have e := H.out
    rw [Bool.eq_iff_iff, e]
    simp only [bne_iff_ne, ne_eq, true_iff, Bool.or_eq_true, beq_iff_eq]
    omega

theorem whole_any (n b : Int) (w : World) (hn : -9223372036854775808 ≤ n) (hn2 : n ≤ 9223372036854775807) (hb : 2 ≤ b) (hb2 : b ≤ 1000000) :
    Calls Tryd.prog 46 #[.int .i64 n, .int .i64 b] w fun e w' => e = .returned (.tuple #[.int .i64 (n / b), .int .i64 (n % b)]) ∧ Below w.heap.size w w' := by
  rcases Int.lt_or_le n 0 with h | h
  · obtain ⟨h1, h2, h3, h4, h5⟩ := floor_neg n b h (by omega)
    obtain ⟨g1, g2, g3⟩ := mod_neg n b h (by omega)
    have hh := floor_half n b h hb
    rcases Int.lt_or_le (n.tmod b) 0 with hr | hr
    · have H2 := Lib.hid (h2 hr)
      have G2 := Lib.hid (g2 hr)
      clear h2 h3 g2 g3
      go_enter Tryd.func46, Tryd.ntmps46
      go_wp2
      go_quiet (fail)
      go_wp2
      go_ret2
      exact ⟨ret_pair H2.out G2.out, below_drewN _ _⟩
    · have H2 := Lib.hid (h3 hr)
      have G2 := Lib.hid (g3 hr)
      clear h2 h3 g2 g3
      go_enter Tryd.func46, Tryd.ntmps46
      go_wp2
      go_quiet (fail)
      go_wp2
      go_ret2
      exact ⟨ret_pair H2.out G2.out, below_drewN _ _⟩
  · have h0 := Int.emod_nonneg n (show b ≠ 0 by omega)
    go_enter Tryd.func46, Tryd.ntmps46
    go_wp2
    go_quiet (fail)
    go_wp2
    go_ret2
    exact ⟨rfl, below_drewN _ _⟩
end Go.Proofs.YtgfibckahnjclaaDoor

/- Contract of the document's Length. -/
import Derived.Test.YtjfmnflcgenpaaaGreatDoorCvA
namespace Go.Proofs.YtjfmnflcgenpaaaGreatDoor
open Go.RowKit

set_option maxHeartbeats 2000000 in
theorem refLength_any (y : Int) (m : Nat) (w : World) (h1 : 1 ≤ m) (h2 : m ≤ 12) :
    Calls Tryz.prog 29 #[.int .i64 y, .int .i64 m] w fun e w' => e = .returned (.int .i64 (mlen y m)) ∧ Below w.heap.size w w' := by
  by_cases he : m = 2
  · subst he
    have hl := refLeap_any y w
    cases hL : leapB y with
    | true =>
      have H : Hid (29 = mlen y 2) := by unfold Hid mlen mtab; rw [if_pos rfl, leapN_true hL]; rfl
      rw [hL] at hl
      generalize mlen y 2 = r at *
      have HL := Lib.hid hl
      clear hl hL
      go_enter Tryz.func29, Tryz.ntmps29
      go_wp2_with fail
      refine HL.out.mono ?_
      rintro e w' ⟨rfl, rfl⟩
      go_wp2_with fail
      go_ret
      exact ⟨ret_int H.out, Below.refl _ _⟩
    | false =>
      have H : Hid (28 = mlen y 2) := by unfold Hid mlen mtab; rw [if_pos rfl, leapN_false hL]; rfl
      rw [hL] at hl
      generalize mlen y 2 = r at *
      have HL := Lib.hid hl
      clear hl hL
      go_enter Tryz.func29, Tryz.ntmps29
      go_wp2_with fail
      refine HL.out.mono ?_
      rintro e w' ⟨rfl, rfl⟩
      go_wp2_with fail
      go_ret
      exact ⟨ret_int H.out, (Below.refl _ _).alloc (Nat.le_refl _) _⟩
  · rcases (by omega : m = 1 ∨ m = 3 ∨ m = 4 ∨ m = 5 ∨ m = 6 ∨ m = 7 ∨ m = 8 ∨ m = 9 ∨ m = 10 ∨ m = 11 ∨ m = 12) with h | h | h | h | h | h | h | h | h | h | h
    all_goals
      have H := Lib.hid (show mtab m = mlen y m by unfold mlen; rw [if_neg he]; omega)
      subst h
      clear he h1 h2
      go_enter Tryz.func29, Tryz.ntmps29
      go_wp2
      go_ret
      exact ⟨ret_int H.out, (Below.refl _ _).alloc (Nat.le_refl _) _⟩
end Go.Proofs.YtjfmnflcgenpaaaGreatDoor

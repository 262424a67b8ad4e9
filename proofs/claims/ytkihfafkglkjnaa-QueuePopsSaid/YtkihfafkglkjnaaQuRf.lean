/- Layer 15: the document's functions: Ahead, Find, Without, Set. -/
import Derived.Test.YtkihfafkglkjnaaQuLp
namespace Go.Proofs.Ytkihfafkglkjnaa
open Go.RowKit

set_option maxRecDepth 100000 in
set_option maxHeartbeats 2000000 in
theorem refAhead_any (a b : Ev) (w : World) : Calls Try.prog 11 #[evV a, evV b] w fun e w' => e = .returned (.bool (ahE a b)) ∧ Below w.heap.size w w' := by
  obtain ⟨R, hR⟩ : ∃ R, ahE a b = R := ⟨_, rfl⟩
  rw [hR]
  have hway : (a.1 < b.1 ∧ R = true) ∨ (a.1 = b.1 ∧ a.2.1 < b.2.1 ∧ R = true) ∨ (a.1 = b.1 ∧ a.2.1 = b.2.1 ∧ a.2.2 < b.2.2 ∧ R = true) ∨ (a.1 = b.1 ∧ a.2.1 = b.2.1 ∧ ¬ a.2.2 < b.2.2 ∧ R = false) ∨ (a.1 = b.1 ∧ ¬ a.2.1 < b.2.1 ∧ ¬ a.2.1 = b.2.1 ∧ R = false) ∨ (¬ a.1 < b.1 ∧ ¬ a.1 = b.1 ∧ R = false) := by
    cases R with
    | true =>
      have h := ahE_iff.1 hR
      rcases h with h | ⟨h1, h | ⟨h2, h3⟩⟩
      · exact .inl ⟨h, rfl⟩
      · exact .inr (.inl ⟨h1, h, rfl⟩)
      · exact .inr (.inr (.inl ⟨h1, h2, h3, rfl⟩))
    | false =>
      have h : ¬ ahE a b = true := by rw [hR]; decide
      rw [ahE_iff] at h
      by_cases h1 : a.1 = b.1
      · by_cases h2 : a.2.1 = b.2.1
        · exact .inr (.inr (.inr (.inl ⟨h1, h2, by omega, rfl⟩)))
        · exact .inr (.inr (.inr (.inr (.inl ⟨h1, by omega, h2, rfl⟩))))
      · exact .inr (.inr (.inr (.inr (.inr ⟨by omega, h1, rfl⟩))))
  obtain ⟨a1, a2, a3⟩ := a
  obtain ⟨b1, b2, b3⟩ := b
  unfold evV
  dsimp only at hway ⊢
  have HB := Lib.hid (((Below.refl w.heap.size w).alloc (Nat.le_refl _) (.cells #[.int .i64 a1, .int .i64 a2, .int .i64 a3] 39)).alloc (by simp) (.cells #[.int .i64 b1, .int .i64 b2, .int .i64 b3] 39))
  clear hR
  rcases hway with ⟨h1, rfl⟩ | ⟨rfl, h2, rfl⟩ | ⟨rfl, rfl, h3, rfl⟩ | ⟨rfl, rfl, h3, rfl⟩ | ⟨rfl, h2, h3, rfl⟩ | ⟨h1, h2, rfl⟩
  all_goals
    go_enter Try.func11, Try.ntmps11
    go_wp2_with fail
    go_ret
    exact ⟨rfl, HB.out⟩
end Go.Proofs.Ytkihfafkglkjnaa

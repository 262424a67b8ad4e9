/- Contract: the document's Of. -/
import Derived.Test.YtjfmnflcgenpaaaDoorCvF
namespace Go.Proofs.YtjfmnflcgenpaaaDoor
open Go.RowKit

theorem frz_blk {w : World} {g : Nat} {cs : Array Value} {t : TypeId} (h : w.heap[g]? = some (.cells cs t (0, 0))) (k : Nat) : w.frozen? ⟨g, k, none⟩ = false := by
  simp [World.frozen?, h]
theorem set3 {w : World} {g : Nat} {a b c x y z : Value} {t : TypeId} (h : w.heap[g]? = some (.cells #[a, b, c] t (0, 0))) : (((w.setCell ⟨g, 0, none⟩ x).setCell ⟨g, 1, none⟩ y).setCell ⟨g, 2, none⟩ z).heap[g]? = some (.cells #[x, y, z] t (0, 0)) :=
  heap_setCell_same _ g 2 _ t z (heap_setCell_same _ g 1 _ t y (heap_setCell_same w g 0 _ t x h))
theorem below_set3 {w W : World} {B g : Nat} {x y z : Value} (h : Below B w W) (hg : B ≤ g) : Below B w (((W.setCell ⟨g, 0, none⟩ x).setCell ⟨g, 1, none⟩ y).setCell ⟨g, 2, none⟩ z) :=
  ((h.setCell hg x).setCell hg y).setCell hg z
theorem nr_q (y q n r : Int) (m : Nat) (d : Int) (hi : Is y m d) (hn : nr y m d = n) (hq : n / 146097 = q) (hr : n % 146097 = r) :
    Is (y - 400 * q) m d ∧ nr (y - 400 * q) m d = r ∧ 1970 ≤ y - 400 * q ∧ y - 400 * q ≤ 2370 := by
  have e : y = (y - 400 * q) + 400 * q := by omega
  have h1 : Is (y - 400 * q) m d := ⟨hi.m1, hi.m12, hi.d1, by rw [← mlen_400 _ q, ← e]; exact hi.dl⟩
  have h2 := nr_400 (y - 400 * q) q m d
  rw [← e, hn] at h2
  have hr0 : nr (y - 400 * q) m d = r := by omega
  have hb := nr_in h1
  rw [hr0] at hb
  refine ⟨h1, hr0, ?_, ?_⟩
  · rcases Int.lt_or_le (y - 400 * q) 1970 with h | h
    · have := bgn_le (show y - 400 * q + 1 ≤ 1970 by omega)
      have := bgn_1970
      omega
    · exact h
  · rcases Int.lt_or_le 2370 (y - 400 * q) with h | h
    · have := bgn_le (show 2370 ≤ y - 400 * q by omega)
      have : bgn 2370 = 146097 := by decide
      omega
    · exact h
end Go.Proofs.YtjfmnflcgenpaaaDoor

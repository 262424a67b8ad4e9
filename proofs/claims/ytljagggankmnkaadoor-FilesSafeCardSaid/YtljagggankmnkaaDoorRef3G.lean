/- The reference's lists (layer 3): Sync. -/
import Derived.Test.YtljagggankmnkaaDoorRef3E
namespace Go.Proofs.YtljagggankmnkaaDoor
open Go.RowKit Go.Maps

theorem set3g {w : World} {g : Nat} {a b c x y z : Value} {t : TypeId} (h : w.heap[g]? = some (.cells #[a, b, c] t (0, 0))) : (((w.setCell ⟨g, 0, none⟩ x).setCell ⟨g, 1, none⟩ y).setCell ⟨g, 2, none⟩ z).heap[g]? = some (.cells #[x, y, z] t (0, 0)) :=
  heap_setCell_same _ g 2 _ t z (heap_setCell_same _ g 1 _ t y (heap_setCell_same w g 0 _ t x h))
theorem below_set3g {w W : World} {B g : Nat} {x y z : Value} (h : Below B w W) (hg : B ≤ g) : Below B w (((W.setCell ⟨g, 0, none⟩ x).setCell ⟨g, 1, none⟩ y).setCell ⟨g, 2, none⟩ z) :=
  ((h.setCell hg x).setCell hg y).setCell hg z
set_option maxHeartbeats 1000000 in
set_option maxRecDepth 100000 in
theorem syncRef_is (A1 : Option Addr) (n1 c1 : Nat) (A2 : Option Addr) (n2 c2 : Nat) (A3 : Option Addr) (n3 c3 : Nat) (w : World) :
    Calls Tryd.prog 25 #[.agg #[.slice A1 n1 c1, .slice A2 n2 c2, .slice A3 n3 c3]] w fun e w' => e = .returned (.agg #[.slice A1 n1 c1, .slice A1 n1 c1, .slice none 0 0]) ∧ Below w.heap.size w w' := by
  obtain ⟨w0, hw0⟩ : ∃ w0, (w.alloc (.cells #[.slice A1 n1 c1, .slice A2 n2 c2, .slice A3 n3 c3] 28)).alloc (.cells #[.slice none 0 0, .slice none 0 0, .slice none 0 0] 28) = w0 := ⟨_, rfl⟩
  have g0 := heap_alloc2_old w (.cells #[.slice A1 n1 c1, .slice A2 n2 c2, .slice A3 n3 c3] 28) (.cells #[.slice none 0 0, .slice none 0 0, .slice none 0 0] 28)
  have g2 := heap_alloc2_new w (.cells #[.slice A1 n1 c1, .slice A2 n2 c2, .slice A3 n3 c3] 28) (.cells #[.slice none 0 0, .slice none 0 0, .slice none 0 0] 28)
  have hbl := ((Below.refl w.heap.size w).alloc (Nat.le_refl _) (.cells #[.slice A1 n1 c1, .slice A2 n2 c2, .slice A3 n3 c3] 28)).alloc (by rw [World.size_alloc]; omega) (.cells #[.slice none 0 0, .slice none 0 0, .slice none 0 0] 28)
  have a0 := cell_blk g0 0 (v := .slice A1 n1 c1) rfl
  have r0 := cell_blk g2 0 (v := .slice none 0 0) rfl
  have r1 := cell_blk g2 1 (v := .slice none 0 0) rfl
  have r2 := cell_blk g2 2 (v := .slice none 0 0) rfl
  have f0 := frz_blk g2 0
  have f1 := frz_blk g2 1
  have f2 := frz_blk g2 2
  have HG := Lib.hid (And.intro g2 hbl)
  clear g0 g2 hbl hw0
  go_enter Tryd.func25, Tryd.ntmps25
  go_wp2_with fail
  (try simp only [Exit.inBlock, Exit.then])
  refine bodyPost_ret (results_cell_row rfl _ _ (w.heap.size + 1) _ #[.slice A1 n1 c1, .slice A1 n1 c1, .slice none 0 0] (0, 0) _ rfl (heap_alloc2_new _ _ _) Tryd.underlying28 rfl (by kernel_rfl)) rfl ⟨rfl, ((Below.refl w.heap.size w).alloc (Nat.le_refl _) _).alloc (by rw [World.size_alloc]; omega) _⟩
end Go.Proofs.YtljagggankmnkaaDoor

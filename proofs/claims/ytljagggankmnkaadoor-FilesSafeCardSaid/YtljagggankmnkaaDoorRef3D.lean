/- The reference's lists (layer 3): Do. -/
import Derived.Test.YtljagggankmnkaaDoorRef3C
import Derived.Deep.RegionHeld3
namespace Go.Proofs.YtljagggankmnkaaDoor
open Go.RowKit Go.Maps

theorem below_drew {B : Nat} {w w' : World} (h : Below B w w') : Below B w w'.drew := ⟨h.os, h.tape, h.output, h.size, h.block⟩
def stepCells (s : Stp Bs) : List Value := [.int .i64 s.k, .string (str s.nm), .string (str s.to), .string (str s.b)]
set_option maxHeartbeats 2000000 in
set_option maxRecDepth 100000 in
theorem doRef_is (s : Stp Bs) (A : Option Addr) (n c : Nat) (L : List (Bs × Bs)) (w : World) (hn : L.length = n) (hs : n ≤ 80000) (hr : RdF w A L) (hk : s.k = 1 → hasF s.nm L = true) :
    Calls Tryd.prog 37 #[.slice A n c, .agg #[.int .i64 s.k, .string (str s.nm), .string (str s.to), .string (str s.b)]] w (NewF w (actF [] L s)) := by
  obtain ⟨k, nm, to, b⟩ := s
  dsimp only at hk ⊢
  obtain ⟨z, hz⟩ : ∃ z : Int, (k : Int) = z := ⟨_, rfl⟩
  rw [hz]
  have hw0 := (Below.refl w.heap.size w).alloc (Nat.le_refl _) (.cells #[.int .i64 z, .string (str nm), .string (str to), .string (str b)] 65)
  have hb0 := (MapKept.heap_alloc w (.cells #[.int .i64 z, .string (str nm), .string (str to), .string (str b)] 65)).1
  have c0 := cell_blk hb0 0 (v := .int .i64 z) rfl
  have c1 := cell_blk hb0 1 (v := .string (str nm)) rfl
  have c2 := cell_blk hb0 2 (v := .string (str to)) rfl
  have c3 := cell_blk hb0 3 (v := .string (str b)) rfl
  have HS := Lib.hid (And.intro hn (And.intro (hr.below hw0) (And.intro hw0 hb0)))
  clear hn hr hw0 hb0
  rcases (show k = 0 ∨ k = 1 ∨ (k ≠ 0 ∧ k ≠ 1) by omega) with rfl | rfl | ⟨h0, h1⟩
  · obtain rfl : z = 0 := by omega
    have HA := Lib.hid (show actF [] L ⟨0, nm, to, b⟩ = put nm b L from rfl)
    go_enter Tryd.func37, Tryd.ntmps37
    go_wp2_with fail
    refine (with_is (nm, b) A n c L _ HS.out.1 (by omega) HS.out.2.1).mono ?_
    rintro e w1 ⟨A1, c1', rfl, hb1, hr1, ha1⟩
    have H1 := Lib.hid (And.intro hb1 (And.intro hr1 ha1))
    clear hb1 hr1 ha1 c0 c1 c2 c3
    go_wp2_with fail
    go_ret
    rw [HA.out]
    exact ⟨A1, c1', rfl, HS.out.2.2.1.trans (H1.out.1.mono HS.out.2.2.1.size), H1.out.2.1, fun a e => Nat.le_trans HS.out.2.2.1.size (H1.out.2.2 a e)⟩
  · obtain rfl : z = 1 := by omega
    have HH := Lib.hid (hk rfl)
    clear hk
    go_enter Tryd.func37, Tryd.ntmps37
    go_wp2_with fail
    refine (find_is nm A n c L _ HS.out.1 (by omega) HS.out.2.1).mono ?_
    rintro e w' ⟨hw, h⟩
    obtain ⟨i, hil, rfl, hnm, hgot, _⟩ : ∃ i : Nat, ∃ hi : i < L.length, e = .returned (.int .i64 i) ∧ L[i].1 = nm ∧ got nm L = some L[i].2 ∧ hasF nm L = true := by
      rcases h with ⟨_, h⟩ | h
      · rw [HH.out] at h
        cases h
      · exact h
    subst hw
    have q0 : (0 : Int) ≤ i := by omega
    have q1 : (i : Int) < n := by have := HS.out.1; omega
    obtain ⟨ad, X, rfl, hX, k0, k1⟩ := HS.out.2.1.two i hil
    obtain ⟨g, hg⟩ : ∃ g, L[i] = g := ⟨_, rfl⟩
    rw [hg] at k1 hgot
    obtain ⟨_, fb⟩ := g
    dsimp only at k1 hgot
    have HA := Lib.hid (show actF [] L ⟨1, nm, to, b⟩ = put to fb (del nm L) by
      simp [actF, hgot])
    clear hnm hgot hil hg k0
    have hS0 := And.intro c1 c2
    go_wp2_with fail
    go_region_held3 (fun W => W.cell? ⟨w.heap.size, 1, none⟩ = some (.string (str nm)) ∧ W.cell? ⟨w.heap.size, 2, none⟩ = some (.string (str to)))
      (first | exact hS0 | exact hS1 | exact hS2)
      (first
        | (go_at_call 48
           refine (without_is nm _ n c L _ HS.out.1 (by omega) HS.out.2.1.drew).mono ?_
           rintro e w1 ⟨A1, c1', rfl, hb1, hr1, ha1⟩
           have hS1 := And.intro ((hb1.cell (World.block_lt_of_cell? _ _ hS0.1)).trans hS0.1) ((hb1.cell (World.block_lt_of_cell? _ _ hS0.2)).trans hS0.2)
           have H1 := Lib.hid (And.intro hb1 (And.intro hr1 ha1))
           clear hb1 hr1 ha1)
        | (go_at_call 47
           refine (with_is (to, fb) A1 (del nm L).length c1' (del nm L) _ rfl (Nat.le_trans (len_del _ _) (by have := HS.out.1; omega)) H1.out.2.1).mono ?_
           rintro e w2 ⟨A2, c2', rfl, hb2, hr2, ha2⟩
           have hS2 := And.intro ((hb2.cell (World.block_lt_of_cell? _ _ hS1.1)).trans hS1.1) ((hb2.cell (World.block_lt_of_cell? _ _ hS1.2)).trans hS1.2)
           have H2 := Lib.hid (And.intro hb2 (And.intro hr2 ha2))
           clear hb2 hr2 ha2))
    all_goals
      have hb2 : Below w.heap.size w w2 := (below_drew HS.out.2.2.1).trans ((H1.out.1.trans (H2.out.1.mono H1.out.1.size)).mono HS.out.2.2.1.size)
      have hsz : w.heap.size ≤ w1.heap.size := Nat.le_trans HS.out.2.2.1.size H1.out.1.size
      have HZ := Lib.hid (And.intro hb2 hsz)
      clear hb2 hsz c0 c1 c2 c3 hS0 k1 hS1 hS2
      go_wp2_with fail
      go_ret
      rw [HA.out]
      exact ⟨A2, c2', rfl, HZ.out.1, H2.out.2.1, fun a e => Nat.le_trans HZ.out.2 (H2.out.2.2 a e)⟩
  · have z0 : ¬ (z = 0) := by omega
    have z1 : ¬ (z = 1) := by omega
    have HA := Lib.hid (show actF [] L ⟨k, nm, to, b⟩ = del nm L by simp [actF, h0, h1])
    go_enter Tryd.func37, Tryd.ntmps37
    go_wp2_with fail
    refine (without_is nm A n c L _ HS.out.1 (by omega) HS.out.2.1).mono ?_
    rintro e w1 ⟨A1, c1', rfl, hb1, hr1, ha1⟩
    have H1 := Lib.hid (And.intro hb1 (And.intro hr1 ha1))
    clear hb1 hr1 ha1 c0 c1 c2 c3
    go_wp2_with fail
    go_ret
    rw [HA.out]
    exact ⟨A1, c1', rfl, HS.out.2.2.1.trans (H1.out.1.mono HS.out.2.2.1.size), H1.out.2.1, fun a e => Nat.le_trans HS.out.2.2.1.size (H1.out.2.2 a e)⟩
end Go.Proofs.YtljagggankmnkaaDoor

/- Contract: the document's Parse of what is of no kind; of any text. -/
import Derived.Test.YtjfmnflcgenpaaaGreatDoorRlY0
import Derived.Test.YtjfmnflcgenpaaaGreatDoorRlY1
import Derived.Test.YtjfmnflcgenpaaaGreatDoorRlY2
import Derived.Test.YtjfmnflcgenpaaaGreatDoorRlY3
namespace Go.Proofs.YtjfmnflcgenpaaaGreatDoor
open Go.RowKit

set_option maxRecDepth 100000 in
set_option maxHeartbeats 8000000 in
theorem refParseN (s p0 : List UInt8) (ps : List (List UInt8)) (w : World) (hs : s.length ≤ 1000) (hc : cutAt 32 s = p0 :: ps) (hn : pr s = none)
    (hk : (p0 = wW ∧ ps.length + 1 ≠ 2) ∨ (p0 = dW ∧ ps.length + 1 ≠ 3) ∨ (p0 = nW ∧ ps.length + 1 ≠ 4) ∨ (p0 = tW ∧ ps.length + 1 ≠ 3) ∨ (p0 ≠ wW ∧ p0 ≠ dW ∧ p0 ≠ nW ∧ p0 ≠ tW)) :
    Calls Tryz.prog 15 #[.string (str s)] w fun e w' => e = .returned (ans2 (pr s)) ∧ Below w.heap.size w w' := by
  rw [hn, ans2_none]
  have HC := Lib.hid (fun W => cut_r s 32 32 W rfl hs)
  rw [hc] at HC
  obtain ⟨n, hnl⟩ : ∃ n, ps.length + 1 = n := ⟨_, rfl⟩
  have hlen : (p0 :: ps).length = n := hnl
  have hlenL : (strL (p0 :: ps)).length = n := by rw [strL_length]; exact hnl
  have hn1 : 1 ≤ n := by omega
  have hnm : n ≤ 1001 := by
    have h := cutAt_length 32 s
    have h2 : s.count 32 ≤ s.length := List.count_le_length
    rw [hc, hlen] at h
    omega
  rw [hnl] at hk
  rw [hlen] at HC
  have HCL : Hid (∀ (W : World) (ad : Addr), (∀ j v, (strL (p0 :: ps))[j]? = some v → W.cell? (ad.add j) = some v) → W.cell? ad = some (.string (str p0))) := fun W ad h => h 0 _ rfl
  have hx : ∀ l : List UInt8, ((str p0).toList == l) = decide (p0 = l) := fun l => str_eq_lit p0 l
  have hkk : (p0 = wW ∧ p0 ≠ dW ∧ p0 ≠ nW ∧ p0 ≠ tW ∧ n ≠ 2) ∨ (p0 ≠ wW ∧ p0 = dW ∧ p0 ≠ nW ∧ p0 ≠ tW ∧ n ≠ 3) ∨ (p0 ≠ wW ∧ p0 ≠ dW ∧ p0 = nW ∧ p0 ≠ tW ∧ n ≠ 4) ∨ (p0 ≠ wW ∧ p0 ≠ dW ∧ p0 ≠ nW ∧ p0 = tW ∧ n ≠ 3) ∨ (p0 ≠ wW ∧ p0 ≠ dW ∧ p0 ≠ nW ∧ p0 ≠ tW ∧ n = n) := by
    rcases hk with ⟨h, h'⟩ | ⟨h, h'⟩ | ⟨h, h'⟩ | ⟨h, h'⟩ | ⟨h1, h2, h3, h4⟩
    · exact .inl ⟨h, by rw [h]; decide, by rw [h]; decide, by rw [h]; decide, h'⟩
    · exact .inr (.inl ⟨by rw [h]; decide, h, by rw [h]; decide, by rw [h]; decide, h'⟩)
    · exact .inr (.inr (.inl ⟨by rw [h]; decide, by rw [h]; decide, h, by rw [h]; decide, h'⟩))
    · exact .inr (.inr (.inr (.inl ⟨by rw [h]; decide, by rw [h]; decide, by rw [h]; decide, h, h'⟩)))
    · exact .inr (.inr (.inr (.inr ⟨h1, h2, h3, h4, rfl⟩)))
  have hb0 := (Below.refl w.heap.size w).alloc (Nat.le_refl _) (.cells #[.int .i64 0, .int .i64 0, .int .i64 0, .int .i64 0, .int .i64 0, .int .i64 0, .int .i64 0, .int .i64 0, .int .i64 0, .int .i64 0] 25)
  have G0 := Lib.hid (heap_alloc_new w (.cells #[.int .i64 0, .int .i64 0, .int .i64 0, .int .i64 0, .int .i64 0, .int .i64 0, .int .i64 0, .int .i64 0, .int .i64 0, .int .i64 0] 25))
  have HB0 := Lib.hid hb0
  have hlt0 : w.heap.size < (w.alloc (.cells #[.int .i64 0, .int .i64 0, .int .i64 0, .int .i64 0, .int .i64 0, .int .i64 0, .int .i64 0, .int .i64 0, .int .i64 0, .int .i64 0] 25)).heap.size := by simp
  clear hb0 hc hlen hnl hk hn hs
  generalize str p0 = s0 at *
  generalize str s = S at *
  have x0 : (s0.toList == [119, 101, 101, 107, 100, 97, 121]) = decide (p0 = wW) := hx _
  have x1 : (s0.toList == [100, 97, 121]) = decide (p0 = dW) := hx _
  have x2 : (s0.toList == [110, 116, 104]) = decide (p0 = nW) := hx _
  have x3 : (s0.toList == [100, 97, 116, 101, 115]) = decide (p0 = tW) := hx _
  clear hx
  rcases hkk with ⟨e0, e1, e2, e3, en⟩ | ⟨e0, e1, e2, e3, en⟩ | ⟨e0, e1, e2, e3, en⟩ | ⟨e0, e1, e2, e3, en⟩ | ⟨e0, e1, e2, e3, _⟩
  · rw [decide_eq_true e0] at x0
    have y0 : (s0.toList != [119, 101, 101, 107, 100, 97, 121]) = false := by rw [bne, x0]; rfl
    rw [decide_eq_false e1] at x1
    have y1 : (s0.toList != [100, 97, 121]) = true := by rw [bne, x1]; rfl
    rw [decide_eq_false e2] at x2
    have y2 : (s0.toList != [110, 116, 104]) = true := by rw [bne, x2]; rfl
    rw [decide_eq_false e3] at x3
    have y3 : (s0.toList != [100, 97, 116, 101, 115]) = true := by rw [bne, x3]; rfl
    have d1 : ((n : Int) == 2) = false := by rw [beq_eq_false_iff_ne]; omega
    have d2 : ((n : Int) != 2) = true := by rw [bne, d1]; rfl
    clear e0 e1 e2 e3 en
    go_enter Tryz.func15, Tryz.ntmps15
    go_wp2_with fail
    refine (HC.out _).mono ?_
    rintro e w1 ⟨A, cp, rfl, hb1, hrd⟩
    obtain ⟨ad, rfl, hcell⟩ := hrd (by rw [hlenL]; omega)
    have hb2 := (HB0.out.trans (hb1.mono HB0.out.size)).alloc (HB0.out.trans (hb1.mono HB0.out.size)).size (.cells #[.int .i64 2, .int .i64 3, .int .i64 4, .int .i64 3] 3)
    have hb3 := hb2.alloc hb2.size (.cells #[.string { data := #[119, 101, 101, 107, 100, 97, 121] }, .string { data := #[100, 97, 121] }, .string { data := #[110, 116, 104] }, .string { data := #[100, 97, 116, 101, 115] }] 9)
    have hz1 := (hb1.block w.heap.size hlt0).trans G0.out
    have hlz1 := (Array.getElem?_eq_some_iff.1 hz1).1
    have hz2 := (Below.heap_alloc w1 (.cells #[.int .i64 2, .int .i64 3, .int .i64 4, .int .i64 3] 3) w.heap.size hlz1).trans hz1
    have hgz := (Below.heap_alloc (w1.alloc (.cells #[.int .i64 2, .int .i64 3, .int .i64 4, .int .i64 3] 3)) (.cells #[.string { data := #[119, 101, 101, 107, 100, 97, 121] }, .string { data := #[100, 97, 121] }, .string { data := #[110, 116, 104] }, .string { data := #[100, 97, 116, 101, 115] }] 9) w.heap.size (Array.getElem?_eq_some_iff.1 hz2).1).trans hz2
    have hgw := (Below.heap_alloc (w1.alloc (.cells #[.int .i64 2, .int .i64 3, .int .i64 4, .int .i64 3] 3)) (.cells #[.string { data := #[119, 101, 101, 107, 100, 97, 121] }, .string { data := #[100, 97, 121] }, .string { data := #[110, 116, 104] }, .string { data := #[100, 97, 116, 101, 115] }] 9) w1.heap.size (by simp)).trans (heap_alloc_new w1 (.cells #[.int .i64 2, .int .i64 3, .int .i64 4, .int .i64 3] 3))
    have hgs := heap_new2 w1 (.cells #[.int .i64 2, .int .i64 3, .int .i64 4, .int .i64 3] 3) (.cells #[.string { data := #[119, 101, 101, 107, 100, 97, 121] }, .string { data := #[100, 97, 121] }, .string { data := #[110, 116, 104] }, .string { data := #[100, 97, 116, 101, 115] }] 9)
    have hr3 := (hrd.alloc (.cells #[.int .i64 2, .int .i64 3, .int .i64 4, .int .i64 3] 3)).alloc (.cells #[.string { data := #[119, 101, 101, 107, 100, 97, 121] }, .string { data := #[100, 97, 121] }, .string { data := #[110, 116, 104] }, .string { data := #[100, 97, 116, 101, 115] }] 9)
    obtain ⟨w3, hw3⟩ : ∃ w3, (w1.alloc (.cells #[.int .i64 2, .int .i64 3, .int .i64 4, .int .i64 3] 3)).alloc (.cells #[.string { data := #[119, 101, 101, 107, 100, 97, 121] }, .string { data := #[100, 97, 121] }, .string { data := #[110, 116, 104] }, .string { data := #[100, 97, 116, 101, 115] }] 9) = w3 := ⟨_, rfl⟩
    rw [hw3] at hb3 hgz hgw hgs hr3
    have hlz := (Array.getElem?_eq_some_iff.1 hgz).1
    have hlw := (Array.getElem?_eq_some_iff.1 hgw).1
    have hls := (Array.getElem?_eq_some_iff.1 hgs).1
    have hp3 : ∀ W, Below w3.heap.size w3 W → W.cell? ad = some (.string s0) := fun W hb => by
      obtain ⟨ad', e, hc'⟩ := (hr3.below hb) (by rw [hlenL]; omega)
      injection e with e
      subst e
      exact HCL.out W _ hc'
    have HSS := Lib.hid (show ∀ W, Below w3.heap.size w3 W → W.heap[w.heap.size]? = some (.cells #[.int .i64 0, .int .i64 0, .int .i64 0, .int .i64 0, .int .i64 0, .int .i64 0, .int .i64 0, .int .i64 0, .int .i64 0, .int .i64 0] 25 (0, 0)) ∧ W.cell? ⟨w1.heap.size, 0, none⟩ = some (.int .i64 2) ∧ W.cell? ⟨w1.heap.size, 1, none⟩ = some (.int .i64 3) ∧ W.cell? ⟨w1.heap.size, 2, none⟩ = some (.int .i64 4) ∧ W.cell? ⟨w1.heap.size, 3, none⟩ = some (.int .i64 3) ∧ W.cell? ⟨w1.heap.size + 1, 0, none⟩ = some (.string { data := #[119, 101, 101, 107, 100, 97, 121] }) ∧ W.cell? ⟨w1.heap.size + 1, 1, none⟩ = some (.string { data := #[100, 97, 121] }) ∧ W.cell? ⟨w1.heap.size + 1, 2, none⟩ = some (.string { data := #[110, 116, 104] }) ∧ W.cell? ⟨w1.heap.size + 1, 3, none⟩ = some (.string { data := #[100, 97, 116, 101, 115] }) ∧ W.cell? ad = some (.string s0) from fun W hb => ⟨(hb.block _ hlz).trans hgz, cell_blk ((hb.block _ hlw).trans hgw) 0 rfl, cell_blk ((hb.block _ hlw).trans hgw) 1 rfl, cell_blk ((hb.block _ hlw).trans hgw) 2 rfl, cell_blk ((hb.block _ hlw).trans hgw) 3 rfl, cell_blk ((hb.block _ hls).trans hgs) 0 rfl, cell_blk ((hb.block _ hls).trans hgs) 1 rfl, cell_blk ((hb.block _ hls).trans hgs) 2 rfl, cell_blk ((hb.block _ hls).trans hgs) 3 rfl, hp3 W hb⟩)
    have HB3 := Lib.hid hb3
    have HW3 := Lib.hid hw3
    clear hb1 hb2 hb3 hz1 hlz1 hz2 hgz hgw hgs hr3 hw3 hlz hlw hls hp3 hrd hcell HC
    go_wp2_with fail
    rw [HW3.out]
    refine wp_loop_rounds 5 ?_
    rw [rounds_succ]
    obtain ⟨z, a0, a1, a2, a3, b0, b1, b2, b3, d0⟩ := HSS.out w3 (Below.refl w3.heap.size w3)
    go_wp2_with fail
    go_quiet (fail)
    obtain ⟨u0, hwu0⟩ : ∃ x, w3.drewN nq = x := ⟨_, rfl⟩
    rw [hwu0]
    have HBu0 := Lib.hid (show Below w3.heap.size w3 u0 by rw [← hwu0]; exact (Below.refl w3.heap.size w3).trans ((below_drewN w3 nq).mono (Below.refl w3.heap.size w3).size))
    clear z a0 a1 a2 a3 b0 b1 b2 b3 d0
    clear hwu0
    go_wp2_with fail
    rw [rounds_succ]
    obtain ⟨z, a0, a1, a2, a3, b0, b1, b2, b3, d0⟩ := HSS.out u0 HBu0.out
    go_wp2_with fail
    go_quiet (fail)
    obtain ⟨u1, hwu1⟩ : ∃ x, u0.drewN nq = x := ⟨_, rfl⟩
    rw [hwu1]
    have HBu1 := Lib.hid (show Below w3.heap.size w3 u1 by rw [← hwu1]; exact HBu0.out.trans ((below_drewN u0 nq).mono HBu0.out.size))
    clear z a0 a1 a2 a3 b0 b1 b2 b3 d0
    clear hwu1
    go_wp2_with fail
    rw [rounds_succ]
    obtain ⟨z, a0, a1, a2, a3, b0, b1, b2, b3, d0⟩ := HSS.out u1 HBu1.out
    go_wp2_with fail
    go_quiet (fail)
    obtain ⟨u2, hwu2⟩ : ∃ x, u1.drewN nq = x := ⟨_, rfl⟩
    rw [hwu2]
    have HBu2 := Lib.hid (show Below w3.heap.size w3 u2 by rw [← hwu2]; exact HBu1.out.trans ((below_drewN u1 nq).mono HBu1.out.size))
    clear z a0 a1 a2 a3 b0 b1 b2 b3 d0
    clear hwu2
    go_wp2_with fail
    rw [rounds_succ]
    obtain ⟨z, a0, a1, a2, a3, b0, b1, b2, b3, d0⟩ := HSS.out u2 HBu2.out
    go_wp2_with fail
    go_quiet (fail)
    obtain ⟨u3, hwu3⟩ : ∃ x, u2.drewN nq = x := ⟨_, rfl⟩
    rw [hwu3]
    have HBu3 := Lib.hid (show Below w3.heap.size w3 u3 by rw [← hwu3]; exact HBu2.out.trans ((below_drewN u2 nq).mono HBu2.out.size))
    clear z a0 a1 a2 a3 b0 b1 b2 b3 d0
    clear hwu3
    go_wp2_with fail
    rw [rounds_succ]
    have hz := (HSS.out u3 HBu3.out).1
    have HZ := Lib.hid hz
    have r0 := cell_blk hz 0 (v := .int .i64 0) rfl
    have f0 := frz_blk hz 0
    have r1 := cell_blk hz 1 (v := .int .i64 0) rfl
    have f1 := frz_blk hz 1
    have r2 := cell_blk hz 2 (v := .int .i64 0) rfl
    have f2 := frz_blk hz 2
    have r3 := cell_blk hz 3 (v := .int .i64 0) rfl
    have f3 := frz_blk hz 3
    have r4 := cell_blk hz 4 (v := .int .i64 0) rfl
    have f4 := frz_blk hz 4
    have r5 := cell_blk hz 5 (v := .int .i64 0) rfl
    have f5 := frz_blk hz 5
    have r6 := cell_blk hz 6 (v := .int .i64 0) rfl
    have f6 := frz_blk hz 6
    have r7 := cell_blk hz 7 (v := .int .i64 0) rfl
    have f7 := frz_blk hz 7
    have r8 := cell_blk hz 8 (v := .int .i64 0) rfl
    have f8 := frz_blk hz 8
    have r9 := cell_blk hz 9 (v := .int .i64 0) rfl
    have f9 := frz_blk hz 9
    clear hz
    go_wp2_with fail
    refine bodyPost_ret (results_cell2 rfl _ _ w.heap.size _ _ (0, 0) _ rfl (set10 HZ.out) Tryz.underlying25 rfl (by kernel_rfl)) rfl ?_
    exact ⟨rfl, below_set10 (HB3.out.trans (HBu3.out.mono HB3.out.size)) (Nat.le_refl _)⟩
  · rw [decide_eq_false e0] at x0
    have y0 : (s0.toList != [119, 101, 101, 107, 100, 97, 121]) = true := by rw [bne, x0]; rfl
    rw [decide_eq_true e1] at x1
    have y1 : (s0.toList != [100, 97, 121]) = false := by rw [bne, x1]; rfl
    rw [decide_eq_false e2] at x2
    have y2 : (s0.toList != [110, 116, 104]) = true := by rw [bne, x2]; rfl
    rw [decide_eq_false e3] at x3
    have y3 : (s0.toList != [100, 97, 116, 101, 115]) = true := by rw [bne, x3]; rfl
    have d1 : ((n : Int) == 3) = false := by rw [beq_eq_false_iff_ne]; omega
    have d2 : ((n : Int) != 3) = true := by rw [bne, d1]; rfl
    clear e0 e1 e2 e3 en
    go_enter Tryz.func15, Tryz.ntmps15
    go_wp2_with fail
    refine (HC.out _).mono ?_
    rintro e w1 ⟨A, cp, rfl, hb1, hrd⟩
    obtain ⟨ad, rfl, hcell⟩ := hrd (by rw [hlenL]; omega)
    have hb2 := (HB0.out.trans (hb1.mono HB0.out.size)).alloc (HB0.out.trans (hb1.mono HB0.out.size)).size (.cells #[.int .i64 2, .int .i64 3, .int .i64 4, .int .i64 3] 3)
    have hb3 := hb2.alloc hb2.size (.cells #[.string { data := #[119, 101, 101, 107, 100, 97, 121] }, .string { data := #[100, 97, 121] }, .string { data := #[110, 116, 104] }, .string { data := #[100, 97, 116, 101, 115] }] 9)
    have hz1 := (hb1.block w.heap.size hlt0).trans G0.out
    have hlz1 := (Array.getElem?_eq_some_iff.1 hz1).1
    have hz2 := (Below.heap_alloc w1 (.cells #[.int .i64 2, .int .i64 3, .int .i64 4, .int .i64 3] 3) w.heap.size hlz1).trans hz1
    have hgz := (Below.heap_alloc (w1.alloc (.cells #[.int .i64 2, .int .i64 3, .int .i64 4, .int .i64 3] 3)) (.cells #[.string { data := #[119, 101, 101, 107, 100, 97, 121] }, .string { data := #[100, 97, 121] }, .string { data := #[110, 116, 104] }, .string { data := #[100, 97, 116, 101, 115] }] 9) w.heap.size (Array.getElem?_eq_some_iff.1 hz2).1).trans hz2
    have hgw := (Below.heap_alloc (w1.alloc (.cells #[.int .i64 2, .int .i64 3, .int .i64 4, .int .i64 3] 3)) (.cells #[.string { data := #[119, 101, 101, 107, 100, 97, 121] }, .string { data := #[100, 97, 121] }, .string { data := #[110, 116, 104] }, .string { data := #[100, 97, 116, 101, 115] }] 9) w1.heap.size (by simp)).trans (heap_alloc_new w1 (.cells #[.int .i64 2, .int .i64 3, .int .i64 4, .int .i64 3] 3))
    have hgs := heap_new2 w1 (.cells #[.int .i64 2, .int .i64 3, .int .i64 4, .int .i64 3] 3) (.cells #[.string { data := #[119, 101, 101, 107, 100, 97, 121] }, .string { data := #[100, 97, 121] }, .string { data := #[110, 116, 104] }, .string { data := #[100, 97, 116, 101, 115] }] 9)
    have hr3 := (hrd.alloc (.cells #[.int .i64 2, .int .i64 3, .int .i64 4, .int .i64 3] 3)).alloc (.cells #[.string { data := #[119, 101, 101, 107, 100, 97, 121] }, .string { data := #[100, 97, 121] }, .string { data := #[110, 116, 104] }, .string { data := #[100, 97, 116, 101, 115] }] 9)
    obtain ⟨w3, hw3⟩ : ∃ w3, (w1.alloc (.cells #[.int .i64 2, .int .i64 3, .int .i64 4, .int .i64 3] 3)).alloc (.cells #[.string { data := #[119, 101, 101, 107, 100, 97, 121] }, .string { data := #[100, 97, 121] }, .string { data := #[110, 116, 104] }, .string { data := #[100, 97, 116, 101, 115] }] 9) = w3 := ⟨_, rfl⟩
    rw [hw3] at hb3 hgz hgw hgs hr3
    have hlz := (Array.getElem?_eq_some_iff.1 hgz).1
    have hlw := (Array.getElem?_eq_some_iff.1 hgw).1
    have hls := (Array.getElem?_eq_some_iff.1 hgs).1
    have hp3 : ∀ W, Below w3.heap.size w3 W → W.cell? ad = some (.string s0) := fun W hb => by
      obtain ⟨ad', e, hc'⟩ := (hr3.below hb) (by rw [hlenL]; omega)
      injection e with e
      subst e
      exact HCL.out W _ hc'
    have HSS := Lib.hid (show ∀ W, Below w3.heap.size w3 W → W.heap[w.heap.size]? = some (.cells #[.int .i64 0, .int .i64 0, .int .i64 0, .int .i64 0, .int .i64 0, .int .i64 0, .int .i64 0, .int .i64 0, .int .i64 0, .int .i64 0] 25 (0, 0)) ∧ W.cell? ⟨w1.heap.size, 0, none⟩ = some (.int .i64 2) ∧ W.cell? ⟨w1.heap.size, 1, none⟩ = some (.int .i64 3) ∧ W.cell? ⟨w1.heap.size, 2, none⟩ = some (.int .i64 4) ∧ W.cell? ⟨w1.heap.size, 3, none⟩ = some (.int .i64 3) ∧ W.cell? ⟨w1.heap.size + 1, 0, none⟩ = some (.string { data := #[119, 101, 101, 107, 100, 97, 121] }) ∧ W.cell? ⟨w1.heap.size + 1, 1, none⟩ = some (.string { data := #[100, 97, 121] }) ∧ W.cell? ⟨w1.heap.size + 1, 2, none⟩ = some (.string { data := #[110, 116, 104] }) ∧ W.cell? ⟨w1.heap.size + 1, 3, none⟩ = some (.string { data := #[100, 97, 116, 101, 115] }) ∧ W.cell? ad = some (.string s0) from fun W hb => ⟨(hb.block _ hlz).trans hgz, cell_blk ((hb.block _ hlw).trans hgw) 0 rfl, cell_blk ((hb.block _ hlw).trans hgw) 1 rfl, cell_blk ((hb.block _ hlw).trans hgw) 2 rfl, cell_blk ((hb.block _ hlw).trans hgw) 3 rfl, cell_blk ((hb.block _ hls).trans hgs) 0 rfl, cell_blk ((hb.block _ hls).trans hgs) 1 rfl, cell_blk ((hb.block _ hls).trans hgs) 2 rfl, cell_blk ((hb.block _ hls).trans hgs) 3 rfl, hp3 W hb⟩)
    have HB3 := Lib.hid hb3
    have HW3 := Lib.hid hw3
    clear hb1 hb2 hb3 hz1 hlz1 hz2 hgz hgw hgs hr3 hw3 hlz hlw hls hp3 hrd hcell HC
    go_wp2_with fail
    rw [HW3.out]
    refine wp_loop_rounds 5 ?_
    rw [rounds_succ]
    obtain ⟨z, a0, a1, a2, a3, b0, b1, b2, b3, d0⟩ := HSS.out w3 (Below.refl w3.heap.size w3)
    go_wp2_with fail
    go_quiet (fail)
    obtain ⟨u0, hwu0⟩ : ∃ x, w3.drewN nq = x := ⟨_, rfl⟩
    rw [hwu0]
    have HBu0 := Lib.hid (show Below w3.heap.size w3 u0 by rw [← hwu0]; exact (Below.refl w3.heap.size w3).trans ((below_drewN w3 nq).mono (Below.refl w3.heap.size w3).size))
    clear z a0 a1 a2 a3 b0 b1 b2 b3 d0
    clear hwu0
    go_wp2_with fail
    rw [rounds_succ]
    obtain ⟨z, a0, a1, a2, a3, b0, b1, b2, b3, d0⟩ := HSS.out u0 HBu0.out
    go_wp2_with fail
    go_quiet (fail)
    obtain ⟨u1, hwu1⟩ : ∃ x, u0.drewN nq = x := ⟨_, rfl⟩
    rw [hwu1]
    have HBu1 := Lib.hid (show Below w3.heap.size w3 u1 by rw [← hwu1]; exact HBu0.out.trans ((below_drewN u0 nq).mono HBu0.out.size))
    clear z a0 a1 a2 a3 b0 b1 b2 b3 d0
    clear hwu1
    go_wp2_with fail
    rw [rounds_succ]
    obtain ⟨z, a0, a1, a2, a3, b0, b1, b2, b3, d0⟩ := HSS.out u1 HBu1.out
    go_wp2_with fail
    go_quiet (fail)
    obtain ⟨u2, hwu2⟩ : ∃ x, u1.drewN nq = x := ⟨_, rfl⟩
    rw [hwu2]
    have HBu2 := Lib.hid (show Below w3.heap.size w3 u2 by rw [← hwu2]; exact HBu1.out.trans ((below_drewN u1 nq).mono HBu1.out.size))
    clear z a0 a1 a2 a3 b0 b1 b2 b3 d0
    clear hwu2
    go_wp2_with fail
    rw [rounds_succ]
    obtain ⟨z, a0, a1, a2, a3, b0, b1, b2, b3, d0⟩ := HSS.out u2 HBu2.out
    go_wp2_with fail
    go_quiet (fail)
    obtain ⟨u3, hwu3⟩ : ∃ x, u2.drewN nq = x := ⟨_, rfl⟩
    rw [hwu3]
    have HBu3 := Lib.hid (show Below w3.heap.size w3 u3 by rw [← hwu3]; exact HBu2.out.trans ((below_drewN u2 nq).mono HBu2.out.size))
    clear z a0 a1 a2 a3 b0 b1 b2 b3 d0
    clear hwu3
    go_wp2_with fail
    rw [rounds_succ]
    have hz := (HSS.out u3 HBu3.out).1
    have HZ := Lib.hid hz
    have r0 := cell_blk hz 0 (v := .int .i64 0) rfl
    have f0 := frz_blk hz 0
    have r1 := cell_blk hz 1 (v := .int .i64 0) rfl
    have f1 := frz_blk hz 1
    have r2 := cell_blk hz 2 (v := .int .i64 0) rfl
    have f2 := frz_blk hz 2
    have r3 := cell_blk hz 3 (v := .int .i64 0) rfl
    have f3 := frz_blk hz 3
    have r4 := cell_blk hz 4 (v := .int .i64 0) rfl
    have f4 := frz_blk hz 4
    have r5 := cell_blk hz 5 (v := .int .i64 0) rfl
    have f5 := frz_blk hz 5
    have r6 := cell_blk hz 6 (v := .int .i64 0) rfl
    have f6 := frz_blk hz 6
    have r7 := cell_blk hz 7 (v := .int .i64 0) rfl
    have f7 := frz_blk hz 7
    have r8 := cell_blk hz 8 (v := .int .i64 0) rfl
    have f8 := frz_blk hz 8
    have r9 := cell_blk hz 9 (v := .int .i64 0) rfl
    have f9 := frz_blk hz 9
    clear hz
    go_wp2_with fail
    refine bodyPost_ret (results_cell2 rfl _ _ w.heap.size _ _ (0, 0) _ rfl (set10 HZ.out) Tryz.underlying25 rfl (by kernel_rfl)) rfl ?_
    exact ⟨rfl, below_set10 (HB3.out.trans (HBu3.out.mono HB3.out.size)) (Nat.le_refl _)⟩
  · rw [decide_eq_false e0] at x0
    have y0 : (s0.toList != [119, 101, 101, 107, 100, 97, 121]) = true := by rw [bne, x0]; rfl
    rw [decide_eq_false e1] at x1
    have y1 : (s0.toList != [100, 97, 121]) = true := by rw [bne, x1]; rfl
    rw [decide_eq_true e2] at x2
    have y2 : (s0.toList != [110, 116, 104]) = false := by rw [bne, x2]; rfl
    rw [decide_eq_false e3] at x3
    have y3 : (s0.toList != [100, 97, 116, 101, 115]) = true := by rw [bne, x3]; rfl
    have d1 : ((n : Int) == 4) = false := by rw [beq_eq_false_iff_ne]; omega
    have d2 : ((n : Int) != 4) = true := by rw [bne, d1]; rfl
    clear e0 e1 e2 e3 en
    go_enter Tryz.func15, Tryz.ntmps15
    go_wp2_with fail
    refine (HC.out _).mono ?_
    rintro e w1 ⟨A, cp, rfl, hb1, hrd⟩
    obtain ⟨ad, rfl, hcell⟩ := hrd (by rw [hlenL]; omega)
    have hb2 := (HB0.out.trans (hb1.mono HB0.out.size)).alloc (HB0.out.trans (hb1.mono HB0.out.size)).size (.cells #[.int .i64 2, .int .i64 3, .int .i64 4, .int .i64 3] 3)
    have hb3 := hb2.alloc hb2.size (.cells #[.string { data := #[119, 101, 101, 107, 100, 97, 121] }, .string { data := #[100, 97, 121] }, .string { data := #[110, 116, 104] }, .string { data := #[100, 97, 116, 101, 115] }] 9)
    have hz1 := (hb1.block w.heap.size hlt0).trans G0.out
    have hlz1 := (Array.getElem?_eq_some_iff.1 hz1).1
    have hz2 := (Below.heap_alloc w1 (.cells #[.int .i64 2, .int .i64 3, .int .i64 4, .int .i64 3] 3) w.heap.size hlz1).trans hz1
    have hgz := (Below.heap_alloc (w1.alloc (.cells #[.int .i64 2, .int .i64 3, .int .i64 4, .int .i64 3] 3)) (.cells #[.string { data := #[119, 101, 101, 107, 100, 97, 121] }, .string { data := #[100, 97, 121] }, .string { data := #[110, 116, 104] }, .string { data := #[100, 97, 116, 101, 115] }] 9) w.heap.size (Array.getElem?_eq_some_iff.1 hz2).1).trans hz2
    have hgw := (Below.heap_alloc (w1.alloc (.cells #[.int .i64 2, .int .i64 3, .int .i64 4, .int .i64 3] 3)) (.cells #[.string { data := #[119, 101, 101, 107, 100, 97, 121] }, .string { data := #[100, 97, 121] }, .string { data := #[110, 116, 104] }, .string { data := #[100, 97, 116, 101, 115] }] 9) w1.heap.size (by simp)).trans (heap_alloc_new w1 (.cells #[.int .i64 2, .int .i64 3, .int .i64 4, .int .i64 3] 3))
    have hgs := heap_new2 w1 (.cells #[.int .i64 2, .int .i64 3, .int .i64 4, .int .i64 3] 3) (.cells #[.string { data := #[119, 101, 101, 107, 100, 97, 121] }, .string { data := #[100, 97, 121] }, .string { data := #[110, 116, 104] }, .string { data := #[100, 97, 116, 101, 115] }] 9)
    have hr3 := (hrd.alloc (.cells #[.int .i64 2, .int .i64 3, .int .i64 4, .int .i64 3] 3)).alloc (.cells #[.string { data := #[119, 101, 101, 107, 100, 97, 121] }, .string { data := #[100, 97, 121] }, .string { data := #[110, 116, 104] }, .string { data := #[100, 97, 116, 101, 115] }] 9)
    obtain ⟨w3, hw3⟩ : ∃ w3, (w1.alloc (.cells #[.int .i64 2, .int .i64 3, .int .i64 4, .int .i64 3] 3)).alloc (.cells #[.string { data := #[119, 101, 101, 107, 100, 97, 121] }, .string { data := #[100, 97, 121] }, .string { data := #[110, 116, 104] }, .string { data := #[100, 97, 116, 101, 115] }] 9) = w3 := ⟨_, rfl⟩
    rw [hw3] at hb3 hgz hgw hgs hr3
    have hlz := (Array.getElem?_eq_some_iff.1 hgz).1
    have hlw := (Array.getElem?_eq_some_iff.1 hgw).1
    have hls := (Array.getElem?_eq_some_iff.1 hgs).1
    have hp3 : ∀ W, Below w3.heap.size w3 W → W.cell? ad = some (.string s0) := fun W hb => by
      obtain ⟨ad', e, hc'⟩ := (hr3.below hb) (by rw [hlenL]; omega)
      injection e with e
      subst e
      exact HCL.out W _ hc'
    have HSS := Lib.hid (show ∀ W, Below w3.heap.size w3 W → W.heap[w.heap.size]? = some (.cells #[.int .i64 0, .int .i64 0, .int .i64 0, .int .i64 0, .int .i64 0, .int .i64 0, .int .i64 0, .int .i64 0, .int .i64 0, .int .i64 0] 25 (0, 0)) ∧ W.cell? ⟨w1.heap.size, 0, none⟩ = some (.int .i64 2) ∧ W.cell? ⟨w1.heap.size, 1, none⟩ = some (.int .i64 3) ∧ W.cell? ⟨w1.heap.size, 2, none⟩ = some (.int .i64 4) ∧ W.cell? ⟨w1.heap.size, 3, none⟩ = some (.int .i64 3) ∧ W.cell? ⟨w1.heap.size + 1, 0, none⟩ = some (.string { data := #[119, 101, 101, 107, 100, 97, 121] }) ∧ W.cell? ⟨w1.heap.size + 1, 1, none⟩ = some (.string { data := #[100, 97, 121] }) ∧ W.cell? ⟨w1.heap.size + 1, 2, none⟩ = some (.string { data := #[110, 116, 104] }) ∧ W.cell? ⟨w1.heap.size + 1, 3, none⟩ = some (.string { data := #[100, 97, 116, 101, 115] }) ∧ W.cell? ad = some (.string s0) from fun W hb => ⟨(hb.block _ hlz).trans hgz, cell_blk ((hb.block _ hlw).trans hgw) 0 rfl, cell_blk ((hb.block _ hlw).trans hgw) 1 rfl, cell_blk ((hb.block _ hlw).trans hgw) 2 rfl, cell_blk ((hb.block _ hlw).trans hgw) 3 rfl, cell_blk ((hb.block _ hls).trans hgs) 0 rfl, cell_blk ((hb.block _ hls).trans hgs) 1 rfl, cell_blk ((hb.block _ hls).trans hgs) 2 rfl, cell_blk ((hb.block _ hls).trans hgs) 3 rfl, hp3 W hb⟩)
    have HB3 := Lib.hid hb3
    have HW3 := Lib.hid hw3
    clear hb1 hb2 hb3 hz1 hlz1 hz2 hgz hgw hgs hr3 hw3 hlz hlw hls hp3 hrd hcell HC
    go_wp2_with fail
    rw [HW3.out]
    refine wp_loop_rounds 5 ?_
    rw [rounds_succ]
    obtain ⟨z, a0, a1, a2, a3, b0, b1, b2, b3, d0⟩ := HSS.out w3 (Below.refl w3.heap.size w3)
    go_wp2_with fail
    go_quiet (fail)
    obtain ⟨u0, hwu0⟩ : ∃ x, w3.drewN nq = x := ⟨_, rfl⟩
    rw [hwu0]
    have HBu0 := Lib.hid (show Below w3.heap.size w3 u0 by rw [← hwu0]; exact (Below.refl w3.heap.size w3).trans ((below_drewN w3 nq).mono (Below.refl w3.heap.size w3).size))
    clear z a0 a1 a2 a3 b0 b1 b2 b3 d0
    clear hwu0
    go_wp2_with fail
    rw [rounds_succ]
    obtain ⟨z, a0, a1, a2, a3, b0, b1, b2, b3, d0⟩ := HSS.out u0 HBu0.out
    go_wp2_with fail
    go_quiet (fail)
    obtain ⟨u1, hwu1⟩ : ∃ x, u0.drewN nq = x := ⟨_, rfl⟩
    rw [hwu1]
    have HBu1 := Lib.hid (show Below w3.heap.size w3 u1 by rw [← hwu1]; exact HBu0.out.trans ((below_drewN u0 nq).mono HBu0.out.size))
    clear z a0 a1 a2 a3 b0 b1 b2 b3 d0
    clear hwu1
    go_wp2_with fail
    rw [rounds_succ]
    obtain ⟨z, a0, a1, a2, a3, b0, b1, b2, b3, d0⟩ := HSS.out u1 HBu1.out
    go_wp2_with fail
    go_quiet (fail)
    obtain ⟨u2, hwu2⟩ : ∃ x, u1.drewN nq = x := ⟨_, rfl⟩
    rw [hwu2]
    have HBu2 := Lib.hid (show Below w3.heap.size w3 u2 by rw [← hwu2]; exact HBu1.out.trans ((below_drewN u1 nq).mono HBu1.out.size))
    clear z a0 a1 a2 a3 b0 b1 b2 b3 d0
    clear hwu2
    go_wp2_with fail
    rw [rounds_succ]
    obtain ⟨z, a0, a1, a2, a3, b0, b1, b2, b3, d0⟩ := HSS.out u2 HBu2.out
    go_wp2_with fail
    go_quiet (fail)
    obtain ⟨u3, hwu3⟩ : ∃ x, u2.drewN nq = x := ⟨_, rfl⟩
    rw [hwu3]
    have HBu3 := Lib.hid (show Below w3.heap.size w3 u3 by rw [← hwu3]; exact HBu2.out.trans ((below_drewN u2 nq).mono HBu2.out.size))
    clear z a0 a1 a2 a3 b0 b1 b2 b3 d0
    clear hwu3
    go_wp2_with fail
    rw [rounds_succ]
    have hz := (HSS.out u3 HBu3.out).1
    have HZ := Lib.hid hz
    have r0 := cell_blk hz 0 (v := .int .i64 0) rfl
    have f0 := frz_blk hz 0
    have r1 := cell_blk hz 1 (v := .int .i64 0) rfl
    have f1 := frz_blk hz 1
    have r2 := cell_blk hz 2 (v := .int .i64 0) rfl
    have f2 := frz_blk hz 2
    have r3 := cell_blk hz 3 (v := .int .i64 0) rfl
    have f3 := frz_blk hz 3
    have r4 := cell_blk hz 4 (v := .int .i64 0) rfl
    have f4 := frz_blk hz 4
    have r5 := cell_blk hz 5 (v := .int .i64 0) rfl
    have f5 := frz_blk hz 5
    have r6 := cell_blk hz 6 (v := .int .i64 0) rfl
    have f6 := frz_blk hz 6
    have r7 := cell_blk hz 7 (v := .int .i64 0) rfl
    have f7 := frz_blk hz 7
    have r8 := cell_blk hz 8 (v := .int .i64 0) rfl
    have f8 := frz_blk hz 8
    have r9 := cell_blk hz 9 (v := .int .i64 0) rfl
    have f9 := frz_blk hz 9
    clear hz
    go_wp2_with fail
    refine bodyPost_ret (results_cell2 rfl _ _ w.heap.size _ _ (0, 0) _ rfl (set10 HZ.out) Tryz.underlying25 rfl (by kernel_rfl)) rfl ?_
    exact ⟨rfl, below_set10 (HB3.out.trans (HBu3.out.mono HB3.out.size)) (Nat.le_refl _)⟩
  · rw [decide_eq_false e0] at x0
    have y0 : (s0.toList != [119, 101, 101, 107, 100, 97, 121]) = true := by rw [bne, x0]; rfl
    rw [decide_eq_false e1] at x1
    have y1 : (s0.toList != [100, 97, 121]) = true := by rw [bne, x1]; rfl
    rw [decide_eq_false e2] at x2
    have y2 : (s0.toList != [110, 116, 104]) = true := by rw [bne, x2]; rfl
    rw [decide_eq_true e3] at x3
    have y3 : (s0.toList != [100, 97, 116, 101, 115]) = false := by rw [bne, x3]; rfl
    have d1 : ((n : Int) == 3) = false := by rw [beq_eq_false_iff_ne]; omega
    have d2 : ((n : Int) != 3) = true := by rw [bne, d1]; rfl
    clear e0 e1 e2 e3 en
    go_enter Tryz.func15, Tryz.ntmps15
    go_wp2_with fail
    refine (HC.out _).mono ?_
    rintro e w1 ⟨A, cp, rfl, hb1, hrd⟩
    obtain ⟨ad, rfl, hcell⟩ := hrd (by rw [hlenL]; omega)
    have hb2 := (HB0.out.trans (hb1.mono HB0.out.size)).alloc (HB0.out.trans (hb1.mono HB0.out.size)).size (.cells #[.int .i64 2, .int .i64 3, .int .i64 4, .int .i64 3] 3)
    have hb3 := hb2.alloc hb2.size (.cells #[.string { data := #[119, 101, 101, 107, 100, 97, 121] }, .string { data := #[100, 97, 121] }, .string { data := #[110, 116, 104] }, .string { data := #[100, 97, 116, 101, 115] }] 9)
    have hz1 := (hb1.block w.heap.size hlt0).trans G0.out
    have hlz1 := (Array.getElem?_eq_some_iff.1 hz1).1
    have hz2 := (Below.heap_alloc w1 (.cells #[.int .i64 2, .int .i64 3, .int .i64 4, .int .i64 3] 3) w.heap.size hlz1).trans hz1
    have hgz := (Below.heap_alloc (w1.alloc (.cells #[.int .i64 2, .int .i64 3, .int .i64 4, .int .i64 3] 3)) (.cells #[.string { data := #[119, 101, 101, 107, 100, 97, 121] }, .string { data := #[100, 97, 121] }, .string { data := #[110, 116, 104] }, .string { data := #[100, 97, 116, 101, 115] }] 9) w.heap.size (Array.getElem?_eq_some_iff.1 hz2).1).trans hz2
    have hgw := (Below.heap_alloc (w1.alloc (.cells #[.int .i64 2, .int .i64 3, .int .i64 4, .int .i64 3] 3)) (.cells #[.string { data := #[119, 101, 101, 107, 100, 97, 121] }, .string { data := #[100, 97, 121] }, .string { data := #[110, 116, 104] }, .string { data := #[100, 97, 116, 101, 115] }] 9) w1.heap.size (by simp)).trans (heap_alloc_new w1 (.cells #[.int .i64 2, .int .i64 3, .int .i64 4, .int .i64 3] 3))
    have hgs := heap_new2 w1 (.cells #[.int .i64 2, .int .i64 3, .int .i64 4, .int .i64 3] 3) (.cells #[.string { data := #[119, 101, 101, 107, 100, 97, 121] }, .string { data := #[100, 97, 121] }, .string { data := #[110, 116, 104] }, .string { data := #[100, 97, 116, 101, 115] }] 9)
    have hr3 := (hrd.alloc (.cells #[.int .i64 2, .int .i64 3, .int .i64 4, .int .i64 3] 3)).alloc (.cells #[.string { data := #[119, 101, 101, 107, 100, 97, 121] }, .string { data := #[100, 97, 121] }, .string { data := #[110, 116, 104] }, .string { data := #[100, 97, 116, 101, 115] }] 9)
    obtain ⟨w3, hw3⟩ : ∃ w3, (w1.alloc (.cells #[.int .i64 2, .int .i64 3, .int .i64 4, .int .i64 3] 3)).alloc (.cells #[.string { data := #[119, 101, 101, 107, 100, 97, 121] }, .string { data := #[100, 97, 121] }, .string { data := #[110, 116, 104] }, .string { data := #[100, 97, 116, 101, 115] }] 9) = w3 := ⟨_, rfl⟩
    rw [hw3] at hb3 hgz hgw hgs hr3
    have hlz := (Array.getElem?_eq_some_iff.1 hgz).1
    have hlw := (Array.getElem?_eq_some_iff.1 hgw).1
    have hls := (Array.getElem?_eq_some_iff.1 hgs).1
    have hp3 : ∀ W, Below w3.heap.size w3 W → W.cell? ad = some (.string s0) := fun W hb => by
      obtain ⟨ad', e, hc'⟩ := (hr3.below hb) (by rw [hlenL]; omega)
      injection e with e
      subst e
      exact HCL.out W _ hc'
    have HSS := Lib.hid (show ∀ W, Below w3.heap.size w3 W → W.heap[w.heap.size]? = some (.cells #[.int .i64 0, .int .i64 0, .int .i64 0, .int .i64 0, .int .i64 0, .int .i64 0, .int .i64 0, .int .i64 0, .int .i64 0, .int .i64 0] 25 (0, 0)) ∧ W.cell? ⟨w1.heap.size, 0, none⟩ = some (.int .i64 2) ∧ W.cell? ⟨w1.heap.size, 1, none⟩ = some (.int .i64 3) ∧ W.cell? ⟨w1.heap.size, 2, none⟩ = some (.int .i64 4) ∧ W.cell? ⟨w1.heap.size, 3, none⟩ = some (.int .i64 3) ∧ W.cell? ⟨w1.heap.size + 1, 0, none⟩ = some (.string { data := #[119, 101, 101, 107, 100, 97, 121] }) ∧ W.cell? ⟨w1.heap.size + 1, 1, none⟩ = some (.string { data := #[100, 97, 121] }) ∧ W.cell? ⟨w1.heap.size + 1, 2, none⟩ = some (.string { data := #[110, 116, 104] }) ∧ W.cell? ⟨w1.heap.size + 1, 3, none⟩ = some (.string { data := #[100, 97, 116, 101, 115] }) ∧ W.cell? ad = some (.string s0) from fun W hb => ⟨(hb.block _ hlz).trans hgz, cell_blk ((hb.block _ hlw).trans hgw) 0 rfl, cell_blk ((hb.block _ hlw).trans hgw) 1 rfl, cell_blk ((hb.block _ hlw).trans hgw) 2 rfl, cell_blk ((hb.block _ hlw).trans hgw) 3 rfl, cell_blk ((hb.block _ hls).trans hgs) 0 rfl, cell_blk ((hb.block _ hls).trans hgs) 1 rfl, cell_blk ((hb.block _ hls).trans hgs) 2 rfl, cell_blk ((hb.block _ hls).trans hgs) 3 rfl, hp3 W hb⟩)
    have HB3 := Lib.hid hb3
    have HW3 := Lib.hid hw3
    clear hb1 hb2 hb3 hz1 hlz1 hz2 hgz hgw hgs hr3 hw3 hlz hlw hls hp3 hrd hcell HC
    go_wp2_with fail
    rw [HW3.out]
    refine wp_loop_rounds 5 ?_
    rw [rounds_succ]
    obtain ⟨z, a0, a1, a2, a3, b0, b1, b2, b3, d0⟩ := HSS.out w3 (Below.refl w3.heap.size w3)
    go_wp2_with fail
    go_quiet (fail)
    obtain ⟨u0, hwu0⟩ : ∃ x, w3.drewN nq = x := ⟨_, rfl⟩
    rw [hwu0]
    have HBu0 := Lib.hid (show Below w3.heap.size w3 u0 by rw [← hwu0]; exact (Below.refl w3.heap.size w3).trans ((below_drewN w3 nq).mono (Below.refl w3.heap.size w3).size))
    clear z a0 a1 a2 a3 b0 b1 b2 b3 d0
    clear hwu0
    go_wp2_with fail
    rw [rounds_succ]
    obtain ⟨z, a0, a1, a2, a3, b0, b1, b2, b3, d0⟩ := HSS.out u0 HBu0.out
    go_wp2_with fail
    go_quiet (fail)
    obtain ⟨u1, hwu1⟩ : ∃ x, u0.drewN nq = x := ⟨_, rfl⟩
    rw [hwu1]
    have HBu1 := Lib.hid (show Below w3.heap.size w3 u1 by rw [← hwu1]; exact HBu0.out.trans ((below_drewN u0 nq).mono HBu0.out.size))
    clear z a0 a1 a2 a3 b0 b1 b2 b3 d0
    clear hwu1
    go_wp2_with fail
    rw [rounds_succ]
    obtain ⟨z, a0, a1, a2, a3, b0, b1, b2, b3, d0⟩ := HSS.out u1 HBu1.out
    go_wp2_with fail
    go_quiet (fail)
    obtain ⟨u2, hwu2⟩ : ∃ x, u1.drewN nq = x := ⟨_, rfl⟩
    rw [hwu2]
    have HBu2 := Lib.hid (show Below w3.heap.size w3 u2 by rw [← hwu2]; exact HBu1.out.trans ((below_drewN u1 nq).mono HBu1.out.size))
    clear z a0 a1 a2 a3 b0 b1 b2 b3 d0
    clear hwu2
    go_wp2_with fail
    rw [rounds_succ]
    obtain ⟨z, a0, a1, a2, a3, b0, b1, b2, b3, d0⟩ := HSS.out u2 HBu2.out
    go_wp2_with fail
    go_quiet (fail)
    obtain ⟨u3, hwu3⟩ : ∃ x, u2.drewN nq = x := ⟨_, rfl⟩
    rw [hwu3]
    have HBu3 := Lib.hid (show Below w3.heap.size w3 u3 by rw [← hwu3]; exact HBu2.out.trans ((below_drewN u2 nq).mono HBu2.out.size))
    clear z a0 a1 a2 a3 b0 b1 b2 b3 d0
    clear hwu3
    go_wp2_with fail
    rw [rounds_succ]
    have hz := (HSS.out u3 HBu3.out).1
    have HZ := Lib.hid hz
    have r0 := cell_blk hz 0 (v := .int .i64 0) rfl
    have f0 := frz_blk hz 0
    have r1 := cell_blk hz 1 (v := .int .i64 0) rfl
    have f1 := frz_blk hz 1
    have r2 := cell_blk hz 2 (v := .int .i64 0) rfl
    have f2 := frz_blk hz 2
    have r3 := cell_blk hz 3 (v := .int .i64 0) rfl
    have f3 := frz_blk hz 3
    have r4 := cell_blk hz 4 (v := .int .i64 0) rfl
    have f4 := frz_blk hz 4
    have r5 := cell_blk hz 5 (v := .int .i64 0) rfl
    have f5 := frz_blk hz 5
    have r6 := cell_blk hz 6 (v := .int .i64 0) rfl
    have f6 := frz_blk hz 6
    have r7 := cell_blk hz 7 (v := .int .i64 0) rfl
    have f7 := frz_blk hz 7
    have r8 := cell_blk hz 8 (v := .int .i64 0) rfl
    have f8 := frz_blk hz 8
    have r9 := cell_blk hz 9 (v := .int .i64 0) rfl
    have f9 := frz_blk hz 9
    clear hz
    go_wp2_with fail
    refine bodyPost_ret (results_cell2 rfl _ _ w.heap.size _ _ (0, 0) _ rfl (set10 HZ.out) Tryz.underlying25 rfl (by kernel_rfl)) rfl ?_
    exact ⟨rfl, below_set10 (HB3.out.trans (HBu3.out.mono HB3.out.size)) (Nat.le_refl _)⟩
  · rw [decide_eq_false e0] at x0
    have y0 : (s0.toList != [119, 101, 101, 107, 100, 97, 121]) = true := by rw [bne, x0]; rfl
    rw [decide_eq_false e1] at x1
    have y1 : (s0.toList != [100, 97, 121]) = true := by rw [bne, x1]; rfl
    rw [decide_eq_false e2] at x2
    have y2 : (s0.toList != [110, 116, 104]) = true := by rw [bne, x2]; rfl
    rw [decide_eq_false e3] at x3
    have y3 : (s0.toList != [100, 97, 116, 101, 115]) = true := by rw [bne, x3]; rfl
    clear e0 e1 e2 e3
    go_enter Tryz.func15, Tryz.ntmps15
    go_wp2_with fail
    refine (HC.out _).mono ?_
    rintro e w1 ⟨A, cp, rfl, hb1, hrd⟩
    obtain ⟨ad, rfl, hcell⟩ := hrd (by rw [hlenL]; omega)
    have hb2 := (HB0.out.trans (hb1.mono HB0.out.size)).alloc (HB0.out.trans (hb1.mono HB0.out.size)).size (.cells #[.int .i64 2, .int .i64 3, .int .i64 4, .int .i64 3] 3)
    have hb3 := hb2.alloc hb2.size (.cells #[.string { data := #[119, 101, 101, 107, 100, 97, 121] }, .string { data := #[100, 97, 121] }, .string { data := #[110, 116, 104] }, .string { data := #[100, 97, 116, 101, 115] }] 9)
    have hz1 := (hb1.block w.heap.size hlt0).trans G0.out
    have hlz1 := (Array.getElem?_eq_some_iff.1 hz1).1
    have hz2 := (Below.heap_alloc w1 (.cells #[.int .i64 2, .int .i64 3, .int .i64 4, .int .i64 3] 3) w.heap.size hlz1).trans hz1
    have hgz := (Below.heap_alloc (w1.alloc (.cells #[.int .i64 2, .int .i64 3, .int .i64 4, .int .i64 3] 3)) (.cells #[.string { data := #[119, 101, 101, 107, 100, 97, 121] }, .string { data := #[100, 97, 121] }, .string { data := #[110, 116, 104] }, .string { data := #[100, 97, 116, 101, 115] }] 9) w.heap.size (Array.getElem?_eq_some_iff.1 hz2).1).trans hz2
    have hgw := (Below.heap_alloc (w1.alloc (.cells #[.int .i64 2, .int .i64 3, .int .i64 4, .int .i64 3] 3)) (.cells #[.string { data := #[119, 101, 101, 107, 100, 97, 121] }, .string { data := #[100, 97, 121] }, .string { data := #[110, 116, 104] }, .string { data := #[100, 97, 116, 101, 115] }] 9) w1.heap.size (by simp)).trans (heap_alloc_new w1 (.cells #[.int .i64 2, .int .i64 3, .int .i64 4, .int .i64 3] 3))
    have hgs := heap_new2 w1 (.cells #[.int .i64 2, .int .i64 3, .int .i64 4, .int .i64 3] 3) (.cells #[.string { data := #[119, 101, 101, 107, 100, 97, 121] }, .string { data := #[100, 97, 121] }, .string { data := #[110, 116, 104] }, .string { data := #[100, 97, 116, 101, 115] }] 9)
    have hr3 := (hrd.alloc (.cells #[.int .i64 2, .int .i64 3, .int .i64 4, .int .i64 3] 3)).alloc (.cells #[.string { data := #[119, 101, 101, 107, 100, 97, 121] }, .string { data := #[100, 97, 121] }, .string { data := #[110, 116, 104] }, .string { data := #[100, 97, 116, 101, 115] }] 9)
    obtain ⟨w3, hw3⟩ : ∃ w3, (w1.alloc (.cells #[.int .i64 2, .int .i64 3, .int .i64 4, .int .i64 3] 3)).alloc (.cells #[.string { data := #[119, 101, 101, 107, 100, 97, 121] }, .string { data := #[100, 97, 121] }, .string { data := #[110, 116, 104] }, .string { data := #[100, 97, 116, 101, 115] }] 9) = w3 := ⟨_, rfl⟩
    rw [hw3] at hb3 hgz hgw hgs hr3
    have hlz := (Array.getElem?_eq_some_iff.1 hgz).1
    have hlw := (Array.getElem?_eq_some_iff.1 hgw).1
    have hls := (Array.getElem?_eq_some_iff.1 hgs).1
    have hp3 : ∀ W, Below w3.heap.size w3 W → W.cell? ad = some (.string s0) := fun W hb => by
      obtain ⟨ad', e, hc'⟩ := (hr3.below hb) (by rw [hlenL]; omega)
      injection e with e
      subst e
      exact HCL.out W _ hc'
    have HSS := Lib.hid (show ∀ W, Below w3.heap.size w3 W → W.heap[w.heap.size]? = some (.cells #[.int .i64 0, .int .i64 0, .int .i64 0, .int .i64 0, .int .i64 0, .int .i64 0, .int .i64 0, .int .i64 0, .int .i64 0, .int .i64 0] 25 (0, 0)) ∧ W.cell? ⟨w1.heap.size, 0, none⟩ = some (.int .i64 2) ∧ W.cell? ⟨w1.heap.size, 1, none⟩ = some (.int .i64 3) ∧ W.cell? ⟨w1.heap.size, 2, none⟩ = some (.int .i64 4) ∧ W.cell? ⟨w1.heap.size, 3, none⟩ = some (.int .i64 3) ∧ W.cell? ⟨w1.heap.size + 1, 0, none⟩ = some (.string { data := #[119, 101, 101, 107, 100, 97, 121] }) ∧ W.cell? ⟨w1.heap.size + 1, 1, none⟩ = some (.string { data := #[100, 97, 121] }) ∧ W.cell? ⟨w1.heap.size + 1, 2, none⟩ = some (.string { data := #[110, 116, 104] }) ∧ W.cell? ⟨w1.heap.size + 1, 3, none⟩ = some (.string { data := #[100, 97, 116, 101, 115] }) ∧ W.cell? ad = some (.string s0) from fun W hb => ⟨(hb.block _ hlz).trans hgz, cell_blk ((hb.block _ hlw).trans hgw) 0 rfl, cell_blk ((hb.block _ hlw).trans hgw) 1 rfl, cell_blk ((hb.block _ hlw).trans hgw) 2 rfl, cell_blk ((hb.block _ hlw).trans hgw) 3 rfl, cell_blk ((hb.block _ hls).trans hgs) 0 rfl, cell_blk ((hb.block _ hls).trans hgs) 1 rfl, cell_blk ((hb.block _ hls).trans hgs) 2 rfl, cell_blk ((hb.block _ hls).trans hgs) 3 rfl, hp3 W hb⟩)
    have HB3 := Lib.hid hb3
    have HW3 := Lib.hid hw3
    clear hb1 hb2 hb3 hz1 hlz1 hz2 hgz hgw hgs hr3 hw3 hlz hlw hls hp3 hrd hcell HC
    go_wp2_with fail
    rw [HW3.out]
    refine wp_loop_rounds 5 ?_
    rw [rounds_succ]
    obtain ⟨z, a0, a1, a2, a3, b0, b1, b2, b3, d0⟩ := HSS.out w3 (Below.refl w3.heap.size w3)
    go_wp2_with fail
    go_quiet (fail)
    obtain ⟨u0, hwu0⟩ : ∃ x, w3.drewN nq = x := ⟨_, rfl⟩
    rw [hwu0]
    have HBu0 := Lib.hid (show Below w3.heap.size w3 u0 by rw [← hwu0]; exact (Below.refl w3.heap.size w3).trans ((below_drewN w3 nq).mono (Below.refl w3.heap.size w3).size))
    clear z a0 a1 a2 a3 b0 b1 b2 b3 d0
    clear hwu0
    go_wp2_with fail
    rw [rounds_succ]
    obtain ⟨z, a0, a1, a2, a3, b0, b1, b2, b3, d0⟩ := HSS.out u0 HBu0.out
    go_wp2_with fail
    go_quiet (fail)
    obtain ⟨u1, hwu1⟩ : ∃ x, u0.drewN nq = x := ⟨_, rfl⟩
    rw [hwu1]
    have HBu1 := Lib.hid (show Below w3.heap.size w3 u1 by rw [← hwu1]; exact HBu0.out.trans ((below_drewN u0 nq).mono HBu0.out.size))
    clear z a0 a1 a2 a3 b0 b1 b2 b3 d0
    clear hwu1
    go_wp2_with fail
    rw [rounds_succ]
    obtain ⟨z, a0, a1, a2, a3, b0, b1, b2, b3, d0⟩ := HSS.out u1 HBu1.out
    go_wp2_with fail
    go_quiet (fail)
    obtain ⟨u2, hwu2⟩ : ∃ x, u1.drewN nq = x := ⟨_, rfl⟩
    rw [hwu2]
    have HBu2 := Lib.hid (show Below w3.heap.size w3 u2 by rw [← hwu2]; exact HBu1.out.trans ((below_drewN u1 nq).mono HBu1.out.size))
    clear z a0 a1 a2 a3 b0 b1 b2 b3 d0
    clear hwu2
    go_wp2_with fail
    rw [rounds_succ]
    obtain ⟨z, a0, a1, a2, a3, b0, b1, b2, b3, d0⟩ := HSS.out u2 HBu2.out
    go_wp2_with fail
    go_quiet (fail)
    obtain ⟨u3, hwu3⟩ : ∃ x, u2.drewN nq = x := ⟨_, rfl⟩
    rw [hwu3]
    have HBu3 := Lib.hid (show Below w3.heap.size w3 u3 by rw [← hwu3]; exact HBu2.out.trans ((below_drewN u2 nq).mono HBu2.out.size))
    clear z a0 a1 a2 a3 b0 b1 b2 b3 d0
    clear hwu3
    go_wp2_with fail
    rw [rounds_succ]
    have hz := (HSS.out u3 HBu3.out).1
    have HZ := Lib.hid hz
    have r0 := cell_blk hz 0 (v := .int .i64 0) rfl
    have f0 := frz_blk hz 0
    have r1 := cell_blk hz 1 (v := .int .i64 0) rfl
    have f1 := frz_blk hz 1
    have r2 := cell_blk hz 2 (v := .int .i64 0) rfl
    have f2 := frz_blk hz 2
    have r3 := cell_blk hz 3 (v := .int .i64 0) rfl
    have f3 := frz_blk hz 3
    have r4 := cell_blk hz 4 (v := .int .i64 0) rfl
    have f4 := frz_blk hz 4
    have r5 := cell_blk hz 5 (v := .int .i64 0) rfl
    have f5 := frz_blk hz 5
    have r6 := cell_blk hz 6 (v := .int .i64 0) rfl
    have f6 := frz_blk hz 6
    have r7 := cell_blk hz 7 (v := .int .i64 0) rfl
    have f7 := frz_blk hz 7
    have r8 := cell_blk hz 8 (v := .int .i64 0) rfl
    have f8 := frz_blk hz 8
    have r9 := cell_blk hz 9 (v := .int .i64 0) rfl
    have f9 := frz_blk hz 9
    clear hz
    go_wp2_with fail
    refine bodyPost_ret (results_cell2 rfl _ _ w.heap.size _ _ (0, 0) _ rfl (set10 HZ.out) Tryz.underlying25 rfl (by kernel_rfl)) rfl ?_
    exact ⟨rfl, below_set10 (HB3.out.trans (HBu3.out.mono HB3.out.size)) (Nat.le_refl _)⟩
theorem refParse_any (s : List UInt8) (w : World) (hs : s.length ≤ 1000) :
    Calls Tryz.prog 15 #[.string (str s)] w fun e w' => e = .returned (ans2 (pr s)) ∧ Below w.heap.size w w' := by
  rcases kd_ex s with ⟨a, h⟩ | ⟨a, b, h⟩ | ⟨a, b, c, h⟩ | ⟨a, b, h⟩ | ⟨h0, h1, h2, h3⟩
  · exact refParse0 s a w hs h
  · exact refParse1 s a b w hs h
  · exact refParse2 s a b c w hs h
  · exact refParse3 s a b w hs h
  · have hn := pr_no h0 h1 h2 h3
    obtain ⟨p0, ps, hc⟩ := cutAt_pos 32 s
    rw [hc] at h0 h1 h2 h3
    refine refParseN s p0 ps w hs hc hn ?_
    have g : ∀ x : List UInt8, p0 = x → (p0 :: ps).head? = some x := fun x e => by rw [e]; rfl
    by_cases e0 : p0 = wW
    · exact .inl ⟨e0, fun h => h0 ⟨g _ e0, h⟩⟩
    · by_cases e1 : p0 = dW
      · exact .inr (.inl ⟨e1, fun h => h1 ⟨g _ e1, h⟩⟩)
      · by_cases e2 : p0 = nW
        · exact .inr (.inr (.inl ⟨e2, fun h => h2 ⟨g _ e2, h⟩⟩))
        · by_cases e3 : p0 = tW
          · exact .inr (.inr (.inr (.inl ⟨e3, fun h => h3 ⟨g _ e3, h⟩⟩)))
          · exact .inr (.inr (.inr (.inr ⟨e0, e1, e2, e3⟩)))
end Go.Proofs.YtjfmnflcgenpaaaGreatDoor

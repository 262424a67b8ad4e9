/- Contract: the document's Parse of Weekday. -/
import Derived.Test.YtjfmnflcgenpaaaGreatDoorRlW
import Derived.Test.YtjfmnflcgenpaaaGreatDoorRlQ
namespace Go.Proofs.YtjfmnflcgenpaaaGreatDoor
open Go.RowKit

set_option maxRecDepth 100000 in
set_option maxHeartbeats 8000000 in
theorem refParse0 (s a : List UInt8) (w : World) (hs : s.length ≤ 1000) (hc : cutAt 32 s = [wW, a]) :
    Calls Tryz.prog 15 #[.string (str s)] w fun e w' => e = .returned (ans2 (pr s)) ∧ Below w.heap.size w w' := by
  rw [pr_k0 hc]
  have HC := Lib.hid (fun W => cut_r s 32 32 W rfl hs)
  rw [hc] at HC
  have hlen : [wW, a].length = 2 := rfl
  have hlenL : (strL [wW, a]).length = 2 := rfl
  rw [hlen] at HC
  have hla : a.length ≤ 1000 := Nat.le_trans (cutAt_le 32 s a (by rw [hc]; simp)) hs
  have HNa := Lib.hid (fun W => number_r a W hla)
  have HCL : Hid (∀ (W : World) (ad : Addr), (∀ j v, (strL [wW, a])[j]? = some v → W.cell? (ad.add j) = some v) → W.cell? ad = some (.string (str wW)) ∧ W.cell? { block := ad.block, off := ad.off + 1 } = some (.string (str a))) := fun W ad h => ⟨h 0 _ rfl, h 1 _ rfl⟩
  have x0 : ((str wW).toList == [119, 101, 101, 107, 100, 97, 121]) = true := (str_eq_lit _ _).trans (by decide)
  have y0 : ((str wW).toList != [119, 101, 101, 107, 100, 97, 121]) = false := by rw [bne, x0]; rfl
  have x1 : ((str wW).toList == [100, 97, 121]) = false := (str_eq_lit _ _).trans (by decide)
  have y1 : ((str wW).toList != [100, 97, 121]) = true := by rw [bne, x1]; rfl
  have x2 : ((str wW).toList == [110, 116, 104]) = false := (str_eq_lit _ _).trans (by decide)
  have y2 : ((str wW).toList != [110, 116, 104]) = true := by rw [bne, x2]; rfl
  have x3 : ((str wW).toList == [100, 97, 116, 101, 115]) = false := (str_eq_lit _ _).trans (by decide)
  have y3 : ((str wW).toList != [100, 97, 116, 101, 115]) = true := by rw [bne, x3]; rfl
  have hb0 := (Below.refl w.heap.size w).alloc (Nat.le_refl _) (.cells #[.int .i64 0, .int .i64 0, .int .i64 0, .int .i64 0, .int .i64 0, .int .i64 0, .int .i64 0, .int .i64 0, .int .i64 0, .int .i64 0] 25)
  have G0 := Lib.hid (heap_alloc_new w (.cells #[.int .i64 0, .int .i64 0, .int .i64 0, .int .i64 0, .int .i64 0, .int .i64 0, .int .i64 0, .int .i64 0, .int .i64 0, .int .i64 0] 25))
  have HB0 := Lib.hid hb0
  have hlt0 : w.heap.size < (w.alloc (.cells #[.int .i64 0, .int .i64 0, .int .i64 0, .int .i64 0, .int .i64 0, .int .i64 0, .int .i64 0, .int .i64 0, .int .i64 0, .int .i64 0] 25)).heap.size := by simp
  have HMY := Lib.hid (fun W => refMay_any ⟨0, 0, 0, numV a, 0, 0, 0, 0, 0, 0⟩ W)
  clear hb0 hc hlen hla hs
  generalize numV a = xa at *
  generalize numB a = qa at *
  generalize str wW = s0 at *
  generalize str a = s1 at *
  generalize str s = S at *
  cases qa
  · rw [may_or_no false _ (.inl rfl), ans2_none]
    clear HMY
    go_enter Tryz.func15, Tryz.ntmps15
    go_wp2_with fail
    refine (HC.out _).mono ?_
    rintro e w1 ⟨A, cp, rfl, hb1, hrd⟩
    obtain ⟨ad, rfl, hcell⟩ := hrd (by rw [hlenL]; omega)
    have hb2 := (HB0.out.trans (hb1.mono HB0.out.size)).alloc (HB0.out.trans (hb1.mono HB0.out.size)).size (.cells #[.int .i64 2, .int .i64 3, .int .i64 4, .int .i64 3] 3)
    have hb3 := hb2.alloc hb2.size (.cells #[.string { data := #[119, 101, 101, 107, 100, 97, 121] }, .string { data := #[100, 97, 121] }, .string { data := #[110, 116, 104] }, .string { data := #[100, 97, 116, 101, 115] }] 9)
    have hz1 := (hb1.block w.heap.size hlt0).trans G0.out
    have hlz1 := (Array.getElem?_eq_some_iff.1 hz1).1
    have hz2 := (Below.heap_alloc w1 (.cells #[.int .i64 2, .int .i64 3, .int .i64 4, .int .i64 3] 3) w.heap.size hlz1).trans hz1
    have hgz := (Below.heap_alloc (w1.alloc (.cells #[.int .i64 2, .int .i64 3, .int .i64 4, .int .i64 3] 3)) (.cells #[.string { data := #[119, 101, 101, 107, 100, 97, 121] }, .string { data := #[100, 97, 121] }, .string { data := #[110, 116, 104] }, .string { data := #[100, 97, 116, 101, 115] }] 9) w.heap.size (Array.getElem?_eq_some_iff.1 hz2).1).trans hz2
    have hgw := (Below.heap_alloc (w1.alloc (.cells #[.int .i64 2, .int .i64 3, .int .i64 4, .int .i64 3] 3)) (.cells #[.string { data := #[119, 101, 101, 107, 100, 97, 121] }, .string { data := #[100, 97, 121] }, .string { data := #[110, 116, 104] }, .string { data := #[100, 97, 116, 101, 115] }] 9) w1.heap.size (by simp)).trans (heap_alloc_new w1 (.cells #[.int .i64 2, .int .i64 3, .int .i64 4, .int .i64 3] 3))
    have hgs := heap_new2 w1 (.cells #[.int .i64 2, .int .i64 3, .int .i64 4, .int .i64 3] 3) (.cells #[.string { data := #[119, 101, 101, 107, 100, 97, 121] }, .string { data := #[100, 97, 121] }, .string { data := #[110, 116, 104] }, .string { data := #[100, 97, 116, 101, 115] }] 9)
    have hr3 := (hrd.alloc (.cells #[.int .i64 2, .int .i64 3, .int .i64 4, .int .i64 3] 3)).alloc (.cells #[.string { data := #[119, 101, 101, 107, 100, 97, 121] }, .string { data := #[100, 97, 121] }, .string { data := #[110, 116, 104] }, .string { data := #[100, 97, 116, 101, 115] }] 9)
    obtain ⟨w3, hw3⟩ : ∃ w3, (w1.alloc (.cells #[.int .i64 2, .int .i64 3, .int .i64 4, .int .i64 3] 3)).alloc (.cells #[.string { data := #[119, 101, 101, 107, 100, 97, 121] }, .string { data := #[100, 97, 121] }, .string { data := #[110, 116, 104] }, .string { data := #[100, 97, 116, 101, 115] }] 9) = w3 := ⟨_, rfl⟩
    rw [hw3] at hb3 hgz hgw hgs hr3
    have hlz := (Array.getElem?_eq_some_iff.1 hgz).1
    have hlw := (Array.getElem?_eq_some_iff.1 hgw).1
    have hls := (Array.getElem?_eq_some_iff.1 hgs).1
    have hp3 : ∀ W, Below w3.heap.size w3 W → W.cell? ad = some (.string s0) ∧ W.cell? { block := ad.block, off := ad.off + 1 } = some (.string s1) := fun W hb => by
      obtain ⟨ad', e, hc'⟩ := (hr3.below hb) (by rw [hlenL]; omega)
      injection e with e
      subst e
      exact HCL.out W _ hc'
    have HSS := Lib.hid (show ∀ W, Below w3.heap.size w3 W → W.heap[w.heap.size]? = some (.cells #[.int .i64 0, .int .i64 0, .int .i64 0, .int .i64 0, .int .i64 0, .int .i64 0, .int .i64 0, .int .i64 0, .int .i64 0, .int .i64 0] 25 (0, 0)) ∧ W.cell? ⟨w1.heap.size, 0, none⟩ = some (.int .i64 2) ∧ W.cell? ⟨w1.heap.size, 1, none⟩ = some (.int .i64 3) ∧ W.cell? ⟨w1.heap.size, 2, none⟩ = some (.int .i64 4) ∧ W.cell? ⟨w1.heap.size, 3, none⟩ = some (.int .i64 3) ∧ W.cell? ⟨w1.heap.size + 1, 0, none⟩ = some (.string { data := #[119, 101, 101, 107, 100, 97, 121] }) ∧ W.cell? ⟨w1.heap.size + 1, 1, none⟩ = some (.string { data := #[100, 97, 121] }) ∧ W.cell? ⟨w1.heap.size + 1, 2, none⟩ = some (.string { data := #[110, 116, 104] }) ∧ W.cell? ⟨w1.heap.size + 1, 3, none⟩ = some (.string { data := #[100, 97, 116, 101, 115] }) ∧ W.cell? ad = some (.string s0) ∧ W.cell? { block := ad.block, off := ad.off + 1 } = some (.string s1) from fun W hb => ⟨(hb.block _ hlz).trans hgz, cell_blk ((hb.block _ hlw).trans hgw) 0 rfl, cell_blk ((hb.block _ hlw).trans hgw) 1 rfl, cell_blk ((hb.block _ hlw).trans hgw) 2 rfl, cell_blk ((hb.block _ hlw).trans hgw) 3 rfl, cell_blk ((hb.block _ hls).trans hgs) 0 rfl, cell_blk ((hb.block _ hls).trans hgs) 1 rfl, cell_blk ((hb.block _ hls).trans hgs) 2 rfl, cell_blk ((hb.block _ hls).trans hgs) 3 rfl, hp3 W hb⟩)
    have HB3 := Lib.hid hb3
    have HW3 := Lib.hid hw3
    clear hb1 hb2 hb3 hz1 hlz1 hz2 hgz hgw hgs hr3 hw3 hlz hlw hls hp3 hrd hcell HC
    go_wp2_with fail
    rw [HW3.out]
    refine wp_loop_rounds 1 ?_
    rw [rounds_succ]
    obtain ⟨z, a0, a1, a2, a3, b0, b1, b2, b3, d0, d1⟩ := HSS.out w3 (Below.refl w3.heap.size w3)
    go_wp2_with fail
    go_quiet (fail)
    obtain ⟨w4, hww4⟩ : ∃ x, w3.drewN nq = x := ⟨_, rfl⟩
    rw [hww4]
    have HBw4 := Lib.hid (show Below w3.heap.size w3 w4 by rw [← hww4]; exact (Below.refl w3.heap.size w3).trans ((below_drewN w3 nq).mono (Below.refl w3.heap.size w3).size))
    clear z a0 a1 a2 a3 b0 b1 b2 b3 d0 d1
    clear hww4
    have HG4 := Lib.hid HBw4.out.size
    have hb5 := HBw4.out.alloc HBw4.out.size (.cells #[.int .i64 0, .int .i64 0, .int .i64 0, .int .i64 0, .int .i64 0, .int .i64 0, .int .i64 0, .int .i64 0, .int .i64 0, .int .i64 0] 25)
    have hb6 := hb5.alloc hb5.size (.cells #[.int .i64 0, .int .i64 0, .int .i64 0] 71)
    have hr6 := (Below.heap_alloc (w4.alloc (.cells #[.int .i64 0, .int .i64 0, .int .i64 0, .int .i64 0, .int .i64 0, .int .i64 0, .int .i64 0, .int .i64 0, .int .i64 0, .int .i64 0] 25)) (.cells #[.int .i64 0, .int .i64 0, .int .i64 0] 71) w4.heap.size (by simp)).trans (heap_alloc_new w4 (.cells #[.int .i64 0, .int .i64 0, .int .i64 0, .int .i64 0, .int .i64 0, .int .i64 0, .int .i64 0, .int .i64 0, .int .i64 0, .int .i64 0] 25))
    have hv6 := heap_new2 w4 (.cells #[.int .i64 0, .int .i64 0, .int .i64 0, .int .i64 0, .int .i64 0, .int .i64 0, .int .i64 0, .int .i64 0, .int .i64 0, .int .i64 0] 25) (.cells #[.int .i64 0, .int .i64 0, .int .i64 0] 71)
    obtain ⟨w6, hw6⟩ : ∃ x, (w4.alloc (.cells #[.int .i64 0, .int .i64 0, .int .i64 0, .int .i64 0, .int .i64 0, .int .i64 0, .int .i64 0, .int .i64 0, .int .i64 0, .int .i64 0] 25)).alloc (.cells #[.int .i64 0, .int .i64 0, .int .i64 0] 71) = x := ⟨_, rfl⟩
    rw [hw6] at hb6 hr6 hv6
    have HB6 := Lib.hid hb6
    have HR6 := Lib.hid hr6
    have HV6 := Lib.hid hv6
    have HW6 := Lib.hid hw6
    have hgt := HBw4.out.size
    clear hb5 hb6 hr6 hv6 hw6
    go_wp2_with fail
    rw [HW6.out]
    refine wp_loop_rounds 2 ?_
    rw [rounds_succ]
    obtain ⟨z, a0, a1, a2, a3, b0, b1, b2, b3, d0, d1⟩ := HSS.out w6 HB6.out
    go_wp2_with fail
    refine (HNa.out _).mono ?_
    rintro e w' ⟨rfl, rfl⟩
    clear z a0 a1 a2 a3 b0 b1 b2 b3 d0 d1
    have hz := (HSS.out w6 HB6.out).1
    have HZ := Lib.hid hz
    have r0 := cell_blk hz 0 (v := .int .i64 0) rfl
    have f0 := frz_blk hz 0
    have r1 := cell_blk hz 1 (v := .int .i64 0) rfl
    have f1 := frz_blk hz 1
    have r2 := cell_blk hz 2 (v := .int .i64 0) rfl
    have f2 := frz_blk hz 2
    have r3 := cell_blk hz 3 (v := .int .i64 0) rfl
    have f3 := frz_blk hz 3
    have r4 := cell_blk hz 4 (v := .int .i64 0) rfl
    have f4 := frz_blk hz 4
    have r5 := cell_blk hz 5 (v := .int .i64 0) rfl
    have f5 := frz_blk hz 5
    have r6 := cell_blk hz 6 (v := .int .i64 0) rfl
    have f6 := frz_blk hz 6
    have r7 := cell_blk hz 7 (v := .int .i64 0) rfl
    have f7 := frz_blk hz 7
    have r8 := cell_blk hz 8 (v := .int .i64 0) rfl
    have f8 := frz_blk hz 8
    have r9 := cell_blk hz 9 (v := .int .i64 0) rfl
    have f9 := frz_blk hz 9
    clear hz
    go_wp2_with fail
    refine bodyPost_ret (results_cell2 rfl _ _ w.heap.size _ _ (0, 0) _ rfl (set10 HZ.out) Tryz.underlying25 rfl (by kernel_rfl)) rfl ?_
    exact ⟨rfl, below_set10 (HB3.out.trans (HB6.out.mono HB3.out.size)) (Nat.le_refl _)⟩
  · skip
    cases hm : mayR ⟨0, 0, 0, xa, 0, 0, 0, 0, 0, 0⟩
    · rw [may_or_no true _ (.inr hm), ans2_none]
      rw [hm] at HMY
      clear hm
      unfold rv at *
      simp only at HMY ⊢
      go_enter Tryz.func15, Tryz.ntmps15
      go_wp2_with fail
      refine (HC.out _).mono ?_
      rintro e w1 ⟨A, cp, rfl, hb1, hrd⟩
      obtain ⟨ad, rfl, hcell⟩ := hrd (by rw [hlenL]; omega)
      have hb2 := (HB0.out.trans (hb1.mono HB0.out.size)).alloc (HB0.out.trans (hb1.mono HB0.out.size)).size (.cells #[.int .i64 2, .int .i64 3, .int .i64 4, .int .i64 3] 3)
      have hb3 := hb2.alloc hb2.size (.cells #[.string { data := #[119, 101, 101, 107, 100, 97, 121] }, .string { data := #[100, 97, 121] }, .string { data := #[110, 116, 104] }, .string { data := #[100, 97, 116, 101, 115] }] 9)
      have hz1 := (hb1.block w.heap.size hlt0).trans G0.out
      have hlz1 := (Array.getElem?_eq_some_iff.1 hz1).1
      have hz2 := (Below.heap_alloc w1 (.cells #[.int .i64 2, .int .i64 3, .int .i64 4, .int .i64 3] 3) w.heap.size hlz1).trans hz1
      have hgz := (Below.heap_alloc (w1.alloc (.cells #[.int .i64 2, .int .i64 3, .int .i64 4, .int .i64 3] 3)) (.cells #[.string { data := #[119, 101, 101, 107, 100, 97, 121] }, .string { data := #[100, 97, 121] }, .string { data := #[110, 116, 104] }, .string { data := #[100, 97, 116, 101, 115] }] 9) w.heap.size (Array.getElem?_eq_some_iff.1 hz2).1).trans hz2
      have hgw := (Below.heap_alloc (w1.alloc (.cells #[.int .i64 2, .int .i64 3, .int .i64 4, .int .i64 3] 3)) (.cells #[.string { data := #[119, 101, 101, 107, 100, 97, 121] }, .string { data := #[100, 97, 121] }, .string { data := #[110, 116, 104] }, .string { data := #[100, 97, 116, 101, 115] }] 9) w1.heap.size (by simp)).trans (heap_alloc_new w1 (.cells #[.int .i64 2, .int .i64 3, .int .i64 4, .int .i64 3] 3))
      have hgs := heap_new2 w1 (.cells #[.int .i64 2, .int .i64 3, .int .i64 4, .int .i64 3] 3) (.cells #[.string { data := #[119, 101, 101, 107, 100, 97, 121] }, .string { data := #[100, 97, 121] }, .string { data := #[110, 116, 104] }, .string { data := #[100, 97, 116, 101, 115] }] 9)
      have hr3 := (hrd.alloc (.cells #[.int .i64 2, .int .i64 3, .int .i64 4, .int .i64 3] 3)).alloc (.cells #[.string { data := #[119, 101, 101, 107, 100, 97, 121] }, .string { data := #[100, 97, 121] }, .string { data := #[110, 116, 104] }, .string { data := #[100, 97, 116, 101, 115] }] 9)
      obtain ⟨w3, hw3⟩ : ∃ w3, (w1.alloc (.cells #[.int .i64 2, .int .i64 3, .int .i64 4, .int .i64 3] 3)).alloc (.cells #[.string { data := #[119, 101, 101, 107, 100, 97, 121] }, .string { data := #[100, 97, 121] }, .string { data := #[110, 116, 104] }, .string { data := #[100, 97, 116, 101, 115] }] 9) = w3 := ⟨_, rfl⟩
      rw [hw3] at hb3 hgz hgw hgs hr3
      have hlz := (Array.getElem?_eq_some_iff.1 hgz).1
      have hlw := (Array.getElem?_eq_some_iff.1 hgw).1
      have hls := (Array.getElem?_eq_some_iff.1 hgs).1
      have hp3 : ∀ W, Below w3.heap.size w3 W → W.cell? ad = some (.string s0) ∧ W.cell? { block := ad.block, off := ad.off + 1 } = some (.string s1) := fun W hb => by
        obtain ⟨ad', e, hc'⟩ := (hr3.below hb) (by rw [hlenL]; omega)
        injection e with e
        subst e
        exact HCL.out W _ hc'
      have HSS := Lib.hid (show ∀ W, Below w3.heap.size w3 W → W.heap[w.heap.size]? = some (.cells #[.int .i64 0, .int .i64 0, .int .i64 0, .int .i64 0, .int .i64 0, .int .i64 0, .int .i64 0, .int .i64 0, .int .i64 0, .int .i64 0] 25 (0, 0)) ∧ W.cell? ⟨w1.heap.size, 0, none⟩ = some (.int .i64 2) ∧ W.cell? ⟨w1.heap.size, 1, none⟩ = some (.int .i64 3) ∧ W.cell? ⟨w1.heap.size, 2, none⟩ = some (.int .i64 4) ∧ W.cell? ⟨w1.heap.size, 3, none⟩ = some (.int .i64 3) ∧ W.cell? ⟨w1.heap.size + 1, 0, none⟩ = some (.string { data := #[119, 101, 101, 107, 100, 97, 121] }) ∧ W.cell? ⟨w1.heap.size + 1, 1, none⟩ = some (.string { data := #[100, 97, 121] }) ∧ W.cell? ⟨w1.heap.size + 1, 2, none⟩ = some (.string { data := #[110, 116, 104] }) ∧ W.cell? ⟨w1.heap.size + 1, 3, none⟩ = some (.string { data := #[100, 97, 116, 101, 115] }) ∧ W.cell? ad = some (.string s0) ∧ W.cell? { block := ad.block, off := ad.off + 1 } = some (.string s1) from fun W hb => ⟨(hb.block _ hlz).trans hgz, cell_blk ((hb.block _ hlw).trans hgw) 0 rfl, cell_blk ((hb.block _ hlw).trans hgw) 1 rfl, cell_blk ((hb.block _ hlw).trans hgw) 2 rfl, cell_blk ((hb.block _ hlw).trans hgw) 3 rfl, cell_blk ((hb.block _ hls).trans hgs) 0 rfl, cell_blk ((hb.block _ hls).trans hgs) 1 rfl, cell_blk ((hb.block _ hls).trans hgs) 2 rfl, cell_blk ((hb.block _ hls).trans hgs) 3 rfl, hp3 W hb⟩)
      have HB3 := Lib.hid hb3
      have HW3 := Lib.hid hw3
      clear hb1 hb2 hb3 hz1 hlz1 hz2 hgz hgw hgs hr3 hw3 hlz hlw hls hp3 hrd hcell HC
      go_wp2_with fail
      rw [HW3.out]
      refine wp_loop_rounds 1 ?_
      rw [rounds_succ]
      obtain ⟨z, a0, a1, a2, a3, b0, b1, b2, b3, d0, d1⟩ := HSS.out w3 (Below.refl w3.heap.size w3)
      go_wp2_with fail
      go_quiet (fail)
      obtain ⟨w4, hww4⟩ : ∃ x, w3.drewN nq = x := ⟨_, rfl⟩
      rw [hww4]
      have HBw4 := Lib.hid (show Below w3.heap.size w3 w4 by rw [← hww4]; exact (Below.refl w3.heap.size w3).trans ((below_drewN w3 nq).mono (Below.refl w3.heap.size w3).size))
      clear z a0 a1 a2 a3 b0 b1 b2 b3 d0 d1
      clear hww4
      have HG4 := Lib.hid HBw4.out.size
      have hb5 := HBw4.out.alloc HBw4.out.size (.cells #[.int .i64 0, .int .i64 0, .int .i64 0, .int .i64 0, .int .i64 0, .int .i64 0, .int .i64 0, .int .i64 0, .int .i64 0, .int .i64 0] 25)
      have hb6 := hb5.alloc hb5.size (.cells #[.int .i64 0, .int .i64 0, .int .i64 0] 71)
      have hr6 := (Below.heap_alloc (w4.alloc (.cells #[.int .i64 0, .int .i64 0, .int .i64 0, .int .i64 0, .int .i64 0, .int .i64 0, .int .i64 0, .int .i64 0, .int .i64 0, .int .i64 0] 25)) (.cells #[.int .i64 0, .int .i64 0, .int .i64 0] 71) w4.heap.size (by simp)).trans (heap_alloc_new w4 (.cells #[.int .i64 0, .int .i64 0, .int .i64 0, .int .i64 0, .int .i64 0, .int .i64 0, .int .i64 0, .int .i64 0, .int .i64 0, .int .i64 0] 25))
      have hv6 := heap_new2 w4 (.cells #[.int .i64 0, .int .i64 0, .int .i64 0, .int .i64 0, .int .i64 0, .int .i64 0, .int .i64 0, .int .i64 0, .int .i64 0, .int .i64 0] 25) (.cells #[.int .i64 0, .int .i64 0, .int .i64 0] 71)
      obtain ⟨w6, hw6⟩ : ∃ x, (w4.alloc (.cells #[.int .i64 0, .int .i64 0, .int .i64 0, .int .i64 0, .int .i64 0, .int .i64 0, .int .i64 0, .int .i64 0, .int .i64 0, .int .i64 0] 25)).alloc (.cells #[.int .i64 0, .int .i64 0, .int .i64 0] 71) = x := ⟨_, rfl⟩
      rw [hw6] at hb6 hr6 hv6
      have HB6 := Lib.hid hb6
      have HR6 := Lib.hid hr6
      have HV6 := Lib.hid hv6
      have HW6 := Lib.hid hw6
      have hgt := HBw4.out.size
      clear hb5 hb6 hr6 hv6 hw6
      go_wp2_with fail
      rw [HW6.out]
      refine wp_loop_rounds 2 ?_
      rw [rounds_succ]
      obtain ⟨z, a0, a1, a2, a3, b0, b1, b2, b3, d0, d1⟩ := HSS.out w6 HB6.out
      have cv := cell_blk HV6.out 0 (v := .int .i64 0) rfl
      have fv := frz_blk HV6.out 0
      go_wp2_with fail
      refine (HNa.out _).mono ?_
      rintro e w' ⟨rfl, rfl⟩
      clear z a0 a1 a2 a3 b0 b1 b2 b3 d0 d1
      go_wp2_with fail
      have hv := heap_setCell_same w6 (w4.heap.size + 1) 0 _ _ (.int .i64 xa) HV6.out
      have hr := (heap_setCell_other w6 ⟨w4.heap.size + 1, 0, none⟩ w4.heap.size (.int .i64 xa) (by simp)).trans HR6.out
      have hb := HB6.out.setCell (p := ⟨w4.heap.size + 1, 0, none⟩) (by have := HG4.out; show w3.heap.size ≤ w4.heap.size + 1; omega) (.int .i64 xa)
      obtain ⟨v1, hnx⟩ : ∃ x, w6.setCell ⟨w4.heap.size + 1, 0, none⟩ (.int .i64 xa) = x := ⟨_, rfl⟩
      rw [hnx] at hv hr hb ⊢
      have HVv1 : Hid (v1.heap[w4.heap.size + 1]? = some (.cells #[.int .i64 xa, .int .i64 0, .int .i64 0] 71 (0, 0))) := hv
      have HRv1 := Lib.hid hr
      have HBv1 := Lib.hid hb
      clear hv hr hb hnx cv fv
      rw [rounds_succ]
      have cv0 := cell_blk HVv1.out 0 (v := .int .i64 xa) rfl
      have c0 := cell_blk HRv1.out 0 (v := .int .i64 0) rfl
      have c1 := cell_blk HRv1.out 1 (v := .int .i64 0) rfl
      have c2 := cell_blk HRv1.out 2 (v := .int .i64 0) rfl
      have c3 := cell_blk HRv1.out 3 (v := .int .i64 0) rfl
      have c4 := cell_blk HRv1.out 4 (v := .int .i64 0) rfl
      have c5 := cell_blk HRv1.out 5 (v := .int .i64 0) rfl
      have c6 := cell_blk HRv1.out 6 (v := .int .i64 0) rfl
      have c7 := cell_blk HRv1.out 7 (v := .int .i64 0) rfl
      have c8 := cell_blk HRv1.out 8 (v := .int .i64 0) rfl
      have c9 := cell_blk HRv1.out 9 (v := .int .i64 0) rfl
      have f3 := frz_blk HRv1.out 3
      go_wp2_with fail
      have hr8 : (v1.setCell ⟨w4.heap.size, 3, none⟩ (.int .i64 xa)).heap[w4.heap.size]? = _ := (heap_setCell_same v1 w4.heap.size 3 _ _ (.int .i64 xa) HRv1.out)
      have hb8 := (HBv1.out.setCell (p := ⟨w4.heap.size, 3, none⟩) HG4.out (.int .i64 xa))
      obtain ⟨w8, hw8⟩ : ∃ x, (v1.setCell ⟨w4.heap.size, 3, none⟩ (.int .i64 xa)) = x := ⟨_, rfl⟩
      rw [hw8] at hr8 hb8 ⊢
      have HR8 : Hid (w8.heap[w4.heap.size]? = some (.cells #[.int .i64 0, .int .i64 0, .int .i64 0, .int .i64 xa, .int .i64 0, .int .i64 0, .int .i64 0, .int .i64 0, .int .i64 0, .int .i64 0] 25 (0, 0))) := hr8
      have HB8 := Lib.hid hb8
      clear hr8 hb8 hw8 cv0 c0 c1 c2 c3 c4 c5 c6 c7 c8 c9 f3
      refine (HMY.out _).mono ?_
      rintro e w9 ⟨rfl, hb9⟩
      have HB9 := Lib.hid (HB8.out.trans (hb9.mono HB8.out.size))
      clear hb9
      have hz := (HSS.out w9 HB9.out).1
      have HZ := Lib.hid hz
      have r0 := cell_blk hz 0 (v := .int .i64 0) rfl
      have f0 := frz_blk hz 0
      have r1 := cell_blk hz 1 (v := .int .i64 0) rfl
      have f1 := frz_blk hz 1
      have r2 := cell_blk hz 2 (v := .int .i64 0) rfl
      have f2 := frz_blk hz 2
      have r3 := cell_blk hz 3 (v := .int .i64 0) rfl
      have f3 := frz_blk hz 3
      have r4 := cell_blk hz 4 (v := .int .i64 0) rfl
      have f4 := frz_blk hz 4
      have r5 := cell_blk hz 5 (v := .int .i64 0) rfl
      have f5 := frz_blk hz 5
      have r6 := cell_blk hz 6 (v := .int .i64 0) rfl
      have f6 := frz_blk hz 6
      have r7 := cell_blk hz 7 (v := .int .i64 0) rfl
      have f7 := frz_blk hz 7
      have r8 := cell_blk hz 8 (v := .int .i64 0) rfl
      have f8 := frz_blk hz 8
      have r9 := cell_blk hz 9 (v := .int .i64 0) rfl
      have f9 := frz_blk hz 9
      clear hz
      go_wp2_with fail
      refine bodyPost_ret (results_cell2 rfl _ _ w.heap.size _ _ (0, 0) _ rfl (set10 HZ.out) Tryz.underlying25 rfl (by kernel_rfl)) rfl ?_
      exact ⟨rfl, below_set10 (HB3.out.trans (HB9.out.mono HB3.out.size)) (Nat.le_refl _)⟩
    · rw [may_or_yes true _ rfl hm, ans2_some]
      rw [hm] at HMY
      clear hm
      unfold rv at *
      simp only at HMY ⊢
      go_enter Tryz.func15, Tryz.ntmps15
      go_wp2_with fail
      refine (HC.out _).mono ?_
      rintro e w1 ⟨A, cp, rfl, hb1, hrd⟩
      obtain ⟨ad, rfl, hcell⟩ := hrd (by rw [hlenL]; omega)
      have hb2 := (HB0.out.trans (hb1.mono HB0.out.size)).alloc (HB0.out.trans (hb1.mono HB0.out.size)).size (.cells #[.int .i64 2, .int .i64 3, .int .i64 4, .int .i64 3] 3)
      have hb3 := hb2.alloc hb2.size (.cells #[.string { data := #[119, 101, 101, 107, 100, 97, 121] }, .string { data := #[100, 97, 121] }, .string { data := #[110, 116, 104] }, .string { data := #[100, 97, 116, 101, 115] }] 9)
      have hz1 := (hb1.block w.heap.size hlt0).trans G0.out
      have hlz1 := (Array.getElem?_eq_some_iff.1 hz1).1
      have hz2 := (Below.heap_alloc w1 (.cells #[.int .i64 2, .int .i64 3, .int .i64 4, .int .i64 3] 3) w.heap.size hlz1).trans hz1
      have hgz := (Below.heap_alloc (w1.alloc (.cells #[.int .i64 2, .int .i64 3, .int .i64 4, .int .i64 3] 3)) (.cells #[.string { data := #[119, 101, 101, 107, 100, 97, 121] }, .string { data := #[100, 97, 121] }, .string { data := #[110, 116, 104] }, .string { data := #[100, 97, 116, 101, 115] }] 9) w.heap.size (Array.getElem?_eq_some_iff.1 hz2).1).trans hz2
      have hgw := (Below.heap_alloc (w1.alloc (.cells #[.int .i64 2, .int .i64 3, .int .i64 4, .int .i64 3] 3)) (.cells #[.string { data := #[119, 101, 101, 107, 100, 97, 121] }, .string { data := #[100, 97, 121] }, .string { data := #[110, 116, 104] }, .string { data := #[100, 97, 116, 101, 115] }] 9) w1.heap.size (by simp)).trans (heap_alloc_new w1 (.cells #[.int .i64 2, .int .i64 3, .int .i64 4, .int .i64 3] 3))
      have hgs := heap_new2 w1 (.cells #[.int .i64 2, .int .i64 3, .int .i64 4, .int .i64 3] 3) (.cells #[.string { data := #[119, 101, 101, 107, 100, 97, 121] }, .string { data := #[100, 97, 121] }, .string { data := #[110, 116, 104] }, .string { data := #[100, 97, 116, 101, 115] }] 9)
      have hr3 := (hrd.alloc (.cells #[.int .i64 2, .int .i64 3, .int .i64 4, .int .i64 3] 3)).alloc (.cells #[.string { data := #[119, 101, 101, 107, 100, 97, 121] }, .string { data := #[100, 97, 121] }, .string { data := #[110, 116, 104] }, .string { data := #[100, 97, 116, 101, 115] }] 9)
      obtain ⟨w3, hw3⟩ : ∃ w3, (w1.alloc (.cells #[.int .i64 2, .int .i64 3, .int .i64 4, .int .i64 3] 3)).alloc (.cells #[.string { data := #[119, 101, 101, 107, 100, 97, 121] }, .string { data := #[100, 97, 121] }, .string { data := #[110, 116, 104] }, .string { data := #[100, 97, 116, 101, 115] }] 9) = w3 := ⟨_, rfl⟩
      rw [hw3] at hb3 hgz hgw hgs hr3
      have hlz := (Array.getElem?_eq_some_iff.1 hgz).1
      have hlw := (Array.getElem?_eq_some_iff.1 hgw).1
      have hls := (Array.getElem?_eq_some_iff.1 hgs).1
      have hp3 : ∀ W, Below w3.heap.size w3 W → W.cell? ad = some (.string s0) ∧ W.cell? { block := ad.block, off := ad.off + 1 } = some (.string s1) := fun W hb => by
        obtain ⟨ad', e, hc'⟩ := (hr3.below hb) (by rw [hlenL]; omega)
        injection e with e
        subst e
        exact HCL.out W _ hc'
      have HSS := Lib.hid (show ∀ W, Below w3.heap.size w3 W → W.heap[w.heap.size]? = some (.cells #[.int .i64 0, .int .i64 0, .int .i64 0, .int .i64 0, .int .i64 0, .int .i64 0, .int .i64 0, .int .i64 0, .int .i64 0, .int .i64 0] 25 (0, 0)) ∧ W.cell? ⟨w1.heap.size, 0, none⟩ = some (.int .i64 2) ∧ W.cell? ⟨w1.heap.size, 1, none⟩ = some (.int .i64 3) ∧ W.cell? ⟨w1.heap.size, 2, none⟩ = some (.int .i64 4) ∧ W.cell? ⟨w1.heap.size, 3, none⟩ = some (.int .i64 3) ∧ W.cell? ⟨w1.heap.size + 1, 0, none⟩ = some (.string { data := #[119, 101, 101, 107, 100, 97, 121] }) ∧ W.cell? ⟨w1.heap.size + 1, 1, none⟩ = some (.string { data := #[100, 97, 121] }) ∧ W.cell? ⟨w1.heap.size + 1, 2, none⟩ = some (.string { data := #[110, 116, 104] }) ∧ W.cell? ⟨w1.heap.size + 1, 3, none⟩ = some (.string { data := #[100, 97, 116, 101, 115] }) ∧ W.cell? ad = some (.string s0) ∧ W.cell? { block := ad.block, off := ad.off + 1 } = some (.string s1) from fun W hb => ⟨(hb.block _ hlz).trans hgz, cell_blk ((hb.block _ hlw).trans hgw) 0 rfl, cell_blk ((hb.block _ hlw).trans hgw) 1 rfl, cell_blk ((hb.block _ hlw).trans hgw) 2 rfl, cell_blk ((hb.block _ hlw).trans hgw) 3 rfl, cell_blk ((hb.block _ hls).trans hgs) 0 rfl, cell_blk ((hb.block _ hls).trans hgs) 1 rfl, cell_blk ((hb.block _ hls).trans hgs) 2 rfl, cell_blk ((hb.block _ hls).trans hgs) 3 rfl, hp3 W hb⟩)
      have HB3 := Lib.hid hb3
      have HW3 := Lib.hid hw3
      clear hb1 hb2 hb3 hz1 hlz1 hz2 hgz hgw hgs hr3 hw3 hlz hlw hls hp3 hrd hcell HC
      go_wp2_with fail
      rw [HW3.out]
      refine wp_loop_rounds 1 ?_
      rw [rounds_succ]
      obtain ⟨z, a0, a1, a2, a3, b0, b1, b2, b3, d0, d1⟩ := HSS.out w3 (Below.refl w3.heap.size w3)
      go_wp2_with fail
      go_quiet (fail)
      obtain ⟨w4, hww4⟩ : ∃ x, w3.drewN nq = x := ⟨_, rfl⟩
      rw [hww4]
      have HBw4 := Lib.hid (show Below w3.heap.size w3 w4 by rw [← hww4]; exact (Below.refl w3.heap.size w3).trans ((below_drewN w3 nq).mono (Below.refl w3.heap.size w3).size))
      clear z a0 a1 a2 a3 b0 b1 b2 b3 d0 d1
      clear hww4
      have HG4 := Lib.hid HBw4.out.size
      have hb5 := HBw4.out.alloc HBw4.out.size (.cells #[.int .i64 0, .int .i64 0, .int .i64 0, .int .i64 0, .int .i64 0, .int .i64 0, .int .i64 0, .int .i64 0, .int .i64 0, .int .i64 0] 25)
      have hb6 := hb5.alloc hb5.size (.cells #[.int .i64 0, .int .i64 0, .int .i64 0] 71)
      have hr6 := (Below.heap_alloc (w4.alloc (.cells #[.int .i64 0, .int .i64 0, .int .i64 0, .int .i64 0, .int .i64 0, .int .i64 0, .int .i64 0, .int .i64 0, .int .i64 0, .int .i64 0] 25)) (.cells #[.int .i64 0, .int .i64 0, .int .i64 0] 71) w4.heap.size (by simp)).trans (heap_alloc_new w4 (.cells #[.int .i64 0, .int .i64 0, .int .i64 0, .int .i64 0, .int .i64 0, .int .i64 0, .int .i64 0, .int .i64 0, .int .i64 0, .int .i64 0] 25))
      have hv6 := heap_new2 w4 (.cells #[.int .i64 0, .int .i64 0, .int .i64 0, .int .i64 0, .int .i64 0, .int .i64 0, .int .i64 0, .int .i64 0, .int .i64 0, .int .i64 0] 25) (.cells #[.int .i64 0, .int .i64 0, .int .i64 0] 71)
      obtain ⟨w6, hw6⟩ : ∃ x, (w4.alloc (.cells #[.int .i64 0, .int .i64 0, .int .i64 0, .int .i64 0, .int .i64 0, .int .i64 0, .int .i64 0, .int .i64 0, .int .i64 0, .int .i64 0] 25)).alloc (.cells #[.int .i64 0, .int .i64 0, .int .i64 0] 71) = x := ⟨_, rfl⟩
      rw [hw6] at hb6 hr6 hv6
      have HB6 := Lib.hid hb6
      have HR6 := Lib.hid hr6
      have HV6 := Lib.hid hv6
      have HW6 := Lib.hid hw6
      have hgt := HBw4.out.size
      clear hb5 hb6 hr6 hv6 hw6
      go_wp2_with fail
      rw [HW6.out]
      refine wp_loop_rounds 2 ?_
      rw [rounds_succ]
      obtain ⟨z, a0, a1, a2, a3, b0, b1, b2, b3, d0, d1⟩ := HSS.out w6 HB6.out
      have cv := cell_blk HV6.out 0 (v := .int .i64 0) rfl
      have fv := frz_blk HV6.out 0
      go_wp2_with fail
      refine (HNa.out _).mono ?_
      rintro e w' ⟨rfl, rfl⟩
      clear z a0 a1 a2 a3 b0 b1 b2 b3 d0 d1
      go_wp2_with fail
      have hv := heap_setCell_same w6 (w4.heap.size + 1) 0 _ _ (.int .i64 xa) HV6.out
      have hr := (heap_setCell_other w6 ⟨w4.heap.size + 1, 0, none⟩ w4.heap.size (.int .i64 xa) (by simp)).trans HR6.out
      have hb := HB6.out.setCell (p := ⟨w4.heap.size + 1, 0, none⟩) (by have := HG4.out; show w3.heap.size ≤ w4.heap.size + 1; omega) (.int .i64 xa)
      obtain ⟨v1, hnx⟩ : ∃ x, w6.setCell ⟨w4.heap.size + 1, 0, none⟩ (.int .i64 xa) = x := ⟨_, rfl⟩
      rw [hnx] at hv hr hb ⊢
      have HVv1 : Hid (v1.heap[w4.heap.size + 1]? = some (.cells #[.int .i64 xa, .int .i64 0, .int .i64 0] 71 (0, 0))) := hv
      have HRv1 := Lib.hid hr
      have HBv1 := Lib.hid hb
      clear hv hr hb hnx cv fv
      rw [rounds_succ]
      have cv0 := cell_blk HVv1.out 0 (v := .int .i64 xa) rfl
      have c0 := cell_blk HRv1.out 0 (v := .int .i64 0) rfl
      have c1 := cell_blk HRv1.out 1 (v := .int .i64 0) rfl
      have c2 := cell_blk HRv1.out 2 (v := .int .i64 0) rfl
      have c3 := cell_blk HRv1.out 3 (v := .int .i64 0) rfl
      have c4 := cell_blk HRv1.out 4 (v := .int .i64 0) rfl
      have c5 := cell_blk HRv1.out 5 (v := .int .i64 0) rfl
      have c6 := cell_blk HRv1.out 6 (v := .int .i64 0) rfl
      have c7 := cell_blk HRv1.out 7 (v := .int .i64 0) rfl
      have c8 := cell_blk HRv1.out 8 (v := .int .i64 0) rfl
      have c9 := cell_blk HRv1.out 9 (v := .int .i64 0) rfl
      have f3 := frz_blk HRv1.out 3
      go_wp2_with fail
      have hr8 : (v1.setCell ⟨w4.heap.size, 3, none⟩ (.int .i64 xa)).heap[w4.heap.size]? = _ := (heap_setCell_same v1 w4.heap.size 3 _ _ (.int .i64 xa) HRv1.out)
      have hb8 := (HBv1.out.setCell (p := ⟨w4.heap.size, 3, none⟩) HG4.out (.int .i64 xa))
      obtain ⟨w8, hw8⟩ : ∃ x, (v1.setCell ⟨w4.heap.size, 3, none⟩ (.int .i64 xa)) = x := ⟨_, rfl⟩
      rw [hw8] at hr8 hb8 ⊢
      have HR8 : Hid (w8.heap[w4.heap.size]? = some (.cells #[.int .i64 0, .int .i64 0, .int .i64 0, .int .i64 xa, .int .i64 0, .int .i64 0, .int .i64 0, .int .i64 0, .int .i64 0, .int .i64 0] 25 (0, 0))) := hr8
      have HB8 := Lib.hid hb8
      clear hr8 hb8 hw8 cv0 c0 c1 c2 c3 c4 c5 c6 c7 c8 c9 f3
      refine (HMY.out _).mono ?_
      rintro e w9 ⟨rfl, hb9⟩
      have HB9 := Lib.hid (HB8.out.trans (hb9.mono HB8.out.size))
      have hr9 := (hb9.block _ (Array.getElem?_eq_some_iff.1 HR8.out).1).trans HR8.out
      have c0 := cell_blk hr9 0 (v := .int .i64 0) rfl
      have c1 := cell_blk hr9 1 (v := .int .i64 0) rfl
      have c2 := cell_blk hr9 2 (v := .int .i64 0) rfl
      have c3 := cell_blk hr9 3 (v := .int .i64 xa) rfl
      have c4 := cell_blk hr9 4 (v := .int .i64 0) rfl
      have c5 := cell_blk hr9 5 (v := .int .i64 0) rfl
      have c6 := cell_blk hr9 6 (v := .int .i64 0) rfl
      have c7 := cell_blk hr9 7 (v := .int .i64 0) rfl
      have c8 := cell_blk hr9 8 (v := .int .i64 0) rfl
      have c9 := cell_blk hr9 9 (v := .int .i64 0) rfl
      clear hb9 hr9
      have hz := (HSS.out w9 HB9.out).1
      have HZ := Lib.hid hz
      have r0 := cell_blk hz 0 (v := .int .i64 0) rfl
      have f0 := frz_blk hz 0
      have r1 := cell_blk hz 1 (v := .int .i64 0) rfl
      have f1 := frz_blk hz 1
      have r2 := cell_blk hz 2 (v := .int .i64 0) rfl
      have f2 := frz_blk hz 2
      have r3 := cell_blk hz 3 (v := .int .i64 0) rfl
      have f3 := frz_blk hz 3
      have r4 := cell_blk hz 4 (v := .int .i64 0) rfl
      have f4 := frz_blk hz 4
      have r5 := cell_blk hz 5 (v := .int .i64 0) rfl
      have f5 := frz_blk hz 5
      have r6 := cell_blk hz 6 (v := .int .i64 0) rfl
      have f6 := frz_blk hz 6
      have r7 := cell_blk hz 7 (v := .int .i64 0) rfl
      have f7 := frz_blk hz 7
      have r8 := cell_blk hz 8 (v := .int .i64 0) rfl
      have f8 := frz_blk hz 8
      have r9 := cell_blk hz 9 (v := .int .i64 0) rfl
      have f9 := frz_blk hz 9
      clear hz
      go_wp2_with fail
      refine bodyPost_ret (results_cell2 rfl _ _ w.heap.size _ _ (0, 0) _ rfl (set10 HZ.out) Tryz.underlying25 rfl (by kernel_rfl)) rfl ?_
      exact ⟨rfl, below_set10 (HB3.out.trans (HB9.out.mono HB3.out.size)) (Nat.le_refl _)⟩
end Go.Proofs.YtjfmnflcgenpaaaGreatDoor

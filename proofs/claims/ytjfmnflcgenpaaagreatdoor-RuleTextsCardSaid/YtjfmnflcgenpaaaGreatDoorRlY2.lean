/- Contract: the document's Parse of Nth. -/
import Derived.Test.YtjfmnflcgenpaaaGreatDoorRlW
import Derived.Test.YtjfmnflcgenpaaaGreatDoorRlQ
namespace Go.Proofs.YtjfmnflcgenpaaaGreatDoor
open Go.RowKit

set_option maxRecDepth 100000 in
set_option maxHeartbeats 8000000 in
theorem refParse2 (s a b c : List UInt8) (w : World) (hs : s.length ≤ 1000) (hc : cutAt 32 s = [nW, a, b, c]) :
    Calls Tryz.prog 15 #[.string (str s)] w fun e w' => e = .returned (ans2 (pr s)) ∧ Below w.heap.size w w' := by
  rw [pr_k2 hc]
  have HC := Lib.hid (fun W => cut_r s 32 32 W rfl hs)
  rw [hc] at HC
  have hlen : [nW, a, b, c].length = 4 := rfl
  have hlenL : (strL [nW, a, b, c]).length = 4 := rfl
  rw [hlen] at HC
  have hla : a.length ≤ 1000 := Nat.le_trans (cutAt_le 32 s a (by rw [hc]; simp)) hs
  have hlb : b.length ≤ 1000 := Nat.le_trans (cutAt_le 32 s b (by rw [hc]; simp)) hs
  have hlc : c.length ≤ 1000 := Nat.le_trans (cutAt_le 32 s c (by rw [hc]; simp)) hs
  have HNa := Lib.hid (fun W => number_r a W hla)
  have HNb := Lib.hid (fun W => number_r b W hlb)
  have HNc := Lib.hid (fun W => number_r c W hlc)
  have HCL : Hid (∀ (W : World) (ad : Addr), (∀ j v, (strL [nW, a, b, c])[j]? = some v → W.cell? (ad.add j) = some v) → W.cell? ad = some (.string (str nW)) ∧ W.cell? { block := ad.block, off := ad.off + 1 } = some (.string (str a)) ∧ W.cell? { block := ad.block, off := ad.off + 2 } = some (.string (str b)) ∧ W.cell? { block := ad.block, off := ad.off + 3 } = some (.string (str c))) := fun W ad h => ⟨h 0 _ rfl, h 1 _ rfl, h 2 _ rfl, h 3 _ rfl⟩
  have x0 : ((str nW).toList == [119, 101, 101, 107, 100, 97, 121]) = false := (str_eq_lit _ _).trans (by decide)
  have y0 : ((str nW).toList != [119, 101, 101, 107, 100, 97, 121]) = true := by rw [bne, x0]; rfl
  have x1 : ((str nW).toList == [100, 97, 121]) = false := (str_eq_lit _ _).trans (by decide)
  have y1 : ((str nW).toList != [100, 97, 121]) = true := by rw [bne, x1]; rfl
  have x2 : ((str nW).toList == [110, 116, 104]) = true := (str_eq_lit _ _).trans (by decide)
  have y2 : ((str nW).toList != [110, 116, 104]) = false := by rw [bne, x2]; rfl
  have x3 : ((str nW).toList == [100, 97, 116, 101, 115]) = false := (str_eq_lit _ _).trans (by decide)
  have y3 : ((str nW).toList != [100, 97, 116, 101, 115]) = true := by rw [bne, x3]; rfl
  have hb0 := (Below.refl w.heap.size w).alloc (Nat.le_refl _) (.cells #[.int .i64 0, .int .i64 0, .int .i64 0, .int .i64 0, .int .i64 0, .int .i64 0, .int .i64 0, .int .i64 0, .int .i64 0, .int .i64 0] 25)
  have G0 := Lib.hid (heap_alloc_new w (.cells #[.int .i64 0, .int .i64 0, .int .i64 0, .int .i64 0, .int .i64 0, .int .i64 0, .int .i64 0, .int .i64 0, .int .i64 0, .int .i64 0] 25))
  have HB0 := Lib.hid hb0
  have hlt0 : w.heap.size < (w.alloc (.cells #[.int .i64 0, .int .i64 0, .int .i64 0, .int .i64 0, .int .i64 0, .int .i64 0, .int .i64 0, .int .i64 0, .int .i64 0, .int .i64 0] 25)).heap.size := by simp
  have HMY := Lib.hid (fun W => refMay_any ⟨2, numV a, numV b, numV c, 0, 0, 0, 0, 0, 0⟩ W)
  clear hb0 hc hlen hla hlb hlc hs
  generalize numV a = xa at *
  generalize numB a = qa at *
  generalize numV b = xb at *
  generalize numB b = qb at *
  generalize numV c = xc at *
  generalize numB c = qc at *
  generalize str nW = s0 at *
  generalize str a = s1 at *
  generalize str b = s2 at *
  generalize str c = s3 at *
  generalize str s = S at *
  cases qa
  · rw [may_or_no (false && (qb && qc)) _ (.inl rfl), ans2_none]
    clear HMY
    go_enter Tryz.func15, Tryz.ntmps15
    go_wp2_with fail
    refine (HC.out _).mono ?_
    rintro e w1 ⟨A, cp, rfl, hb1, hrd⟩
    obtain ⟨ad, rfl, hcell⟩ := hrd (by rw [hlenL]; omega)
    have hb2 := (HB0.out.trans (hb1.mono HB0.out.size)).alloc (HB0.out.trans (hb1.mono HB0.out.size)).size (.cells #[.int .i64 2, .int .i64 3, .int .i64 4, .int .i64 3] 3)
    have hb3 := hb2.alloc hb2.size (.cells #[.string { data := #[119, 101, 101, 107, 100, 97, 121] }, .string { data := #[100, 97, 121] }, .string { data := #[110, 116, 104] }, .string { data := #[100, 97, 116, 101, 115] }] 9)
    have hz1 := (hb1.block w.heap.size hlt0).trans G0.out
    have hlz1 := (Array.getElem?_eq_some_iff.1 hz1).1
    have hz2 := (Below.heap_alloc w1 (.cells #[.int .i64 2, .int .i64 3, .int .i64 4, .int .i64 3] 3) w.heap.size hlz1).trans hz1
    have hgz := (Below.heap_alloc (w1.alloc (.cells #[.int .i64 2, .int .i64 3, .int .i64 4, .int .i64 3] 3)) (.cells #[.string { data := #[119, 101, 101, 107, 100, 97, 121] }, .string { data := #[100, 97, 121] }, .string { data := #[110, 116, 104] }, .string { data := #[100, 97, 116, 101, 115] }] 9) w.heap.size (Array.getElem?_eq_some_iff.1 hz2).1).trans hz2
    have hgw := (Below.heap_alloc (w1.alloc (.cells #[.int .i64 2, .int .i64 3, .int .i64 4, .int .i64 3] 3)) (.cells #[.string { data := #[119, 101, 101, 107, 100, 97, 121] }, .string { data := #[100, 97, 121] }, .string { data := #[110, 116, 104] }, .string { data := #[100, 97, 116, 101, 115] }] 9) w1.heap.size (by simp)).trans (heap_alloc_new w1 (.cells #[.int .i64 2, .int .i64 3, .int .i64 4, .int .i64 3] 3))
    have hgs := heap_new2 w1 (.cells #[.int .i64 2, .int .i64 3, .int .i64 4, .int .i64 3] 3) (.cells #[.string { data := #[119, 101, 101, 107, 100, 97, 121] }, .string { data := #[100, 97, 121] }, .string { data := #[110, 116, 104] }, .string { data := #[100, 97, 116, 101, 115] }] 9)
    have hr3 := (hrd.alloc (.cells #[.int .i64 2, .int .i64 3, .int .i64 4, .int .i64 3] 3)).alloc (.cells #[.string { data := #[119, 101, 101, 107, 100, 97, 121] }, .string { data := #[100, 97, 121] }, .string { data := #[110, 116, 104] }, .string { data := #[100, 97, 116, 101, 115] }] 9)
    obtain ⟨w3, hw3⟩ : ∃ w3, (w1.alloc (.cells #[.int .i64 2, .int .i64 3, .int .i64 4, .int .i64 3] 3)).alloc (.cells #[.string { data := #[119, 101, 101, 107, 100, 97, 121] }, .string { data := #[100, 97, 121] }, .string { data := #[110, 116, 104] }, .string { data := #[100, 97, 116, 101, 115] }] 9) = w3 := ⟨_, rfl⟩
    rw [hw3] at hb3 hgz hgw hgs hr3
    have hlz := (Array.getElem?_eq_some_iff.1 hgz).1
    have hlw := (Array.getElem?_eq_some_iff.1 hgw).1
    have hls := (Array.getElem?_eq_some_iff.1 hgs).1
    have hp3 : ∀ W, Below w3.heap.size w3 W → W.cell? ad = some (.string s0) ∧ W.cell? { block := ad.block, off := ad.off + 1 } = some (.string s1) ∧ W.cell? { block := ad.block, off := ad.off + 2 } = some (.string s2) ∧ W.cell? { block := ad.block, off := ad.off + 3 } = some (.string s3) := fun W hb => by
      obtain ⟨ad', e, hc'⟩ := (hr3.below hb) (by rw [hlenL]; omega)
      injection e with e
      subst e
      exact HCL.out W _ hc'
    have HSS := Lib.hid (show ∀ W, Below w3.heap.size w3 W → W.heap[w.heap.size]? = some (.cells #[.int .i64 0, .int .i64 0, .int .i64 0, .int .i64 0, .int .i64 0, .int .i64 0, .int .i64 0, .int .i64 0, .int .i64 0, .int .i64 0] 25 (0, 0)) ∧ W.cell? ⟨w1.heap.size, 0, none⟩ = some (.int .i64 2) ∧ W.cell? ⟨w1.heap.size, 1, none⟩ = some (.int .i64 3) ∧ W.cell? ⟨w1.heap.size, 2, none⟩ = some (.int .i64 4) ∧ W.cell? ⟨w1.heap.size, 3, none⟩ = some (.int .i64 3) ∧ W.cell? ⟨w1.heap.size + 1, 0, none⟩ = some (.string { data := #[119, 101, 101, 107, 100, 97, 121] }) ∧ W.cell? ⟨w1.heap.size + 1, 1, none⟩ = some (.string { data := #[100, 97, 121] }) ∧ W.cell? ⟨w1.heap.size + 1, 2, none⟩ = some (.string { data := #[110, 116, 104] }) ∧ W.cell? ⟨w1.heap.size + 1, 3, none⟩ = some (.string { data := #[100, 97, 116, 101, 115] }) ∧ W.cell? ad = some (.string s0) ∧ W.cell? { block := ad.block, off := ad.off + 1 } = some (.string s1) ∧ W.cell? { block := ad.block, off := ad.off + 2 } = some (.string s2) ∧ W.cell? { block := ad.block, off := ad.off + 3 } = some (.string s3) from fun W hb => ⟨(hb.block _ hlz).trans hgz, cell_blk ((hb.block _ hlw).trans hgw) 0 rfl, cell_blk ((hb.block _ hlw).trans hgw) 1 rfl, cell_blk ((hb.block _ hlw).trans hgw) 2 rfl, cell_blk ((hb.block _ hlw).trans hgw) 3 rfl, cell_blk ((hb.block _ hls).trans hgs) 0 rfl, cell_blk ((hb.block _ hls).trans hgs) 1 rfl, cell_blk ((hb.block _ hls).trans hgs) 2 rfl, cell_blk ((hb.block _ hls).trans hgs) 3 rfl, hp3 W hb⟩)
    have HB3 := Lib.hid hb3
    have HW3 := Lib.hid hw3
    clear hb1 hb2 hb3 hz1 hlz1 hz2 hgz hgw hgs hr3 hw3 hlz hlw hls hp3 hrd hcell HC
    go_wp2_with fail
    rw [HW3.out]
    refine wp_loop_rounds 3 ?_
    rw [rounds_succ]
    obtain ⟨z, a0, a1, a2, a3, b0, b1, b2, b3, d0, d1, d2, d3⟩ := HSS.out w3 (Below.refl w3.heap.size w3)
    go_wp2_with fail
    go_quiet (fail)
    obtain ⟨u0, hwu0⟩ : ∃ x, w3.drewN nq = x := ⟨_, rfl⟩
    rw [hwu0]
    have HBu0 := Lib.hid (show Below w3.heap.size w3 u0 by rw [← hwu0]; exact (Below.refl w3.heap.size w3).trans ((below_drewN w3 nq).mono (Below.refl w3.heap.size w3).size))
    clear z a0 a1 a2 a3 b0 b1 b2 b3 d0 d1 d2 d3
    clear hwu0
    go_wp2_with fail
    rw [rounds_succ]
    obtain ⟨z, a0, a1, a2, a3, b0, b1, b2, b3, d0, d1, d2, d3⟩ := HSS.out u0 HBu0.out
    go_wp2_with fail
    go_quiet (fail)
    obtain ⟨u1, hwu1⟩ : ∃ x, u0.drewN nq = x := ⟨_, rfl⟩
    rw [hwu1]
    have HBu1 := Lib.hid (show Below w3.heap.size w3 u1 by rw [← hwu1]; exact HBu0.out.trans ((below_drewN u0 nq).mono HBu0.out.size))
    clear z a0 a1 a2 a3 b0 b1 b2 b3 d0 d1 d2 d3
    clear hwu1
    go_wp2_with fail
    rw [rounds_succ]
    obtain ⟨z, a0, a1, a2, a3, b0, b1, b2, b3, d0, d1, d2, d3⟩ := HSS.out u1 HBu1.out
    go_wp2_with fail
    go_quiet (fail)
    obtain ⟨w4, hww4⟩ : ∃ x, u1.drewN nq = x := ⟨_, rfl⟩
    rw [hww4]
    have HBw4 := Lib.hid (show Below w3.heap.size w3 w4 by rw [← hww4]; exact HBu1.out.trans ((below_drewN u1 nq).mono HBu1.out.size))
    clear z a0 a1 a2 a3 b0 b1 b2 b3 d0 d1 d2 d3
    clear hww4
    have HG4 := Lib.hid HBw4.out.size
    have hb5 := HBw4.out.alloc HBw4.out.size (.cells #[.int .i64 2, .int .i64 0, .int .i64 0, .int .i64 0, .int .i64 0, .int .i64 0, .int .i64 0, .int .i64 0, .int .i64 0, .int .i64 0] 25)
    have hb6 := hb5.alloc hb5.size (.cells #[.int .i64 0, .int .i64 0, .int .i64 0] 71)
    have hr6 := (Below.heap_alloc (w4.alloc (.cells #[.int .i64 2, .int .i64 0, .int .i64 0, .int .i64 0, .int .i64 0, .int .i64 0, .int .i64 0, .int .i64 0, .int .i64 0, .int .i64 0] 25)) (.cells #[.int .i64 0, .int .i64 0, .int .i64 0] 71) w4.heap.size (by simp)).trans (heap_alloc_new w4 (.cells #[.int .i64 2, .int .i64 0, .int .i64 0, .int .i64 0, .int .i64 0, .int .i64 0, .int .i64 0, .int .i64 0, .int .i64 0, .int .i64 0] 25))
    have hv6 := heap_new2 w4 (.cells #[.int .i64 2, .int .i64 0, .int .i64 0, .int .i64 0, .int .i64 0, .int .i64 0, .int .i64 0, .int .i64 0, .int .i64 0, .int .i64 0] 25) (.cells #[.int .i64 0, .int .i64 0, .int .i64 0] 71)
    obtain ⟨w6, hw6⟩ : ∃ x, (w4.alloc (.cells #[.int .i64 2, .int .i64 0, .int .i64 0, .int .i64 0, .int .i64 0, .int .i64 0, .int .i64 0, .int .i64 0, .int .i64 0, .int .i64 0] 25)).alloc (.cells #[.int .i64 0, .int .i64 0, .int .i64 0] 71) = x := ⟨_, rfl⟩
    rw [hw6] at hb6 hr6 hv6
    have HB6 := Lib.hid hb6
    have HR6 := Lib.hid hr6
    have HV6 := Lib.hid hv6
    have HW6 := Lib.hid hw6
    have hgt := HBw4.out.size
    clear hb5 hb6 hr6 hv6 hw6
    go_wp2_with fail
    rw [HW6.out]
    refine wp_loop_rounds 4 ?_
    rw [rounds_succ]
    obtain ⟨z, a0, a1, a2, a3, b0, b1, b2, b3, d0, d1, d2, d3⟩ := HSS.out w6 HB6.out
    go_wp2_with fail
    refine (HNa.out _).mono ?_
    rintro e w' ⟨rfl, rfl⟩
    clear z a0 a1 a2 a3 b0 b1 b2 b3 d0 d1 d2 d3
    have hz := (HSS.out w6 HB6.out).1
    have HZ := Lib.hid hz
    have r0 := cell_blk hz 0 (v := .int .i64 0) rfl
    have f0 := frz_blk hz 0
    have r1 := cell_blk hz 1 (v := .int .i64 0) rfl
    have f1 := frz_blk hz 1
    have r2 := cell_blk hz 2 (v := .int .i64 0) rfl
    have f2 := frz_blk hz 2
    have r3 := cell_blk hz 3 (v := .int .i64 0) rfl
    have f3 := frz_blk hz 3
    have r4 := cell_blk hz 4 (v := .int .i64 0) rfl
    have f4 := frz_blk hz 4
    have r5 := cell_blk hz 5 (v := .int .i64 0) rfl
    have f5 := frz_blk hz 5
    have r6 := cell_blk hz 6 (v := .int .i64 0) rfl
    have f6 := frz_blk hz 6
    have r7 := cell_blk hz 7 (v := .int .i64 0) rfl
    have f7 := frz_blk hz 7
    have r8 := cell_blk hz 8 (v := .int .i64 0) rfl
    have f8 := frz_blk hz 8
    have r9 := cell_blk hz 9 (v := .int .i64 0) rfl
    have f9 := frz_blk hz 9
    clear hz
    go_wp2_with fail
    refine bodyPost_ret (results_cell2 rfl _ _ w.heap.size _ _ (0, 0) _ rfl (set10 HZ.out) Tryz.underlying25 rfl (by kernel_rfl)) rfl ?_
    exact ⟨rfl, below_set10 (HB3.out.trans (HB6.out.mono HB3.out.size)) (Nat.le_refl _)⟩
  · skip
    cases qb
    · rw [may_or_no (true && (false && qc)) _ (.inl rfl), ans2_none]
      clear HMY
      go_enter Tryz.func15, Tryz.ntmps15
      go_wp2_with fail
      refine (HC.out _).mono ?_
      rintro e w1 ⟨A, cp, rfl, hb1, hrd⟩
      obtain ⟨ad, rfl, hcell⟩ := hrd (by rw [hlenL]; omega)
      have hb2 := (HB0.out.trans (hb1.mono HB0.out.size)).alloc (HB0.out.trans (hb1.mono HB0.out.size)).size (.cells #[.int .i64 2, .int .i64 3, .int .i64 4, .int .i64 3] 3)
      have hb3 := hb2.alloc hb2.size (.cells #[.string { data := #[119, 101, 101, 107, 100, 97, 121] }, .string { data := #[100, 97, 121] }, .string { data := #[110, 116, 104] }, .string { data := #[100, 97, 116, 101, 115] }] 9)
      have hz1 := (hb1.block w.heap.size hlt0).trans G0.out
      have hlz1 := (Array.getElem?_eq_some_iff.1 hz1).1
      have hz2 := (Below.heap_alloc w1 (.cells #[.int .i64 2, .int .i64 3, .int .i64 4, .int .i64 3] 3) w.heap.size hlz1).trans hz1
      have hgz := (Below.heap_alloc (w1.alloc (.cells #[.int .i64 2, .int .i64 3, .int .i64 4, .int .i64 3] 3)) (.cells #[.string { data := #[119, 101, 101, 107, 100, 97, 121] }, .string { data := #[100, 97, 121] }, .string { data := #[110, 116, 104] }, .string { data := #[100, 97, 116, 101, 115] }] 9) w.heap.size (Array.getElem?_eq_some_iff.1 hz2).1).trans hz2
      have hgw := (Below.heap_alloc (w1.alloc (.cells #[.int .i64 2, .int .i64 3, .int .i64 4, .int .i64 3] 3)) (.cells #[.string { data := #[119, 101, 101, 107, 100, 97, 121] }, .string { data := #[100, 97, 121] }, .string { data := #[110, 116, 104] }, .string { data := #[100, 97, 116, 101, 115] }] 9) w1.heap.size (by simp)).trans (heap_alloc_new w1 (.cells #[.int .i64 2, .int .i64 3, .int .i64 4, .int .i64 3] 3))
      have hgs := heap_new2 w1 (.cells #[.int .i64 2, .int .i64 3, .int .i64 4, .int .i64 3] 3) (.cells #[.string { data := #[119, 101, 101, 107, 100, 97, 121] }, .string { data := #[100, 97, 121] }, .string { data := #[110, 116, 104] }, .string { data := #[100, 97, 116, 101, 115] }] 9)
      have hr3 := (hrd.alloc (.cells #[.int .i64 2, .int .i64 3, .int .i64 4, .int .i64 3] 3)).alloc (.cells #[.string { data := #[119, 101, 101, 107, 100, 97, 121] }, .string { data := #[100, 97, 121] }, .string { data := #[110, 116, 104] }, .string { data := #[100, 97, 116, 101, 115] }] 9)
      obtain ⟨w3, hw3⟩ : ∃ w3, (w1.alloc (.cells #[.int .i64 2, .int .i64 3, .int .i64 4, .int .i64 3] 3)).alloc (.cells #[.string { data := #[119, 101, 101, 107, 100, 97, 121] }, .string { data := #[100, 97, 121] }, .string { data := #[110, 116, 104] }, .string { data := #[100, 97, 116, 101, 115] }] 9) = w3 := ⟨_, rfl⟩
      rw [hw3] at hb3 hgz hgw hgs hr3
      have hlz := (Array.getElem?_eq_some_iff.1 hgz).1
      have hlw := (Array.getElem?_eq_some_iff.1 hgw).1
      have hls := (Array.getElem?_eq_some_iff.1 hgs).1
      have hp3 : ∀ W, Below w3.heap.size w3 W → W.cell? ad = some (.string s0) ∧ W.cell? { block := ad.block, off := ad.off + 1 } = some (.string s1) ∧ W.cell? { block := ad.block, off := ad.off + 2 } = some (.string s2) ∧ W.cell? { block := ad.block, off := ad.off + 3 } = some (.string s3) := fun W hb => by
        obtain ⟨ad', e, hc'⟩ := (hr3.below hb) (by rw [hlenL]; omega)
        injection e with e
        subst e
        exact HCL.out W _ hc'
      have HSS := Lib.hid (show ∀ W, Below w3.heap.size w3 W → W.heap[w.heap.size]? = some (.cells #[.int .i64 0, .int .i64 0, .int .i64 0, .int .i64 0, .int .i64 0, .int .i64 0, .int .i64 0, .int .i64 0, .int .i64 0, .int .i64 0] 25 (0, 0)) ∧ W.cell? ⟨w1.heap.size, 0, none⟩ = some (.int .i64 2) ∧ W.cell? ⟨w1.heap.size, 1, none⟩ = some (.int .i64 3) ∧ W.cell? ⟨w1.heap.size, 2, none⟩ = some (.int .i64 4) ∧ W.cell? ⟨w1.heap.size, 3, none⟩ = some (.int .i64 3) ∧ W.cell? ⟨w1.heap.size + 1, 0, none⟩ = some (.string { data := #[119, 101, 101, 107, 100, 97, 121] }) ∧ W.cell? ⟨w1.heap.size + 1, 1, none⟩ = some (.string { data := #[100, 97, 121] }) ∧ W.cell? ⟨w1.heap.size + 1, 2, none⟩ = some (.string { data := #[110, 116, 104] }) ∧ W.cell? ⟨w1.heap.size + 1, 3, none⟩ = some (.string { data := #[100, 97, 116, 101, 115] }) ∧ W.cell? ad = some (.string s0) ∧ W.cell? { block := ad.block, off := ad.off + 1 } = some (.string s1) ∧ W.cell? { block := ad.block, off := ad.off + 2 } = some (.string s2) ∧ W.cell? { block := ad.block, off := ad.off + 3 } = some (.string s3) from fun W hb => ⟨(hb.block _ hlz).trans hgz, cell_blk ((hb.block _ hlw).trans hgw) 0 rfl, cell_blk ((hb.block _ hlw).trans hgw) 1 rfl, cell_blk ((hb.block _ hlw).trans hgw) 2 rfl, cell_blk ((hb.block _ hlw).trans hgw) 3 rfl, cell_blk ((hb.block _ hls).trans hgs) 0 rfl, cell_blk ((hb.block _ hls).trans hgs) 1 rfl, cell_blk ((hb.block _ hls).trans hgs) 2 rfl, cell_blk ((hb.block _ hls).trans hgs) 3 rfl, hp3 W hb⟩)
      have HB3 := Lib.hid hb3
      have HW3 := Lib.hid hw3
      clear hb1 hb2 hb3 hz1 hlz1 hz2 hgz hgw hgs hr3 hw3 hlz hlw hls hp3 hrd hcell HC
      go_wp2_with fail
      rw [HW3.out]
      refine wp_loop_rounds 3 ?_
      rw [rounds_succ]
      obtain ⟨z, a0, a1, a2, a3, b0, b1, b2, b3, d0, d1, d2, d3⟩ := HSS.out w3 (Below.refl w3.heap.size w3)
      go_wp2_with fail
      go_quiet (fail)
      obtain ⟨u0, hwu0⟩ : ∃ x, w3.drewN nq = x := ⟨_, rfl⟩
      rw [hwu0]
      have HBu0 := Lib.hid (show Below w3.heap.size w3 u0 by rw [← hwu0]; exact (Below.refl w3.heap.size w3).trans ((below_drewN w3 nq).mono (Below.refl w3.heap.size w3).size))
      clear z a0 a1 a2 a3 b0 b1 b2 b3 d0 d1 d2 d3
      clear hwu0
      go_wp2_with fail
      rw [rounds_succ]
      obtain ⟨z, a0, a1, a2, a3, b0, b1, b2, b3, d0, d1, d2, d3⟩ := HSS.out u0 HBu0.out
      go_wp2_with fail
      go_quiet (fail)
      obtain ⟨u1, hwu1⟩ : ∃ x, u0.drewN nq = x := ⟨_, rfl⟩
      rw [hwu1]
      have HBu1 := Lib.hid (show Below w3.heap.size w3 u1 by rw [← hwu1]; exact HBu0.out.trans ((below_drewN u0 nq).mono HBu0.out.size))
      clear z a0 a1 a2 a3 b0 b1 b2 b3 d0 d1 d2 d3
      clear hwu1
      go_wp2_with fail
      rw [rounds_succ]
      obtain ⟨z, a0, a1, a2, a3, b0, b1, b2, b3, d0, d1, d2, d3⟩ := HSS.out u1 HBu1.out
      go_wp2_with fail
      go_quiet (fail)
      obtain ⟨w4, hww4⟩ : ∃ x, u1.drewN nq = x := ⟨_, rfl⟩
      rw [hww4]
      have HBw4 := Lib.hid (show Below w3.heap.size w3 w4 by rw [← hww4]; exact HBu1.out.trans ((below_drewN u1 nq).mono HBu1.out.size))
      clear z a0 a1 a2 a3 b0 b1 b2 b3 d0 d1 d2 d3
      clear hww4
      have HG4 := Lib.hid HBw4.out.size
      have hb5 := HBw4.out.alloc HBw4.out.size (.cells #[.int .i64 2, .int .i64 0, .int .i64 0, .int .i64 0, .int .i64 0, .int .i64 0, .int .i64 0, .int .i64 0, .int .i64 0, .int .i64 0] 25)
      have hb6 := hb5.alloc hb5.size (.cells #[.int .i64 0, .int .i64 0, .int .i64 0] 71)
      have hr6 := (Below.heap_alloc (w4.alloc (.cells #[.int .i64 2, .int .i64 0, .int .i64 0, .int .i64 0, .int .i64 0, .int .i64 0, .int .i64 0, .int .i64 0, .int .i64 0, .int .i64 0] 25)) (.cells #[.int .i64 0, .int .i64 0, .int .i64 0] 71) w4.heap.size (by simp)).trans (heap_alloc_new w4 (.cells #[.int .i64 2, .int .i64 0, .int .i64 0, .int .i64 0, .int .i64 0, .int .i64 0, .int .i64 0, .int .i64 0, .int .i64 0, .int .i64 0] 25))
      have hv6 := heap_new2 w4 (.cells #[.int .i64 2, .int .i64 0, .int .i64 0, .int .i64 0, .int .i64 0, .int .i64 0, .int .i64 0, .int .i64 0, .int .i64 0, .int .i64 0] 25) (.cells #[.int .i64 0, .int .i64 0, .int .i64 0] 71)
      obtain ⟨w6, hw6⟩ : ∃ x, (w4.alloc (.cells #[.int .i64 2, .int .i64 0, .int .i64 0, .int .i64 0, .int .i64 0, .int .i64 0, .int .i64 0, .int .i64 0, .int .i64 0, .int .i64 0] 25)).alloc (.cells #[.int .i64 0, .int .i64 0, .int .i64 0] 71) = x := ⟨_, rfl⟩
      rw [hw6] at hb6 hr6 hv6
      have HB6 := Lib.hid hb6
      have HR6 := Lib.hid hr6
      have HV6 := Lib.hid hv6
      have HW6 := Lib.hid hw6
      have hgt := HBw4.out.size
      clear hb5 hb6 hr6 hv6 hw6
      go_wp2_with fail
      rw [HW6.out]
      refine wp_loop_rounds 4 ?_
      rw [rounds_succ]
      obtain ⟨z, a0, a1, a2, a3, b0, b1, b2, b3, d0, d1, d2, d3⟩ := HSS.out w6 HB6.out
      have cv := cell_blk HV6.out 0 (v := .int .i64 0) rfl
      have fv := frz_blk HV6.out 0
      go_wp2_with fail
      refine (HNa.out _).mono ?_
      rintro e w' ⟨rfl, rfl⟩
      clear z a0 a1 a2 a3 b0 b1 b2 b3 d0 d1 d2 d3
      go_wp2_with fail
      have hv := heap_setCell_same w6 (w4.heap.size + 1) 0 _ _ (.int .i64 xa) HV6.out
      have hr := (heap_setCell_other w6 ⟨w4.heap.size + 1, 0, none⟩ w4.heap.size (.int .i64 xa) (by simp)).trans HR6.out
      have hb := HB6.out.setCell (p := ⟨w4.heap.size + 1, 0, none⟩) (by have := HG4.out; show w3.heap.size ≤ w4.heap.size + 1; omega) (.int .i64 xa)
      obtain ⟨v1, hnx⟩ : ∃ x, w6.setCell ⟨w4.heap.size + 1, 0, none⟩ (.int .i64 xa) = x := ⟨_, rfl⟩
      rw [hnx] at hv hr hb ⊢
      have HVv1 : Hid (v1.heap[w4.heap.size + 1]? = some (.cells #[.int .i64 xa, .int .i64 0, .int .i64 0] 71 (0, 0))) := hv
      have HRv1 := Lib.hid hr
      have HBv1 := Lib.hid hb
      clear hv hr hb hnx cv fv
      rw [rounds_succ]
      obtain ⟨z, a0, a1, a2, a3, b0, b1, b2, b3, d0, d1, d2, d3⟩ := HSS.out v1 HBv1.out
      go_wp2_with fail
      refine (HNb.out _).mono ?_
      rintro e w' ⟨rfl, rfl⟩
      clear z a0 a1 a2 a3 b0 b1 b2 b3 d0 d1 d2 d3
      have hz := (HSS.out v1 HBv1.out).1
      have HZ := Lib.hid hz
      have r0 := cell_blk hz 0 (v := .int .i64 0) rfl
      have f0 := frz_blk hz 0
      have r1 := cell_blk hz 1 (v := .int .i64 0) rfl
      have f1 := frz_blk hz 1
      have r2 := cell_blk hz 2 (v := .int .i64 0) rfl
      have f2 := frz_blk hz 2
      have r3 := cell_blk hz 3 (v := .int .i64 0) rfl
      have f3 := frz_blk hz 3
      have r4 := cell_blk hz 4 (v := .int .i64 0) rfl
      have f4 := frz_blk hz 4
      have r5 := cell_blk hz 5 (v := .int .i64 0) rfl
      have f5 := frz_blk hz 5
      have r6 := cell_blk hz 6 (v := .int .i64 0) rfl
      have f6 := frz_blk hz 6
      have r7 := cell_blk hz 7 (v := .int .i64 0) rfl
      have f7 := frz_blk hz 7
      have r8 := cell_blk hz 8 (v := .int .i64 0) rfl
      have f8 := frz_blk hz 8
      have r9 := cell_blk hz 9 (v := .int .i64 0) rfl
      have f9 := frz_blk hz 9
      clear hz
      go_wp2_with fail
      refine bodyPost_ret (results_cell2 rfl _ _ w.heap.size _ _ (0, 0) _ rfl (set10 HZ.out) Tryz.underlying25 rfl (by kernel_rfl)) rfl ?_
      exact ⟨rfl, below_set10 (HB3.out.trans (HBv1.out.mono HB3.out.size)) (Nat.le_refl _)⟩
    · skip
      cases qc
      · rw [may_or_no (true && (true && false)) _ (.inl rfl), ans2_none]
        clear HMY
        go_enter Tryz.func15, Tryz.ntmps15
        go_wp2_with fail
        refine (HC.out _).mono ?_
        rintro e w1 ⟨A, cp, rfl, hb1, hrd⟩
        obtain ⟨ad, rfl, hcell⟩ := hrd (by rw [hlenL]; omega)
        have hb2 := (HB0.out.trans (hb1.mono HB0.out.size)).alloc (HB0.out.trans (hb1.mono HB0.out.size)).size (.cells #[.int .i64 2, .int .i64 3, .int .i64 4, .int .i64 3] 3)
        have hb3 := hb2.alloc hb2.size (.cells #[.string { data := #[119, 101, 101, 107, 100, 97, 121] }, .string { data := #[100, 97, 121] }, .string { data := #[110, 116, 104] }, .string { data := #[100, 97, 116, 101, 115] }] 9)
        have hz1 := (hb1.block w.heap.size hlt0).trans G0.out
        have hlz1 := (Array.getElem?_eq_some_iff.1 hz1).1
        have hz2 := (Below.heap_alloc w1 (.cells #[.int .i64 2, .int .i64 3, .int .i64 4, .int .i64 3] 3) w.heap.size hlz1).trans hz1
        have hgz := (Below.heap_alloc (w1.alloc (.cells #[.int .i64 2, .int .i64 3, .int .i64 4, .int .i64 3] 3)) (.cells #[.string { data := #[119, 101, 101, 107, 100, 97, 121] }, .string { data := #[100, 97, 121] }, .string { data := #[110, 116, 104] }, .string { data := #[100, 97, 116, 101, 115] }] 9) w.heap.size (Array.getElem?_eq_some_iff.1 hz2).1).trans hz2
        have hgw := (Below.heap_alloc (w1.alloc (.cells #[.int .i64 2, .int .i64 3, .int .i64 4, .int .i64 3] 3)) (.cells #[.string { data := #[119, 101, 101, 107, 100, 97, 121] }, .string { data := #[100, 97, 121] }, .string { data := #[110, 116, 104] }, .string { data := #[100, 97, 116, 101, 115] }] 9) w1.heap.size (by simp)).trans (heap_alloc_new w1 (.cells #[.int .i64 2, .int .i64 3, .int .i64 4, .int .i64 3] 3))
        have hgs := heap_new2 w1 (.cells #[.int .i64 2, .int .i64 3, .int .i64 4, .int .i64 3] 3) (.cells #[.string { data := #[119, 101, 101, 107, 100, 97, 121] }, .string { data := #[100, 97, 121] }, .string { data := #[110, 116, 104] }, .string { data := #[100, 97, 116, 101, 115] }] 9)
        have hr3 := (hrd.alloc (.cells #[.int .i64 2, .int .i64 3, .int .i64 4, .int .i64 3] 3)).alloc (.cells #[.string { data := #[119, 101, 101, 107, 100, 97, 121] }, .string { data := #[100, 97, 121] }, .string { data := #[110, 116, 104] }, .string { data := #[100, 97, 116, 101, 115] }] 9)
        obtain ⟨w3, hw3⟩ : ∃ w3, (w1.alloc (.cells #[.int .i64 2, .int .i64 3, .int .i64 4, .int .i64 3] 3)).alloc (.cells #[.string { data := #[119, 101, 101, 107, 100, 97, 121] }, .string { data := #[100, 97, 121] }, .string { data := #[110, 116, 104] }, .string { data := #[100, 97, 116, 101, 115] }] 9) = w3 := ⟨_, rfl⟩
        rw [hw3] at hb3 hgz hgw hgs hr3
        have hlz := (Array.getElem?_eq_some_iff.1 hgz).1
        have hlw := (Array.getElem?_eq_some_iff.1 hgw).1
        have hls := (Array.getElem?_eq_some_iff.1 hgs).1
        have hp3 : ∀ W, Below w3.heap.size w3 W → W.cell? ad = some (.string s0) ∧ W.cell? { block := ad.block, off := ad.off + 1 } = some (.string s1) ∧ W.cell? { block := ad.block, off := ad.off + 2 } = some (.string s2) ∧ W.cell? { block := ad.block, off := ad.off + 3 } = some (.string s3) := fun W hb => by
          obtain ⟨ad', e, hc'⟩ := (hr3.below hb) (by rw [hlenL]; omega)
          injection e with e
          subst e
          exact HCL.out W _ hc'
        have HSS := Lib.hid (show ∀ W, Below w3.heap.size w3 W → W.heap[w.heap.size]? = some (.cells #[.int .i64 0, .int .i64 0, .int .i64 0, .int .i64 0, .int .i64 0, .int .i64 0, .int .i64 0, .int .i64 0, .int .i64 0, .int .i64 0] 25 (0, 0)) ∧ W.cell? ⟨w1.heap.size, 0, none⟩ = some (.int .i64 2) ∧ W.cell? ⟨w1.heap.size, 1, none⟩ = some (.int .i64 3) ∧ W.cell? ⟨w1.heap.size, 2, none⟩ = some (.int .i64 4) ∧ W.cell? ⟨w1.heap.size, 3, none⟩ = some (.int .i64 3) ∧ W.cell? ⟨w1.heap.size + 1, 0, none⟩ = some (.string { data := #[119, 101, 101, 107, 100, 97, 121] }) ∧ W.cell? ⟨w1.heap.size + 1, 1, none⟩ = some (.string { data := #[100, 97, 121] }) ∧ W.cell? ⟨w1.heap.size + 1, 2, none⟩ = some (.string { data := #[110, 116, 104] }) ∧ W.cell? ⟨w1.heap.size + 1, 3, none⟩ = some (.string { data := #[100, 97, 116, 101, 115] }) ∧ W.cell? ad = some (.string s0) ∧ W.cell? { block := ad.block, off := ad.off + 1 } = some (.string s1) ∧ W.cell? { block := ad.block, off := ad.off + 2 } = some (.string s2) ∧ W.cell? { block := ad.block, off := ad.off + 3 } = some (.string s3) from fun W hb => ⟨(hb.block _ hlz).trans hgz, cell_blk ((hb.block _ hlw).trans hgw) 0 rfl, cell_blk ((hb.block _ hlw).trans hgw) 1 rfl, cell_blk ((hb.block _ hlw).trans hgw) 2 rfl, cell_blk ((hb.block _ hlw).trans hgw) 3 rfl, cell_blk ((hb.block _ hls).trans hgs) 0 rfl, cell_blk ((hb.block _ hls).trans hgs) 1 rfl, cell_blk ((hb.block _ hls).trans hgs) 2 rfl, cell_blk ((hb.block _ hls).trans hgs) 3 rfl, hp3 W hb⟩)
        have HB3 := Lib.hid hb3
        have HW3 := Lib.hid hw3
        clear hb1 hb2 hb3 hz1 hlz1 hz2 hgz hgw hgs hr3 hw3 hlz hlw hls hp3 hrd hcell HC
        go_wp2_with fail
        rw [HW3.out]
        refine wp_loop_rounds 3 ?_
        rw [rounds_succ]
        obtain ⟨z, a0, a1, a2, a3, b0, b1, b2, b3, d0, d1, d2, d3⟩ := HSS.out w3 (Below.refl w3.heap.size w3)
        go_wp2_with fail
        go_quiet (fail)
        obtain ⟨u0, hwu0⟩ : ∃ x, w3.drewN nq = x := ⟨_, rfl⟩
        rw [hwu0]
        have HBu0 := Lib.hid (show Below w3.heap.size w3 u0 by rw [← hwu0]; exact (Below.refl w3.heap.size w3).trans ((below_drewN w3 nq).mono (Below.refl w3.heap.size w3).size))
        clear z a0 a1 a2 a3 b0 b1 b2 b3 d0 d1 d2 d3
        clear hwu0
        go_wp2_with fail
        rw [rounds_succ]
        obtain ⟨z, a0, a1, a2, a3, b0, b1, b2, b3, d0, d1, d2, d3⟩ := HSS.out u0 HBu0.out
        go_wp2_with fail
        go_quiet (fail)
        obtain ⟨u1, hwu1⟩ : ∃ x, u0.drewN nq = x := ⟨_, rfl⟩
        rw [hwu1]
        have HBu1 := Lib.hid (show Below w3.heap.size w3 u1 by rw [← hwu1]; exact HBu0.out.trans ((below_drewN u0 nq).mono HBu0.out.size))
        clear z a0 a1 a2 a3 b0 b1 b2 b3 d0 d1 d2 d3
        clear hwu1
        go_wp2_with fail
        rw [rounds_succ]
        obtain ⟨z, a0, a1, a2, a3, b0, b1, b2, b3, d0, d1, d2, d3⟩ := HSS.out u1 HBu1.out
        go_wp2_with fail
        go_quiet (fail)
        obtain ⟨w4, hww4⟩ : ∃ x, u1.drewN nq = x := ⟨_, rfl⟩
        rw [hww4]
        have HBw4 := Lib.hid (show Below w3.heap.size w3 w4 by rw [← hww4]; exact HBu1.out.trans ((below_drewN u1 nq).mono HBu1.out.size))
        clear z a0 a1 a2 a3 b0 b1 b2 b3 d0 d1 d2 d3
        clear hww4
        have HG4 := Lib.hid HBw4.out.size
        have hb5 := HBw4.out.alloc HBw4.out.size (.cells #[.int .i64 2, .int .i64 0, .int .i64 0, .int .i64 0, .int .i64 0, .int .i64 0, .int .i64 0, .int .i64 0, .int .i64 0, .int .i64 0] 25)
        have hb6 := hb5.alloc hb5.size (.cells #[.int .i64 0, .int .i64 0, .int .i64 0] 71)
        have hr6 := (Below.heap_alloc (w4.alloc (.cells #[.int .i64 2, .int .i64 0, .int .i64 0, .int .i64 0, .int .i64 0, .int .i64 0, .int .i64 0, .int .i64 0, .int .i64 0, .int .i64 0] 25)) (.cells #[.int .i64 0, .int .i64 0, .int .i64 0] 71) w4.heap.size (by simp)).trans (heap_alloc_new w4 (.cells #[.int .i64 2, .int .i64 0, .int .i64 0, .int .i64 0, .int .i64 0, .int .i64 0, .int .i64 0, .int .i64 0, .int .i64 0, .int .i64 0] 25))
        have hv6 := heap_new2 w4 (.cells #[.int .i64 2, .int .i64 0, .int .i64 0, .int .i64 0, .int .i64 0, .int .i64 0, .int .i64 0, .int .i64 0, .int .i64 0, .int .i64 0] 25) (.cells #[.int .i64 0, .int .i64 0, .int .i64 0] 71)
        obtain ⟨w6, hw6⟩ : ∃ x, (w4.alloc (.cells #[.int .i64 2, .int .i64 0, .int .i64 0, .int .i64 0, .int .i64 0, .int .i64 0, .int .i64 0, .int .i64 0, .int .i64 0, .int .i64 0] 25)).alloc (.cells #[.int .i64 0, .int .i64 0, .int .i64 0] 71) = x := ⟨_, rfl⟩
        rw [hw6] at hb6 hr6 hv6
        have HB6 := Lib.hid hb6
        have HR6 := Lib.hid hr6
        have HV6 := Lib.hid hv6
        have HW6 := Lib.hid hw6
        have hgt := HBw4.out.size
        clear hb5 hb6 hr6 hv6 hw6
        go_wp2_with fail
        rw [HW6.out]
        refine wp_loop_rounds 4 ?_
        rw [rounds_succ]
        obtain ⟨z, a0, a1, a2, a3, b0, b1, b2, b3, d0, d1, d2, d3⟩ := HSS.out w6 HB6.out
        have cv := cell_blk HV6.out 0 (v := .int .i64 0) rfl
        have fv := frz_blk HV6.out 0
        go_wp2_with fail
        refine (HNa.out _).mono ?_
        rintro e w' ⟨rfl, rfl⟩
        clear z a0 a1 a2 a3 b0 b1 b2 b3 d0 d1 d2 d3
        go_wp2_with fail
        have hv := heap_setCell_same w6 (w4.heap.size + 1) 0 _ _ (.int .i64 xa) HV6.out
        have hr := (heap_setCell_other w6 ⟨w4.heap.size + 1, 0, none⟩ w4.heap.size (.int .i64 xa) (by simp)).trans HR6.out
        have hb := HB6.out.setCell (p := ⟨w4.heap.size + 1, 0, none⟩) (by have := HG4.out; show w3.heap.size ≤ w4.heap.size + 1; omega) (.int .i64 xa)
        obtain ⟨v1, hnx⟩ : ∃ x, w6.setCell ⟨w4.heap.size + 1, 0, none⟩ (.int .i64 xa) = x := ⟨_, rfl⟩
        rw [hnx] at hv hr hb ⊢
        have HVv1 : Hid (v1.heap[w4.heap.size + 1]? = some (.cells #[.int .i64 xa, .int .i64 0, .int .i64 0] 71 (0, 0))) := hv
        have HRv1 := Lib.hid hr
        have HBv1 := Lib.hid hb
        clear hv hr hb hnx cv fv
        rw [rounds_succ]
        obtain ⟨z, a0, a1, a2, a3, b0, b1, b2, b3, d0, d1, d2, d3⟩ := HSS.out v1 HBv1.out
        have cv := cell_blk HVv1.out 1 (v := .int .i64 0) rfl
        have fv := frz_blk HVv1.out 1
        go_wp2_with fail
        refine (HNb.out _).mono ?_
        rintro e w' ⟨rfl, rfl⟩
        clear z a0 a1 a2 a3 b0 b1 b2 b3 d0 d1 d2 d3
        go_wp2_with fail
        have hv := heap_setCell_same v1 (w4.heap.size + 1) 1 _ _ (.int .i64 xb) HVv1.out
        have hr := (heap_setCell_other v1 ⟨w4.heap.size + 1, 1, none⟩ w4.heap.size (.int .i64 xb) (by simp)).trans HRv1.out
        have hb := HBv1.out.setCell (p := ⟨w4.heap.size + 1, 1, none⟩) (by have := HG4.out; show w3.heap.size ≤ w4.heap.size + 1; omega) (.int .i64 xb)
        obtain ⟨v2, hnx⟩ : ∃ x, v1.setCell ⟨w4.heap.size + 1, 1, none⟩ (.int .i64 xb) = x := ⟨_, rfl⟩
        rw [hnx] at hv hr hb ⊢
        have HVv2 : Hid (v2.heap[w4.heap.size + 1]? = some (.cells #[.int .i64 xa, .int .i64 xb, .int .i64 0] 71 (0, 0))) := hv
        have HRv2 := Lib.hid hr
        have HBv2 := Lib.hid hb
        clear hv hr hb hnx cv fv
        rw [rounds_succ]
        obtain ⟨z, a0, a1, a2, a3, b0, b1, b2, b3, d0, d1, d2, d3⟩ := HSS.out v2 HBv2.out
        go_wp2_with fail
        refine (HNc.out _).mono ?_
        rintro e w' ⟨rfl, rfl⟩
        clear z a0 a1 a2 a3 b0 b1 b2 b3 d0 d1 d2 d3
        have hz := (HSS.out v2 HBv2.out).1
        have HZ := Lib.hid hz
        have r0 := cell_blk hz 0 (v := .int .i64 0) rfl
        have f0 := frz_blk hz 0
        have r1 := cell_blk hz 1 (v := .int .i64 0) rfl
        have f1 := frz_blk hz 1
        have r2 := cell_blk hz 2 (v := .int .i64 0) rfl
        have f2 := frz_blk hz 2
        have r3 := cell_blk hz 3 (v := .int .i64 0) rfl
        have f3 := frz_blk hz 3
        have r4 := cell_blk hz 4 (v := .int .i64 0) rfl
        have f4 := frz_blk hz 4
        have r5 := cell_blk hz 5 (v := .int .i64 0) rfl
        have f5 := frz_blk hz 5
        have r6 := cell_blk hz 6 (v := .int .i64 0) rfl
        have f6 := frz_blk hz 6
        have r7 := cell_blk hz 7 (v := .int .i64 0) rfl
        have f7 := frz_blk hz 7
        have r8 := cell_blk hz 8 (v := .int .i64 0) rfl
        have f8 := frz_blk hz 8
        have r9 := cell_blk hz 9 (v := .int .i64 0) rfl
        have f9 := frz_blk hz 9
        clear hz
        go_wp2_with fail
        refine bodyPost_ret (results_cell2 rfl _ _ w.heap.size _ _ (0, 0) _ rfl (set10 HZ.out) Tryz.underlying25 rfl (by kernel_rfl)) rfl ?_
        exact ⟨rfl, below_set10 (HB3.out.trans (HBv2.out.mono HB3.out.size)) (Nat.le_refl _)⟩
      · skip
        cases hm : mayR ⟨2, xa, xb, xc, 0, 0, 0, 0, 0, 0⟩
        · rw [may_or_no (true && (true && true)) _ (.inr hm), ans2_none]
          rw [hm] at HMY
          clear hm
          unfold rv at *
          simp only at HMY ⊢
          go_enter Tryz.func15, Tryz.ntmps15
          go_wp2_with fail
          refine (HC.out _).mono ?_
          rintro e w1 ⟨A, cp, rfl, hb1, hrd⟩
          obtain ⟨ad, rfl, hcell⟩ := hrd (by rw [hlenL]; omega)
          have hb2 := (HB0.out.trans (hb1.mono HB0.out.size)).alloc (HB0.out.trans (hb1.mono HB0.out.size)).size (.cells #[.int .i64 2, .int .i64 3, .int .i64 4, .int .i64 3] 3)
          have hb3 := hb2.alloc hb2.size (.cells #[.string { data := #[119, 101, 101, 107, 100, 97, 121] }, .string { data := #[100, 97, 121] }, .string { data := #[110, 116, 104] }, .string { data := #[100, 97, 116, 101, 115] }] 9)
          have hz1 := (hb1.block w.heap.size hlt0).trans G0.out
          have hlz1 := (Array.getElem?_eq_some_iff.1 hz1).1
          have hz2 := (Below.heap_alloc w1 (.cells #[.int .i64 2, .int .i64 3, .int .i64 4, .int .i64 3] 3) w.heap.size hlz1).trans hz1
          have hgz := (Below.heap_alloc (w1.alloc (.cells #[.int .i64 2, .int .i64 3, .int .i64 4, .int .i64 3] 3)) (.cells #[.string { data := #[119, 101, 101, 107, 100, 97, 121] }, .string { data := #[100, 97, 121] }, .string { data := #[110, 116, 104] }, .string { data := #[100, 97, 116, 101, 115] }] 9) w.heap.size (Array.getElem?_eq_some_iff.1 hz2).1).trans hz2
          have hgw := (Below.heap_alloc (w1.alloc (.cells #[.int .i64 2, .int .i64 3, .int .i64 4, .int .i64 3] 3)) (.cells #[.string { data := #[119, 101, 101, 107, 100, 97, 121] }, .string { data := #[100, 97, 121] }, .string { data := #[110, 116, 104] }, .string { data := #[100, 97, 116, 101, 115] }] 9) w1.heap.size (by simp)).trans (heap_alloc_new w1 (.cells #[.int .i64 2, .int .i64 3, .int .i64 4, .int .i64 3] 3))
          have hgs := heap_new2 w1 (.cells #[.int .i64 2, .int .i64 3, .int .i64 4, .int .i64 3] 3) (.cells #[.string { data := #[119, 101, 101, 107, 100, 97, 121] }, .string { data := #[100, 97, 121] }, .string { data := #[110, 116, 104] }, .string { data := #[100, 97, 116, 101, 115] }] 9)
          have hr3 := (hrd.alloc (.cells #[.int .i64 2, .int .i64 3, .int .i64 4, .int .i64 3] 3)).alloc (.cells #[.string { data := #[119, 101, 101, 107, 100, 97, 121] }, .string { data := #[100, 97, 121] }, .string { data := #[110, 116, 104] }, .string { data := #[100, 97, 116, 101, 115] }] 9)
          obtain ⟨w3, hw3⟩ : ∃ w3, (w1.alloc (.cells #[.int .i64 2, .int .i64 3, .int .i64 4, .int .i64 3] 3)).alloc (.cells #[.string { data := #[119, 101, 101, 107, 100, 97, 121] }, .string { data := #[100, 97, 121] }, .string { data := #[110, 116, 104] }, .string { data := #[100, 97, 116, 101, 115] }] 9) = w3 := ⟨_, rfl⟩
          rw [hw3] at hb3 hgz hgw hgs hr3
          have hlz := (Array.getElem?_eq_some_iff.1 hgz).1
          have hlw := (Array.getElem?_eq_some_iff.1 hgw).1
          have hls := (Array.getElem?_eq_some_iff.1 hgs).1
          have hp3 : ∀ W, Below w3.heap.size w3 W → W.cell? ad = some (.string s0) ∧ W.cell? { block := ad.block, off := ad.off + 1 } = some (.string s1) ∧ W.cell? { block := ad.block, off := ad.off + 2 } = some (.string s2) ∧ W.cell? { block := ad.block, off := ad.off + 3 } = some (.string s3) := fun W hb => by
            obtain ⟨ad', e, hc'⟩ := (hr3.below hb) (by rw [hlenL]; omega)
            injection e with e
            subst e
            exact HCL.out W _ hc'
          have HSS := Lib.hid (show ∀ W, Below w3.heap.size w3 W → W.heap[w.heap.size]? = some (.cells #[.int .i64 0, .int .i64 0, .int .i64 0, .int .i64 0, .int .i64 0, .int .i64 0, .int .i64 0, .int .i64 0, .int .i64 0, .int .i64 0] 25 (0, 0)) ∧ W.cell? ⟨w1.heap.size, 0, none⟩ = some (.int .i64 2) ∧ W.cell? ⟨w1.heap.size, 1, none⟩ = some (.int .i64 3) ∧ W.cell? ⟨w1.heap.size, 2, none⟩ = some (.int .i64 4) ∧ W.cell? ⟨w1.heap.size, 3, none⟩ = some (.int .i64 3) ∧ W.cell? ⟨w1.heap.size + 1, 0, none⟩ = some (.string { data := #[119, 101, 101, 107, 100, 97, 121] }) ∧ W.cell? ⟨w1.heap.size + 1, 1, none⟩ = some (.string { data := #[100, 97, 121] }) ∧ W.cell? ⟨w1.heap.size + 1, 2, none⟩ = some (.string { data := #[110, 116, 104] }) ∧ W.cell? ⟨w1.heap.size + 1, 3, none⟩ = some (.string { data := #[100, 97, 116, 101, 115] }) ∧ W.cell? ad = some (.string s0) ∧ W.cell? { block := ad.block, off := ad.off + 1 } = some (.string s1) ∧ W.cell? { block := ad.block, off := ad.off + 2 } = some (.string s2) ∧ W.cell? { block := ad.block, off := ad.off + 3 } = some (.string s3) from fun W hb => ⟨(hb.block _ hlz).trans hgz, cell_blk ((hb.block _ hlw).trans hgw) 0 rfl, cell_blk ((hb.block _ hlw).trans hgw) 1 rfl, cell_blk ((hb.block _ hlw).trans hgw) 2 rfl, cell_blk ((hb.block _ hlw).trans hgw) 3 rfl, cell_blk ((hb.block _ hls).trans hgs) 0 rfl, cell_blk ((hb.block _ hls).trans hgs) 1 rfl, cell_blk ((hb.block _ hls).trans hgs) 2 rfl, cell_blk ((hb.block _ hls).trans hgs) 3 rfl, hp3 W hb⟩)
          have HB3 := Lib.hid hb3
          have HW3 := Lib.hid hw3
          clear hb1 hb2 hb3 hz1 hlz1 hz2 hgz hgw hgs hr3 hw3 hlz hlw hls hp3 hrd hcell HC
          go_wp2_with fail
          rw [HW3.out]
          refine wp_loop_rounds 3 ?_
          rw [rounds_succ]
          obtain ⟨z, a0, a1, a2, a3, b0, b1, b2, b3, d0, d1, d2, d3⟩ := HSS.out w3 (Below.refl w3.heap.size w3)
          go_wp2_with fail
          go_quiet (fail)
          obtain ⟨u0, hwu0⟩ : ∃ x, w3.drewN nq = x := ⟨_, rfl⟩
          rw [hwu0]
          have HBu0 := Lib.hid (show Below w3.heap.size w3 u0 by rw [← hwu0]; exact (Below.refl w3.heap.size w3).trans ((below_drewN w3 nq).mono (Below.refl w3.heap.size w3).size))
          clear z a0 a1 a2 a3 b0 b1 b2 b3 d0 d1 d2 d3
          clear hwu0
          go_wp2_with fail
          rw [rounds_succ]
          obtain ⟨z, a0, a1, a2, a3, b0, b1, b2, b3, d0, d1, d2, d3⟩ := HSS.out u0 HBu0.out
          go_wp2_with fail
          go_quiet (fail)
          obtain ⟨u1, hwu1⟩ : ∃ x, u0.drewN nq = x := ⟨_, rfl⟩
          rw [hwu1]
          have HBu1 := Lib.hid (show Below w3.heap.size w3 u1 by rw [← hwu1]; exact HBu0.out.trans ((below_drewN u0 nq).mono HBu0.out.size))
          clear z a0 a1 a2 a3 b0 b1 b2 b3 d0 d1 d2 d3
          clear hwu1
          go_wp2_with fail
          rw [rounds_succ]
          obtain ⟨z, a0, a1, a2, a3, b0, b1, b2, b3, d0, d1, d2, d3⟩ := HSS.out u1 HBu1.out
          go_wp2_with fail
          go_quiet (fail)
          obtain ⟨w4, hww4⟩ : ∃ x, u1.drewN nq = x := ⟨_, rfl⟩
          rw [hww4]
          have HBw4 := Lib.hid (show Below w3.heap.size w3 w4 by rw [← hww4]; exact HBu1.out.trans ((below_drewN u1 nq).mono HBu1.out.size))
          clear z a0 a1 a2 a3 b0 b1 b2 b3 d0 d1 d2 d3
          clear hww4
          have HG4 := Lib.hid HBw4.out.size
          have hb5 := HBw4.out.alloc HBw4.out.size (.cells #[.int .i64 2, .int .i64 0, .int .i64 0, .int .i64 0, .int .i64 0, .int .i64 0, .int .i64 0, .int .i64 0, .int .i64 0, .int .i64 0] 25)
          have hb6 := hb5.alloc hb5.size (.cells #[.int .i64 0, .int .i64 0, .int .i64 0] 71)
          have hr6 := (Below.heap_alloc (w4.alloc (.cells #[.int .i64 2, .int .i64 0, .int .i64 0, .int .i64 0, .int .i64 0, .int .i64 0, .int .i64 0, .int .i64 0, .int .i64 0, .int .i64 0] 25)) (.cells #[.int .i64 0, .int .i64 0, .int .i64 0] 71) w4.heap.size (by simp)).trans (heap_alloc_new w4 (.cells #[.int .i64 2, .int .i64 0, .int .i64 0, .int .i64 0, .int .i64 0, .int .i64 0, .int .i64 0, .int .i64 0, .int .i64 0, .int .i64 0] 25))
          have hv6 := heap_new2 w4 (.cells #[.int .i64 2, .int .i64 0, .int .i64 0, .int .i64 0, .int .i64 0, .int .i64 0, .int .i64 0, .int .i64 0, .int .i64 0, .int .i64 0] 25) (.cells #[.int .i64 0, .int .i64 0, .int .i64 0] 71)
          obtain ⟨w6, hw6⟩ : ∃ x, (w4.alloc (.cells #[.int .i64 2, .int .i64 0, .int .i64 0, .int .i64 0, .int .i64 0, .int .i64 0, .int .i64 0, .int .i64 0, .int .i64 0, .int .i64 0] 25)).alloc (.cells #[.int .i64 0, .int .i64 0, .int .i64 0] 71) = x := ⟨_, rfl⟩
          rw [hw6] at hb6 hr6 hv6
          have HB6 := Lib.hid hb6
          have HR6 := Lib.hid hr6
          have HV6 := Lib.hid hv6
          have HW6 := Lib.hid hw6
          have hgt := HBw4.out.size
          clear hb5 hb6 hr6 hv6 hw6
          go_wp2_with fail
          rw [HW6.out]
          refine wp_loop_rounds 4 ?_
          rw [rounds_succ]
          obtain ⟨z, a0, a1, a2, a3, b0, b1, b2, b3, d0, d1, d2, d3⟩ := HSS.out w6 HB6.out
          have cv := cell_blk HV6.out 0 (v := .int .i64 0) rfl
          have fv := frz_blk HV6.out 0
          go_wp2_with fail
          refine (HNa.out _).mono ?_
          rintro e w' ⟨rfl, rfl⟩
          clear z a0 a1 a2 a3 b0 b1 b2 b3 d0 d1 d2 d3
          go_wp2_with fail
          have hv := heap_setCell_same w6 (w4.heap.size + 1) 0 _ _ (.int .i64 xa) HV6.out
          have hr := (heap_setCell_other w6 ⟨w4.heap.size + 1, 0, none⟩ w4.heap.size (.int .i64 xa) (by simp)).trans HR6.out
          have hb := HB6.out.setCell (p := ⟨w4.heap.size + 1, 0, none⟩) (by have := HG4.out; show w3.heap.size ≤ w4.heap.size + 1; omega) (.int .i64 xa)
          obtain ⟨v1, hnx⟩ : ∃ x, w6.setCell ⟨w4.heap.size + 1, 0, none⟩ (.int .i64 xa) = x := ⟨_, rfl⟩
          rw [hnx] at hv hr hb ⊢
          have HVv1 : Hid (v1.heap[w4.heap.size + 1]? = some (.cells #[.int .i64 xa, .int .i64 0, .int .i64 0] 71 (0, 0))) := hv
          have HRv1 := Lib.hid hr
          have HBv1 := Lib.hid hb
          clear hv hr hb hnx cv fv
          rw [rounds_succ]
          obtain ⟨z, a0, a1, a2, a3, b0, b1, b2, b3, d0, d1, d2, d3⟩ := HSS.out v1 HBv1.out
          have cv := cell_blk HVv1.out 1 (v := .int .i64 0) rfl
          have fv := frz_blk HVv1.out 1
          go_wp2_with fail
          refine (HNb.out _).mono ?_
          rintro e w' ⟨rfl, rfl⟩
          clear z a0 a1 a2 a3 b0 b1 b2 b3 d0 d1 d2 d3
          go_wp2_with fail
          have hv := heap_setCell_same v1 (w4.heap.size + 1) 1 _ _ (.int .i64 xb) HVv1.out
          have hr := (heap_setCell_other v1 ⟨w4.heap.size + 1, 1, none⟩ w4.heap.size (.int .i64 xb) (by simp)).trans HRv1.out
          have hb := HBv1.out.setCell (p := ⟨w4.heap.size + 1, 1, none⟩) (by have := HG4.out; show w3.heap.size ≤ w4.heap.size + 1; omega) (.int .i64 xb)
          obtain ⟨v2, hnx⟩ : ∃ x, v1.setCell ⟨w4.heap.size + 1, 1, none⟩ (.int .i64 xb) = x := ⟨_, rfl⟩
          rw [hnx] at hv hr hb ⊢
          have HVv2 : Hid (v2.heap[w4.heap.size + 1]? = some (.cells #[.int .i64 xa, .int .i64 xb, .int .i64 0] 71 (0, 0))) := hv
          have HRv2 := Lib.hid hr
          have HBv2 := Lib.hid hb
          clear hv hr hb hnx cv fv
          rw [rounds_succ]
          obtain ⟨z, a0, a1, a2, a3, b0, b1, b2, b3, d0, d1, d2, d3⟩ := HSS.out v2 HBv2.out
          have cv := cell_blk HVv2.out 2 (v := .int .i64 0) rfl
          have fv := frz_blk HVv2.out 2
          go_wp2_with fail
          refine (HNc.out _).mono ?_
          rintro e w' ⟨rfl, rfl⟩
          clear z a0 a1 a2 a3 b0 b1 b2 b3 d0 d1 d2 d3
          go_wp2_with fail
          have hv := heap_setCell_same v2 (w4.heap.size + 1) 2 _ _ (.int .i64 xc) HVv2.out
          have hr := (heap_setCell_other v2 ⟨w4.heap.size + 1, 2, none⟩ w4.heap.size (.int .i64 xc) (by simp)).trans HRv2.out
          have hb := HBv2.out.setCell (p := ⟨w4.heap.size + 1, 2, none⟩) (by have := HG4.out; show w3.heap.size ≤ w4.heap.size + 1; omega) (.int .i64 xc)
          obtain ⟨v3, hnx⟩ : ∃ x, v2.setCell ⟨w4.heap.size + 1, 2, none⟩ (.int .i64 xc) = x := ⟨_, rfl⟩
          rw [hnx] at hv hr hb ⊢
          have HVv3 : Hid (v3.heap[w4.heap.size + 1]? = some (.cells #[.int .i64 xa, .int .i64 xb, .int .i64 xc] 71 (0, 0))) := hv
          have HRv3 := Lib.hid hr
          have HBv3 := Lib.hid hb
          clear hv hr hb hnx cv fv
          rw [rounds_succ]
          have cv0 := cell_blk HVv3.out 0 (v := .int .i64 xa) rfl
          have cv1 := cell_blk HVv3.out 1 (v := .int .i64 xb) rfl
          have cv2 := cell_blk HVv3.out 2 (v := .int .i64 xc) rfl
          have c0 := cell_blk HRv3.out 0 (v := .int .i64 2) rfl
          have c1 := cell_blk HRv3.out 1 (v := .int .i64 0) rfl
          have c2 := cell_blk HRv3.out 2 (v := .int .i64 0) rfl
          have c3 := cell_blk HRv3.out 3 (v := .int .i64 0) rfl
          have c4 := cell_blk HRv3.out 4 (v := .int .i64 0) rfl
          have c5 := cell_blk HRv3.out 5 (v := .int .i64 0) rfl
          have c6 := cell_blk HRv3.out 6 (v := .int .i64 0) rfl
          have c7 := cell_blk HRv3.out 7 (v := .int .i64 0) rfl
          have c8 := cell_blk HRv3.out 8 (v := .int .i64 0) rfl
          have c9 := cell_blk HRv3.out 9 (v := .int .i64 0) rfl
          have f1 := frz_blk HRv3.out 1
          have f2 := frz_blk HRv3.out 2
          have f3 := frz_blk HRv3.out 3
          go_wp2_with fail
          first
          | go_region_with fail
          | fail
          all_goals
            have hr8 : (((v3.setCell ⟨w4.heap.size, 1, none⟩ (.int .i64 xa)).setCell ⟨w4.heap.size, 2, none⟩ (.int .i64 xb)).setCell ⟨w4.heap.size, 3, none⟩ (.int .i64 xc)).drew.heap[w4.heap.size]? = _ := (heap_setCell_same ((v3.setCell ⟨w4.heap.size, 1, none⟩ (.int .i64 xa)).setCell ⟨w4.heap.size, 2, none⟩ (.int .i64 xb)) w4.heap.size 3 _ _ (.int .i64 xc) (heap_setCell_same (v3.setCell ⟨w4.heap.size, 1, none⟩ (.int .i64 xa)) w4.heap.size 2 _ _ (.int .i64 xb) (heap_setCell_same v3 w4.heap.size 1 _ _ (.int .i64 xa) HRv3.out)))
            have hb8 := (((HBv3.out.setCell (p := ⟨w4.heap.size, 1, none⟩) HG4.out (.int .i64 xa)).setCell (p := ⟨w4.heap.size, 2, none⟩) HG4.out (.int .i64 xb)).setCell (p := ⟨w4.heap.size, 3, none⟩) HG4.out (.int .i64 xc)).drew
            obtain ⟨w8, hw8⟩ : ∃ x, (((v3.setCell ⟨w4.heap.size, 1, none⟩ (.int .i64 xa)).setCell ⟨w4.heap.size, 2, none⟩ (.int .i64 xb)).setCell ⟨w4.heap.size, 3, none⟩ (.int .i64 xc)).drew = x := ⟨_, rfl⟩
            rw [hw8] at hr8 hb8 ⊢
            have HR8 : Hid (w8.heap[w4.heap.size]? = some (.cells #[.int .i64 2, .int .i64 xa, .int .i64 xb, .int .i64 xc, .int .i64 0, .int .i64 0, .int .i64 0, .int .i64 0, .int .i64 0, .int .i64 0] 25 (0, 0))) := hr8
            have HB8 := Lib.hid hb8
            clear hr8 hb8 hw8 cv0 cv1 cv2 c0 c1 c2 c3 c4 c5 c6 c7 c8 c9 f1 f2 f3
            have c0 := cell_blk HR8.out 0 (v := .int .i64 2) rfl
            have c1 := cell_blk HR8.out 1 (v := .int .i64 xa) rfl
            have c2 := cell_blk HR8.out 2 (v := .int .i64 xb) rfl
            have c3 := cell_blk HR8.out 3 (v := .int .i64 xc) rfl
            have c4 := cell_blk HR8.out 4 (v := .int .i64 0) rfl
            have c5 := cell_blk HR8.out 5 (v := .int .i64 0) rfl
            have c6 := cell_blk HR8.out 6 (v := .int .i64 0) rfl
            have c7 := cell_blk HR8.out 7 (v := .int .i64 0) rfl
            have c8 := cell_blk HR8.out 8 (v := .int .i64 0) rfl
            have c9 := cell_blk HR8.out 9 (v := .int .i64 0) rfl
            go_wp2_with fail
            clear c0 c1 c2 c3 c4 c5 c6 c7 c8 c9
            refine (HMY.out _).mono ?_
            rintro e w9 ⟨rfl, hb9⟩
            have HB9 := Lib.hid (HB8.out.trans (hb9.mono HB8.out.size))
            clear hb9
            have hz := (HSS.out w9 HB9.out).1
            have HZ := Lib.hid hz
            have r0 := cell_blk hz 0 (v := .int .i64 0) rfl
            have f0 := frz_blk hz 0
            have r1 := cell_blk hz 1 (v := .int .i64 0) rfl
            have f1 := frz_blk hz 1
            have r2 := cell_blk hz 2 (v := .int .i64 0) rfl
            have f2 := frz_blk hz 2
            have r3 := cell_blk hz 3 (v := .int .i64 0) rfl
            have f3 := frz_blk hz 3
            have r4 := cell_blk hz 4 (v := .int .i64 0) rfl
            have f4 := frz_blk hz 4
            have r5 := cell_blk hz 5 (v := .int .i64 0) rfl
            have f5 := frz_blk hz 5
            have r6 := cell_blk hz 6 (v := .int .i64 0) rfl
            have f6 := frz_blk hz 6
            have r7 := cell_blk hz 7 (v := .int .i64 0) rfl
            have f7 := frz_blk hz 7
            have r8 := cell_blk hz 8 (v := .int .i64 0) rfl
            have f8 := frz_blk hz 8
            have r9 := cell_blk hz 9 (v := .int .i64 0) rfl
            have f9 := frz_blk hz 9
            clear hz
            go_wp2_with fail
            refine bodyPost_ret (results_cell2 rfl _ _ w.heap.size _ _ (0, 0) _ rfl (set10 HZ.out) Tryz.underlying25 rfl (by kernel_rfl)) rfl ?_
            exact ⟨rfl, below_set10 (HB3.out.trans (HB9.out.mono HB3.out.size)) (Nat.le_refl _)⟩
        · rw [may_or_yes (true && (true && true)) _ rfl hm, ans2_some]
          rw [hm] at HMY
          clear hm
          unfold rv at *
          simp only at HMY ⊢
          go_enter Tryz.func15, Tryz.ntmps15
          go_wp2_with fail
          refine (HC.out _).mono ?_
          rintro e w1 ⟨A, cp, rfl, hb1, hrd⟩
          obtain ⟨ad, rfl, hcell⟩ := hrd (by rw [hlenL]; omega)
          have hb2 := (HB0.out.trans (hb1.mono HB0.out.size)).alloc (HB0.out.trans (hb1.mono HB0.out.size)).size (.cells #[.int .i64 2, .int .i64 3, .int .i64 4, .int .i64 3] 3)
          have hb3 := hb2.alloc hb2.size (.cells #[.string { data := #[119, 101, 101, 107, 100, 97, 121] }, .string { data := #[100, 97, 121] }, .string { data := #[110, 116, 104] }, .string { data := #[100, 97, 116, 101, 115] }] 9)
          have hz1 := (hb1.block w.heap.size hlt0).trans G0.out
          have hlz1 := (Array.getElem?_eq_some_iff.1 hz1).1
          have hz2 := (Below.heap_alloc w1 (.cells #[.int .i64 2, .int .i64 3, .int .i64 4, .int .i64 3] 3) w.heap.size hlz1).trans hz1
          have hgz := (Below.heap_alloc (w1.alloc (.cells #[.int .i64 2, .int .i64 3, .int .i64 4, .int .i64 3] 3)) (.cells #[.string { data := #[119, 101, 101, 107, 100, 97, 121] }, .string { data := #[100, 97, 121] }, .string { data := #[110, 116, 104] }, .string { data := #[100, 97, 116, 101, 115] }] 9) w.heap.size (Array.getElem?_eq_some_iff.1 hz2).1).trans hz2
          have hgw := (Below.heap_alloc (w1.alloc (.cells #[.int .i64 2, .int .i64 3, .int .i64 4, .int .i64 3] 3)) (.cells #[.string { data := #[119, 101, 101, 107, 100, 97, 121] }, .string { data := #[100, 97, 121] }, .string { data := #[110, 116, 104] }, .string { data := #[100, 97, 116, 101, 115] }] 9) w1.heap.size (by simp)).trans (heap_alloc_new w1 (.cells #[.int .i64 2, .int .i64 3, .int .i64 4, .int .i64 3] 3))
          have hgs := heap_new2 w1 (.cells #[.int .i64 2, .int .i64 3, .int .i64 4, .int .i64 3] 3) (.cells #[.string { data := #[119, 101, 101, 107, 100, 97, 121] }, .string { data := #[100, 97, 121] }, .string { data := #[110, 116, 104] }, .string { data := #[100, 97, 116, 101, 115] }] 9)
          have hr3 := (hrd.alloc (.cells #[.int .i64 2, .int .i64 3, .int .i64 4, .int .i64 3] 3)).alloc (.cells #[.string { data := #[119, 101, 101, 107, 100, 97, 121] }, .string { data := #[100, 97, 121] }, .string { data := #[110, 116, 104] }, .string { data := #[100, 97, 116, 101, 115] }] 9)
          obtain ⟨w3, hw3⟩ : ∃ w3, (w1.alloc (.cells #[.int .i64 2, .int .i64 3, .int .i64 4, .int .i64 3] 3)).alloc (.cells #[.string { data := #[119, 101, 101, 107, 100, 97, 121] }, .string { data := #[100, 97, 121] }, .string { data := #[110, 116, 104] }, .string { data := #[100, 97, 116, 101, 115] }] 9) = w3 := ⟨_, rfl⟩
          rw [hw3] at hb3 hgz hgw hgs hr3
          have hlz := (Array.getElem?_eq_some_iff.1 hgz).1
          have hlw := (Array.getElem?_eq_some_iff.1 hgw).1
          have hls := (Array.getElem?_eq_some_iff.1 hgs).1
          have hp3 : ∀ W, Below w3.heap.size w3 W → W.cell? ad = some (.string s0) ∧ W.cell? { block := ad.block, off := ad.off + 1 } = some (.string s1) ∧ W.cell? { block := ad.block, off := ad.off + 2 } = some (.string s2) ∧ W.cell? { block := ad.block, off := ad.off + 3 } = some (.string s3) := fun W hb => by
            obtain ⟨ad', e, hc'⟩ := (hr3.below hb) (by rw [hlenL]; omega)
            injection e with e
            subst e
            exact HCL.out W _ hc'
          have HSS := Lib.hid (show ∀ W, Below w3.heap.size w3 W → W.heap[w.heap.size]? = some (.cells #[.int .i64 0, .int .i64 0, .int .i64 0, .int .i64 0, .int .i64 0, .int .i64 0, .int .i64 0, .int .i64 0, .int .i64 0, .int .i64 0] 25 (0, 0)) ∧ W.cell? ⟨w1.heap.size, 0, none⟩ = some (.int .i64 2) ∧ W.cell? ⟨w1.heap.size, 1, none⟩ = some (.int .i64 3) ∧ W.cell? ⟨w1.heap.size, 2, none⟩ = some (.int .i64 4) ∧ W.cell? ⟨w1.heap.size, 3, none⟩ = some (.int .i64 3) ∧ W.cell? ⟨w1.heap.size + 1, 0, none⟩ = some (.string { data := #[119, 101, 101, 107, 100, 97, 121] }) ∧ W.cell? ⟨w1.heap.size + 1, 1, none⟩ = some (.string { data := #[100, 97, 121] }) ∧ W.cell? ⟨w1.heap.size + 1, 2, none⟩ = some (.string { data := #[110, 116, 104] }) ∧ W.cell? ⟨w1.heap.size + 1, 3, none⟩ = some (.string { data := #[100, 97, 116, 101, 115] }) ∧ W.cell? ad = some (.string s0) ∧ W.cell? { block := ad.block, off := ad.off + 1 } = some (.string s1) ∧ W.cell? { block := ad.block, off := ad.off + 2 } = some (.string s2) ∧ W.cell? { block := ad.block, off := ad.off + 3 } = some (.string s3) from fun W hb => ⟨(hb.block _ hlz).trans hgz, cell_blk ((hb.block _ hlw).trans hgw) 0 rfl, cell_blk ((hb.block _ hlw).trans hgw) 1 rfl, cell_blk ((hb.block _ hlw).trans hgw) 2 rfl, cell_blk ((hb.block _ hlw).trans hgw) 3 rfl, cell_blk ((hb.block _ hls).trans hgs) 0 rfl, cell_blk ((hb.block _ hls).trans hgs) 1 rfl, cell_blk ((hb.block _ hls).trans hgs) 2 rfl, cell_blk ((hb.block _ hls).trans hgs) 3 rfl, hp3 W hb⟩)
          have HB3 := Lib.hid hb3
          have HW3 := Lib.hid hw3
          clear hb1 hb2 hb3 hz1 hlz1 hz2 hgz hgw hgs hr3 hw3 hlz hlw hls hp3 hrd hcell HC
          go_wp2_with fail
          rw [HW3.out]
          refine wp_loop_rounds 3 ?_
          rw [rounds_succ]
          obtain ⟨z, a0, a1, a2, a3, b0, b1, b2, b3, d0, d1, d2, d3⟩ := HSS.out w3 (Below.refl w3.heap.size w3)
          go_wp2_with fail
          go_quiet (fail)
          obtain ⟨u0, hwu0⟩ : ∃ x, w3.drewN nq = x := ⟨_, rfl⟩
          rw [hwu0]
          have HBu0 := Lib.hid (show Below w3.heap.size w3 u0 by rw [← hwu0]; exact (Below.refl w3.heap.size w3).trans ((below_drewN w3 nq).mono (Below.refl w3.heap.size w3).size))
          clear z a0 a1 a2 a3 b0 b1 b2 b3 d0 d1 d2 d3
          clear hwu0
          go_wp2_with fail
          rw [rounds_succ]
          obtain ⟨z, a0, a1, a2, a3, b0, b1, b2, b3, d0, d1, d2, d3⟩ := HSS.out u0 HBu0.out
          go_wp2_with fail
          go_quiet (fail)
          obtain ⟨u1, hwu1⟩ : ∃ x, u0.drewN nq = x := ⟨_, rfl⟩
          rw [hwu1]
          have HBu1 := Lib.hid (show Below w3.heap.size w3 u1 by rw [← hwu1]; exact HBu0.out.trans ((below_drewN u0 nq).mono HBu0.out.size))
          clear z a0 a1 a2 a3 b0 b1 b2 b3 d0 d1 d2 d3
          clear hwu1
          go_wp2_with fail
          rw [rounds_succ]
          obtain ⟨z, a0, a1, a2, a3, b0, b1, b2, b3, d0, d1, d2, d3⟩ := HSS.out u1 HBu1.out
          go_wp2_with fail
          go_quiet (fail)
          obtain ⟨w4, hww4⟩ : ∃ x, u1.drewN nq = x := ⟨_, rfl⟩
          rw [hww4]
          have HBw4 := Lib.hid (show Below w3.heap.size w3 w4 by rw [← hww4]; exact HBu1.out.trans ((below_drewN u1 nq).mono HBu1.out.size))
          clear z a0 a1 a2 a3 b0 b1 b2 b3 d0 d1 d2 d3
          clear hww4
          have HG4 := Lib.hid HBw4.out.size
          have hb5 := HBw4.out.alloc HBw4.out.size (.cells #[.int .i64 2, .int .i64 0, .int .i64 0, .int .i64 0, .int .i64 0, .int .i64 0, .int .i64 0, .int .i64 0, .int .i64 0, .int .i64 0] 25)
          have hb6 := hb5.alloc hb5.size (.cells #[.int .i64 0, .int .i64 0, .int .i64 0] 71)
          have hr6 := (Below.heap_alloc (w4.alloc (.cells #[.int .i64 2, .int .i64 0, .int .i64 0, .int .i64 0, .int .i64 0, .int .i64 0, .int .i64 0, .int .i64 0, .int .i64 0, .int .i64 0] 25)) (.cells #[.int .i64 0, .int .i64 0, .int .i64 0] 71) w4.heap.size (by simp)).trans (heap_alloc_new w4 (.cells #[.int .i64 2, .int .i64 0, .int .i64 0, .int .i64 0, .int .i64 0, .int .i64 0, .int .i64 0, .int .i64 0, .int .i64 0, .int .i64 0] 25))
          have hv6 := heap_new2 w4 (.cells #[.int .i64 2, .int .i64 0, .int .i64 0, .int .i64 0, .int .i64 0, .int .i64 0, .int .i64 0, .int .i64 0, .int .i64 0, .int .i64 0] 25) (.cells #[.int .i64 0, .int .i64 0, .int .i64 0] 71)
          obtain ⟨w6, hw6⟩ : ∃ x, (w4.alloc (.cells #[.int .i64 2, .int .i64 0, .int .i64 0, .int .i64 0, .int .i64 0, .int .i64 0, .int .i64 0, .int .i64 0, .int .i64 0, .int .i64 0] 25)).alloc (.cells #[.int .i64 0, .int .i64 0, .int .i64 0] 71) = x := ⟨_, rfl⟩
          rw [hw6] at hb6 hr6 hv6
          have HB6 := Lib.hid hb6
          have HR6 := Lib.hid hr6
          have HV6 := Lib.hid hv6
          have HW6 := Lib.hid hw6
          have hgt := HBw4.out.size
          clear hb5 hb6 hr6 hv6 hw6
          go_wp2_with fail
          rw [HW6.out]
          refine wp_loop_rounds 4 ?_
          rw [rounds_succ]
          obtain ⟨z, a0, a1, a2, a3, b0, b1, b2, b3, d0, d1, d2, d3⟩ := HSS.out w6 HB6.out
          have cv := cell_blk HV6.out 0 (v := .int .i64 0) rfl
          have fv := frz_blk HV6.out 0
          go_wp2_with fail
          refine (HNa.out _).mono ?_
          rintro e w' ⟨rfl, rfl⟩
          clear z a0 a1 a2 a3 b0 b1 b2 b3 d0 d1 d2 d3
          go_wp2_with fail
          have hv := heap_setCell_same w6 (w4.heap.size + 1) 0 _ _ (.int .i64 xa) HV6.out
          have hr := (heap_setCell_other w6 ⟨w4.heap.size + 1, 0, none⟩ w4.heap.size (.int .i64 xa) (by simp)).trans HR6.out
          have hb := HB6.out.setCell (p := ⟨w4.heap.size + 1, 0, none⟩) (by have := HG4.out; show w3.heap.size ≤ w4.heap.size + 1; omega) (.int .i64 xa)
          obtain ⟨v1, hnx⟩ : ∃ x, w6.setCell ⟨w4.heap.size + 1, 0, none⟩ (.int .i64 xa) = x := ⟨_, rfl⟩
          rw [hnx] at hv hr hb ⊢
          have HVv1 : Hid (v1.heap[w4.heap.size + 1]? = some (.cells #[.int .i64 xa, .int .i64 0, .int .i64 0] 71 (0, 0))) := hv
          have HRv1 := Lib.hid hr
          have HBv1 := Lib.hid hb
          clear hv hr hb hnx cv fv
          rw [rounds_succ]
          obtain ⟨z, a0, a1, a2, a3, b0, b1, b2, b3, d0, d1, d2, d3⟩ := HSS.out v1 HBv1.out
          have cv := cell_blk HVv1.out 1 (v := .int .i64 0) rfl
          have fv := frz_blk HVv1.out 1
          go_wp2_with fail
          refine (HNb.out _).mono ?_
          rintro e w' ⟨rfl, rfl⟩
          clear z a0 a1 a2 a3 b0 b1 b2 b3 d0 d1 d2 d3
          go_wp2_with fail
          have hv := heap_setCell_same v1 (w4.heap.size + 1) 1 _ _ (.int .i64 xb) HVv1.out
          have hr := (heap_setCell_other v1 ⟨w4.heap.size + 1, 1, none⟩ w4.heap.size (.int .i64 xb) (by simp)).trans HRv1.out
          have hb := HBv1.out.setCell (p := ⟨w4.heap.size + 1, 1, none⟩) (by have := HG4.out; show w3.heap.size ≤ w4.heap.size + 1; omega) (.int .i64 xb)
          obtain ⟨v2, hnx⟩ : ∃ x, v1.setCell ⟨w4.heap.size + 1, 1, none⟩ (.int .i64 xb) = x := ⟨_, rfl⟩
          rw [hnx] at hv hr hb ⊢
          have HVv2 : Hid (v2.heap[w4.heap.size + 1]? = some (.cells #[.int .i64 xa, .int .i64 xb, .int .i64 0] 71 (0, 0))) := hv
          have HRv2 := Lib.hid hr
          have HBv2 := Lib.hid hb
          clear hv hr hb hnx cv fv
          rw [rounds_succ]
          obtain ⟨z, a0, a1, a2, a3, b0, b1, b2, b3, d0, d1, d2, d3⟩ := HSS.out v2 HBv2.out
          have cv := cell_blk HVv2.out 2 (v := .int .i64 0) rfl
          have fv := frz_blk HVv2.out 2
          go_wp2_with fail
          refine (HNc.out _).mono ?_
          rintro e w' ⟨rfl, rfl⟩
          clear z a0 a1 a2 a3 b0 b1 b2 b3 d0 d1 d2 d3
          go_wp2_with fail
          have hv := heap_setCell_same v2 (w4.heap.size + 1) 2 _ _ (.int .i64 xc) HVv2.out
          have hr := (heap_setCell_other v2 ⟨w4.heap.size + 1, 2, none⟩ w4.heap.size (.int .i64 xc) (by simp)).trans HRv2.out
          have hb := HBv2.out.setCell (p := ⟨w4.heap.size + 1, 2, none⟩) (by have := HG4.out; show w3.heap.size ≤ w4.heap.size + 1; omega) (.int .i64 xc)
          obtain ⟨v3, hnx⟩ : ∃ x, v2.setCell ⟨w4.heap.size + 1, 2, none⟩ (.int .i64 xc) = x := ⟨_, rfl⟩
          rw [hnx] at hv hr hb ⊢
          have HVv3 : Hid (v3.heap[w4.heap.size + 1]? = some (.cells #[.int .i64 xa, .int .i64 xb, .int .i64 xc] 71 (0, 0))) := hv
          have HRv3 := Lib.hid hr
          have HBv3 := Lib.hid hb
          clear hv hr hb hnx cv fv
          rw [rounds_succ]
          have cv0 := cell_blk HVv3.out 0 (v := .int .i64 xa) rfl
          have cv1 := cell_blk HVv3.out 1 (v := .int .i64 xb) rfl
          have cv2 := cell_blk HVv3.out 2 (v := .int .i64 xc) rfl
          have c0 := cell_blk HRv3.out 0 (v := .int .i64 2) rfl
          have c1 := cell_blk HRv3.out 1 (v := .int .i64 0) rfl
          have c2 := cell_blk HRv3.out 2 (v := .int .i64 0) rfl
          have c3 := cell_blk HRv3.out 3 (v := .int .i64 0) rfl
          have c4 := cell_blk HRv3.out 4 (v := .int .i64 0) rfl
          have c5 := cell_blk HRv3.out 5 (v := .int .i64 0) rfl
          have c6 := cell_blk HRv3.out 6 (v := .int .i64 0) rfl
          have c7 := cell_blk HRv3.out 7 (v := .int .i64 0) rfl
          have c8 := cell_blk HRv3.out 8 (v := .int .i64 0) rfl
          have c9 := cell_blk HRv3.out 9 (v := .int .i64 0) rfl
          have f1 := frz_blk HRv3.out 1
          have f2 := frz_blk HRv3.out 2
          have f3 := frz_blk HRv3.out 3
          go_wp2_with fail
          first
          | go_region_with fail
          | fail
          all_goals
            have hr8 : (((v3.setCell ⟨w4.heap.size, 1, none⟩ (.int .i64 xa)).setCell ⟨w4.heap.size, 2, none⟩ (.int .i64 xb)).setCell ⟨w4.heap.size, 3, none⟩ (.int .i64 xc)).drew.heap[w4.heap.size]? = _ := (heap_setCell_same ((v3.setCell ⟨w4.heap.size, 1, none⟩ (.int .i64 xa)).setCell ⟨w4.heap.size, 2, none⟩ (.int .i64 xb)) w4.heap.size 3 _ _ (.int .i64 xc) (heap_setCell_same (v3.setCell ⟨w4.heap.size, 1, none⟩ (.int .i64 xa)) w4.heap.size 2 _ _ (.int .i64 xb) (heap_setCell_same v3 w4.heap.size 1 _ _ (.int .i64 xa) HRv3.out)))
            have hb8 := (((HBv3.out.setCell (p := ⟨w4.heap.size, 1, none⟩) HG4.out (.int .i64 xa)).setCell (p := ⟨w4.heap.size, 2, none⟩) HG4.out (.int .i64 xb)).setCell (p := ⟨w4.heap.size, 3, none⟩) HG4.out (.int .i64 xc)).drew
            obtain ⟨w8, hw8⟩ : ∃ x, (((v3.setCell ⟨w4.heap.size, 1, none⟩ (.int .i64 xa)).setCell ⟨w4.heap.size, 2, none⟩ (.int .i64 xb)).setCell ⟨w4.heap.size, 3, none⟩ (.int .i64 xc)).drew = x := ⟨_, rfl⟩
            rw [hw8] at hr8 hb8 ⊢
            have HR8 : Hid (w8.heap[w4.heap.size]? = some (.cells #[.int .i64 2, .int .i64 xa, .int .i64 xb, .int .i64 xc, .int .i64 0, .int .i64 0, .int .i64 0, .int .i64 0, .int .i64 0, .int .i64 0] 25 (0, 0))) := hr8
            have HB8 := Lib.hid hb8
            clear hr8 hb8 hw8 cv0 cv1 cv2 c0 c1 c2 c3 c4 c5 c6 c7 c8 c9 f1 f2 f3
            have c0 := cell_blk HR8.out 0 (v := .int .i64 2) rfl
            have c1 := cell_blk HR8.out 1 (v := .int .i64 xa) rfl
            have c2 := cell_blk HR8.out 2 (v := .int .i64 xb) rfl
            have c3 := cell_blk HR8.out 3 (v := .int .i64 xc) rfl
            have c4 := cell_blk HR8.out 4 (v := .int .i64 0) rfl
            have c5 := cell_blk HR8.out 5 (v := .int .i64 0) rfl
            have c6 := cell_blk HR8.out 6 (v := .int .i64 0) rfl
            have c7 := cell_blk HR8.out 7 (v := .int .i64 0) rfl
            have c8 := cell_blk HR8.out 8 (v := .int .i64 0) rfl
            have c9 := cell_blk HR8.out 9 (v := .int .i64 0) rfl
            go_wp2_with fail
            clear c0 c1 c2 c3 c4 c5 c6 c7 c8 c9
            refine (HMY.out _).mono ?_
            rintro e w9 ⟨rfl, hb9⟩
            have HB9 := Lib.hid (HB8.out.trans (hb9.mono HB8.out.size))
            have hr9 := (hb9.block _ (Array.getElem?_eq_some_iff.1 HR8.out).1).trans HR8.out
            have c0 := cell_blk hr9 0 (v := .int .i64 2) rfl
            have c1 := cell_blk hr9 1 (v := .int .i64 xa) rfl
            have c2 := cell_blk hr9 2 (v := .int .i64 xb) rfl
            have c3 := cell_blk hr9 3 (v := .int .i64 xc) rfl
            have c4 := cell_blk hr9 4 (v := .int .i64 0) rfl
            have c5 := cell_blk hr9 5 (v := .int .i64 0) rfl
            have c6 := cell_blk hr9 6 (v := .int .i64 0) rfl
            have c7 := cell_blk hr9 7 (v := .int .i64 0) rfl
            have c8 := cell_blk hr9 8 (v := .int .i64 0) rfl
            have c9 := cell_blk hr9 9 (v := .int .i64 0) rfl
            clear hb9 hr9
            have hz := (HSS.out w9 HB9.out).1
            have HZ := Lib.hid hz
            have r0 := cell_blk hz 0 (v := .int .i64 0) rfl
            have f0 := frz_blk hz 0
            have r1 := cell_blk hz 1 (v := .int .i64 0) rfl
            have f1 := frz_blk hz 1
            have r2 := cell_blk hz 2 (v := .int .i64 0) rfl
            have f2 := frz_blk hz 2
            have r3 := cell_blk hz 3 (v := .int .i64 0) rfl
            have f3 := frz_blk hz 3
            have r4 := cell_blk hz 4 (v := .int .i64 0) rfl
            have f4 := frz_blk hz 4
            have r5 := cell_blk hz 5 (v := .int .i64 0) rfl
            have f5 := frz_blk hz 5
            have r6 := cell_blk hz 6 (v := .int .i64 0) rfl
            have f6 := frz_blk hz 6
            have r7 := cell_blk hz 7 (v := .int .i64 0) rfl
            have f7 := frz_blk hz 7
            have r8 := cell_blk hz 8 (v := .int .i64 0) rfl
            have f8 := frz_blk hz 8
            have r9 := cell_blk hz 9 (v := .int .i64 0) rfl
            have f9 := frz_blk hz 9
            clear hz
            go_wp2_with fail
            refine bodyPost_ret (results_cell2 rfl _ _ w.heap.size _ _ (0, 0) _ rfl (set10 HZ.out) Tryz.underlying25 rfl (by kernel_rfl)) rfl ?_
            exact ⟨rfl, below_set10 (HB3.out.trans (HB9.out.mono HB3.out.size)) (Nat.le_refl _)⟩
end Go.Proofs.YtjfmnflcgenpaaaGreatDoor

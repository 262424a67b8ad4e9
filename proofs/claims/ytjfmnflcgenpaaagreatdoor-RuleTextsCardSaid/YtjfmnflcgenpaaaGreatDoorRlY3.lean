/- Contract: the document's Parse of Dates. -/
import Derived.Test.YtjfmnflcgenpaaaGreatDoorRlW
import Derived.Test.YtjfmnflcgenpaaaGreatDoorRlQ
import Derived.Deep.RegionHeld3
namespace Go.Proofs.YtjfmnflcgenpaaaGreatDoor
open Go.RowKit

theorem set456 {w : World} {g : Nat} {u0 u1 u2 u3 u4 u5 u6 u7 u8 u9 v4 v5 v6 : Value} {t : TypeId} (h : w.heap[g]? = some (.cells #[u0, u1, u2, u3, u4, u5, u6, u7, u8, u9] t (0, 0))) :
    (((w.setCell ⟨g, 4, none⟩ v4).setCell ⟨g, 5, none⟩ v5).setCell ⟨g, 6, none⟩ v6).heap[g]? = some (.cells #[u0, u1, u2, u3, v4, v5, v6, u7, u8, u9] t (0, 0)) := by
  have e4 := heap_setCell_same w g 4 _ t v4 h
  have e5 := heap_setCell_same _ g 5 _ t v5 e4
  have e6 := heap_setCell_same _ g 6 _ t v6 e5
  simp only [List.setIfInBounds_toArray, List.set_cons_zero, List.set_cons_succ] at e6
  exact e6
theorem below_set456 {w W : World} {B g : Nat} {v4 v5 v6 : Value} (h : Below B w W) (hg : B ≤ g) : Below B w (((W.setCell ⟨g, 4, none⟩ v4).setCell ⟨g, 5, none⟩ v5).setCell ⟨g, 6, none⟩ v6) :=
  (((h.setCell hg v4).setCell hg v5).setCell hg v6)
theorem set789 {w : World} {g : Nat} {u0 u1 u2 u3 u4 u5 u6 u7 u8 u9 v7 v8 v9 : Value} {t : TypeId} (h : w.heap[g]? = some (.cells #[u0, u1, u2, u3, u4, u5, u6, u7, u8, u9] t (0, 0))) :
    (((w.setCell ⟨g, 7, none⟩ v7).setCell ⟨g, 8, none⟩ v8).setCell ⟨g, 9, none⟩ v9).heap[g]? = some (.cells #[u0, u1, u2, u3, u4, u5, u6, v7, v8, v9] t (0, 0)) := by
  have e7 := heap_setCell_same w g 7 _ t v7 h
  have e8 := heap_setCell_same _ g 8 _ t v8 e7
  have e9 := heap_setCell_same _ g 9 _ t v9 e8
  simp only [List.setIfInBounds_toArray, List.set_cons_zero, List.set_cons_succ] at e9
  exact e9
theorem below_set789 {w W : World} {B g : Nat} {v7 v8 v9 : Value} (h : Below B w W) (hg : B ≤ g) : Below B w (((W.setCell ⟨g, 7, none⟩ v7).setCell ⟨g, 8, none⟩ v8).setCell ⟨g, 9, none⟩ v9) :=
  (((h.setCell hg v7).setCell hg v8).setCell hg v9)
set_option maxRecDepth 100000 in
set_option maxHeartbeats 40000000 in
theorem refParse3 (s a b : List UInt8) (w : World) (hs : s.length ≤ 1000) (hc : cutAt 32 s = [tW, a, b]) :
    Calls Tryz.prog 15 #[.string (str s)] w fun e w' => e = .returned (ans2 (pr s)) ∧ Below w.heap.size w w' := by
  rw [pr_k3 hc]
  have HC := Lib.hid (fun W => cut_r s 32 32 W rfl hs)
  rw [hc] at HC
  have hlen : [tW, a, b].length = 3 := rfl
  have hlenL : (strL [tW, a, b]).length = 3 := rfl
  rw [hlen] at HC
  have hla : a.length ≤ 1000 := Nat.le_trans (cutAt_le 32 s a (by rw [hc]; simp)) hs
  have hlb : b.length ≤ 1000 := Nat.le_trans (cutAt_le 32 s b (by rw [hc]; simp)) hs
  have HNa := Lib.hid (fun W => dates_r a W hla)
  have HNb := Lib.hid (fun W => dates_r b W hlb)
  have HCL : Hid (∀ (W : World) (ad : Addr), (∀ j v, (strL [tW, a, b])[j]? = some v → W.cell? (ad.add j) = some v) → W.cell? ad = some (.string (str tW)) ∧ W.cell? { block := ad.block, off := ad.off + 1 } = some (.string (str a)) ∧ W.cell? { block := ad.block, off := ad.off + 2 } = some (.string (str b))) := fun W ad h => ⟨h 0 _ rfl, h 1 _ rfl, h 2 _ rfl⟩
  have x0 : ((str tW).toList == [119, 101, 101, 107, 100, 97, 121]) = false := (str_eq_lit _ _).trans (by decide)
  have y0 : ((str tW).toList != [119, 101, 101, 107, 100, 97, 121]) = true := by rw [bne, x0]; rfl
  have x1 : ((str tW).toList == [100, 97, 121]) = false := (str_eq_lit _ _).trans (by decide)
  have y1 : ((str tW).toList != [100, 97, 121]) = true := by rw [bne, x1]; rfl
  have x2 : ((str tW).toList == [110, 116, 104]) = false := (str_eq_lit _ _).trans (by decide)
  have y2 : ((str tW).toList != [110, 116, 104]) = true := by rw [bne, x2]; rfl
  have x3 : ((str tW).toList == [100, 97, 116, 101, 115]) = true := (str_eq_lit _ _).trans (by decide)
  have y3 : ((str tW).toList != [100, 97, 116, 101, 115]) = false := by rw [bne, x3]; rfl
  have hb0 := (Below.refl w.heap.size w).alloc (Nat.le_refl _) (.cells #[.int .i64 0, .int .i64 0, .int .i64 0, .int .i64 0, .int .i64 0, .int .i64 0, .int .i64 0, .int .i64 0, .int .i64 0, .int .i64 0] 25)
  have G0 := Lib.hid (heap_alloc_new w (.cells #[.int .i64 0, .int .i64 0, .int .i64 0, .int .i64 0, .int .i64 0, .int .i64 0, .int .i64 0, .int .i64 0, .int .i64 0, .int .i64 0] 25))
  have HB0 := Lib.hid hb0
  have hlt0 : w.heap.size < (w.alloc (.cells #[.int .i64 0, .int .i64 0, .int .i64 0, .int .i64 0, .int .i64 0, .int .i64 0, .int .i64 0, .int .i64 0, .int .i64 0, .int .i64 0] 25)).heap.size := by simp
  have HMY := Lib.hid (fun W => refMay_any ⟨3, 0, 0, 0, (dval a).1, (dval a).2.1, (dval a).2.2, (dval b).1, (dval b).2.1, (dval b).2.2⟩ W)
  clear hb0 hc hlen hla hlb hs
  obtain ⟨⟨ya, ma, ea⟩, hva⟩ : ∃ x, dval a = x := ⟨_, rfl⟩
  simp only [hva] at HNa HMY ⊢
  clear hva
  generalize dok a = qa at *
  obtain ⟨⟨yb, mb, eb⟩, hvb⟩ : ∃ x, dval b = x := ⟨_, rfl⟩
  simp only [hvb] at HNb HMY ⊢
  clear hvb
  generalize dok b = qb at *
  generalize str tW = s0 at *
  generalize str a = s1 at *
  generalize str b = s2 at *
  unfold dt at HNa HNb
  generalize str s = S at *
  unfold rv at HMY
  simp only at HMY
  go_enter Tryz.func15, Tryz.ntmps15
  go_wp2_with fail
  refine (HC.out _).mono ?_
  rintro e w1 ⟨A, cp, rfl, hb1, hrd⟩
  obtain ⟨ad, rfl, hcell⟩ := hrd (by rw [hlenL]; omega)
  have hb2 := (HB0.out.trans (hb1.mono HB0.out.size)).alloc (HB0.out.trans (hb1.mono HB0.out.size)).size (.cells #[.int .i64 2, .int .i64 3, .int .i64 4, .int .i64 3] 3)
  have hb3 := hb2.alloc hb2.size (.cells #[.string { data := #[119, 101, 101, 107, 100, 97, 121] }, .string { data := #[100, 97, 121] }, .string { data := #[110, 116, 104] }, .string { data := #[100, 97, 116, 101, 115] }] 9)
  have hz1 := (hb1.block w.heap.size hlt0).trans G0.out
  have hlz1 := (Array.getElem?_eq_some_iff.1 hz1).1
  have hz2 := (Below.heap_alloc w1 (.cells #[.int .i64 2, .int .i64 3, .int .i64 4, .int .i64 3] 3) w.heap.size hlz1).trans hz1
  have hgz := (Below.heap_alloc (w1.alloc (.cells #[.int .i64 2, .int .i64 3, .int .i64 4, .int .i64 3] 3)) (.cells #[.string { data := #[119, 101, 101, 107, 100, 97, 121] }, .string { data := #[100, 97, 121] }, .string { data := #[110, 116, 104] }, .string { data := #[100, 97, 116, 101, 115] }] 9) w.heap.size (Array.getElem?_eq_some_iff.1 hz2).1).trans hz2
  have hgw := (Below.heap_alloc (w1.alloc (.cells #[.int .i64 2, .int .i64 3, .int .i64 4, .int .i64 3] 3)) (.cells #[.string { data := #[119, 101, 101, 107, 100, 97, 121] }, .string { data := #[100, 97, 121] }, .string { data := #[110, 116, 104] }, .string { data := #[100, 97, 116, 101, 115] }] 9) w1.heap.size (by simp)).trans (heap_alloc_new w1 (.cells #[.int .i64 2, .int .i64 3, .int .i64 4, .int .i64 3] 3))
  have hgs := heap_new2 w1 (.cells #[.int .i64 2, .int .i64 3, .int .i64 4, .int .i64 3] 3) (.cells #[.string { data := #[119, 101, 101, 107, 100, 97, 121] }, .string { data := #[100, 97, 121] }, .string { data := #[110, 116, 104] }, .string { data := #[100, 97, 116, 101, 115] }] 9)
  have hr3 := (hrd.alloc (.cells #[.int .i64 2, .int .i64 3, .int .i64 4, .int .i64 3] 3)).alloc (.cells #[.string { data := #[119, 101, 101, 107, 100, 97, 121] }, .string { data := #[100, 97, 121] }, .string { data := #[110, 116, 104] }, .string { data := #[100, 97, 116, 101, 115] }] 9)
  obtain ⟨w3, hw3⟩ : ∃ w3, (w1.alloc (.cells #[.int .i64 2, .int .i64 3, .int .i64 4, .int .i64 3] 3)).alloc (.cells #[.string { data := #[119, 101, 101, 107, 100, 97, 121] }, .string { data := #[100, 97, 121] }, .string { data := #[110, 116, 104] }, .string { data := #[100, 97, 116, 101, 115] }] 9) = w3 := ⟨_, rfl⟩
  rw [hw3] at hb3 hgz hgw hgs hr3
  have hlz := (Array.getElem?_eq_some_iff.1 hgz).1
  have hlw := (Array.getElem?_eq_some_iff.1 hgw).1
  have hls := (Array.getElem?_eq_some_iff.1 hgs).1
  have hp3 : ∀ W, Below w3.heap.size w3 W → W.cell? ad = some (.string s0) ∧ W.cell? { block := ad.block, off := ad.off + 1 } = some (.string s1) ∧ W.cell? { block := ad.block, off := ad.off + 2 } = some (.string s2) := fun W hb => by
    obtain ⟨ad', e, hc'⟩ := (hr3.below hb) (by rw [hlenL]; omega)
    injection e with e
    subst e
    exact HCL.out W _ hc'
  have HSS := Lib.hid (show ∀ W, Below w3.heap.size w3 W → W.heap[w.heap.size]? = some (.cells #[.int .i64 0, .int .i64 0, .int .i64 0, .int .i64 0, .int .i64 0, .int .i64 0, .int .i64 0, .int .i64 0, .int .i64 0, .int .i64 0] 25 (0, 0)) ∧ W.cell? ⟨w1.heap.size, 0, none⟩ = some (.int .i64 2) ∧ W.cell? ⟨w1.heap.size, 1, none⟩ = some (.int .i64 3) ∧ W.cell? ⟨w1.heap.size, 2, none⟩ = some (.int .i64 4) ∧ W.cell? ⟨w1.heap.size, 3, none⟩ = some (.int .i64 3) ∧ W.cell? ⟨w1.heap.size + 1, 0, none⟩ = some (.string { data := #[119, 101, 101, 107, 100, 97, 121] }) ∧ W.cell? ⟨w1.heap.size + 1, 1, none⟩ = some (.string { data := #[100, 97, 121] }) ∧ W.cell? ⟨w1.heap.size + 1, 2, none⟩ = some (.string { data := #[110, 116, 104] }) ∧ W.cell? ⟨w1.heap.size + 1, 3, none⟩ = some (.string { data := #[100, 97, 116, 101, 115] }) ∧ W.cell? ad = some (.string s0) ∧ W.cell? { block := ad.block, off := ad.off + 1 } = some (.string s1) ∧ W.cell? { block := ad.block, off := ad.off + 2 } = some (.string s2) from fun W hb => ⟨(hb.block _ hlz).trans hgz, cell_blk ((hb.block _ hlw).trans hgw) 0 rfl, cell_blk ((hb.block _ hlw).trans hgw) 1 rfl, cell_blk ((hb.block _ hlw).trans hgw) 2 rfl, cell_blk ((hb.block _ hlw).trans hgw) 3 rfl, cell_blk ((hb.block _ hls).trans hgs) 0 rfl, cell_blk ((hb.block _ hls).trans hgs) 1 rfl, cell_blk ((hb.block _ hls).trans hgs) 2 rfl, cell_blk ((hb.block _ hls).trans hgs) 3 rfl, hp3 W hb⟩)
  have HB3 := Lib.hid hb3
  have HW3 := Lib.hid hw3
  clear hb1 hb2 hb3 hz1 hlz1 hz2 hgz hgw hgs hr3 hw3 hlz hlw hls hp3 hrd hcell HC
  go_wp2_with fail
  rw [HW3.out]
  refine wp_loop_rounds 4 ?_
  rw [rounds_succ]
  obtain ⟨z, a0, a1, a2, a3, b0, b1, b2, b3, d0, d1, d2⟩ := HSS.out w3 (Below.refl w3.heap.size w3)
  go_wp2_with fail
  go_quiet (fail)
  obtain ⟨u0, hwu0⟩ : ∃ x, w3.drewN nq = x := ⟨_, rfl⟩
  rw [hwu0]
  have HBu0 := Lib.hid (show Below w3.heap.size w3 u0 by rw [← hwu0]; exact (Below.refl w3.heap.size w3).trans ((below_drewN w3 nq).mono (Below.refl w3.heap.size w3).size))
  clear z a0 a1 a2 a3 b0 b1 b2 b3 d0 d1 d2
  clear hwu0
  go_wp2_with fail
  rw [rounds_succ]
  obtain ⟨z, a0, a1, a2, a3, b0, b1, b2, b3, d0, d1, d2⟩ := HSS.out u0 HBu0.out
  go_wp2_with fail
  go_quiet (fail)
  obtain ⟨u1, hwu1⟩ : ∃ x, u0.drewN nq = x := ⟨_, rfl⟩
  rw [hwu1]
  have HBu1 := Lib.hid (show Below w3.heap.size w3 u1 by rw [← hwu1]; exact HBu0.out.trans ((below_drewN u0 nq).mono HBu0.out.size))
  clear z a0 a1 a2 a3 b0 b1 b2 b3 d0 d1 d2
  clear hwu1
  go_wp2_with fail
  rw [rounds_succ]
  obtain ⟨z, a0, a1, a2, a3, b0, b1, b2, b3, d0, d1, d2⟩ := HSS.out u1 HBu1.out
  go_wp2_with fail
  go_quiet (fail)
  obtain ⟨u2, hwu2⟩ : ∃ x, u1.drewN nq = x := ⟨_, rfl⟩
  rw [hwu2]
  have HBu2 := Lib.hid (show Below w3.heap.size w3 u2 by rw [← hwu2]; exact HBu1.out.trans ((below_drewN u1 nq).mono HBu1.out.size))
  clear z a0 a1 a2 a3 b0 b1 b2 b3 d0 d1 d2
  clear hwu2
  go_wp2_with fail
  rw [rounds_succ]
  obtain ⟨z, a0, a1, a2, a3, b0, b1, b2, b3, d0, d1, d2⟩ := HSS.out u2 HBu2.out
  go_wp2_with fail
  go_quiet (fail)
  obtain ⟨w4, hww4⟩ : ∃ x, u2.drewN nq = x := ⟨_, rfl⟩
  rw [hww4]
  have HBw4 := Lib.hid (show Below w3.heap.size w3 w4 by rw [← hww4]; exact HBu2.out.trans ((below_drewN u2 nq).mono HBu2.out.size))
  clear z a0 a1 a2 a3 b0 b1 b2 b3 d0 d1 d2
  clear hww4
  have HG4 := Lib.hid HBw4.out.size
  have hb5 := HBw4.out.alloc HBw4.out.size (.cells #[.int .i64 3, .int .i64 0, .int .i64 0, .int .i64 0, .int .i64 0, .int .i64 0, .int .i64 0, .int .i64 0, .int .i64 0, .int .i64 0] 25)
  have hr5 := heap_alloc_new w4 (.cells #[.int .i64 3, .int .i64 0, .int .i64 0, .int .i64 0, .int .i64 0, .int .i64 0, .int .i64 0, .int .i64 0, .int .i64 0, .int .i64 0] 25)
  have HB5 := Lib.hid hb5
  have HR5 := Lib.hid hr5
  have hl5 : w4.heap.size < (w4.alloc (.cells #[.int .i64 3, .int .i64 0, .int .i64 0, .int .i64 0, .int .i64 0, .int .i64 0, .int .i64 0, .int .i64 0, .int .i64 0, .int .i64 0] 25)).heap.size := by simp
  obtain ⟨z, a0, a1, a2, a3, b0, b1, b2, b3, d0, d1, d2⟩ := HSS.out (w4.alloc (.cells #[.int .i64 3, .int .i64 0, .int .i64 0, .int .i64 0, .int .i64 0, .int .i64 0, .int .i64 0, .int .i64 0, .int .i64 0, .int .i64 0] 25)) hb5
  clear hb5 hr5
  go_wp2_with fail
  refine (HNa.out _).mono ?_
  rintro e w6 ⟨rfl, hb6⟩
  clear z a0 a1 a2 a3 b0 b1 b2 b3 d0 d1 d2
  have hc6 := HB5.out.trans (hb6.mono HB5.out.size)
  have hr6 := (hb6.block w4.heap.size hl5).trans HR5.out
  have hl6 := (Array.getElem?_eq_some_iff.1 hr6).1
  have hb7 := hc6.alloc hc6.size (.cells #[.int .i64 ya, .int .i64 ma, .int .i64 ea] 23)
  have hr7 := (Below.heap_alloc w6 (.cells #[.int .i64 ya, .int .i64 ma, .int .i64 ea] 23) w4.heap.size hl6).trans hr6
  have hd7 := heap_alloc_new w6 (.cells #[.int .i64 ya, .int .i64 ma, .int .i64 ea] 23)
  have HB7 := Lib.hid hb7
  have HR7 := Lib.hid hr7
  have HD7 := Lib.hid hd7
  have hl7 := (Array.getElem?_eq_some_iff.1 hr7).1
  have hm7 : w6.heap.size < (w6.alloc (.cells #[.int .i64 ya, .int .i64 ma, .int .i64 ea] 23)).heap.size := by simp
  obtain ⟨z, a0, a1, a2, a3, b0, b1, b2, b3, d0, d1, d2⟩ := HSS.out (w6.alloc (.cells #[.int .i64 ya, .int .i64 ma, .int .i64 ea] 23)) hb7
  have hne6 : w6.heap.size ≠ w4.heap.size := by have := hb6.size; omega
  have hlt6 : w4.heap.size < w6.heap.size := by have := hb6.size; omega
  clear hb6 hc6 hr6 hl6 hb7 hr7 hd7
  go_wp2_with fail
  refine (HNb.out _).mono ?_
  rintro e w10 ⟨rfl, hb8⟩
  clear z a0 a1 a2 a3 b0 b1 b2 b3 d0 d1 d2
  have hc8 := HB7.out.trans (hb8.mono HB7.out.size)
  have hr8 := (hb8.block w4.heap.size hl7).trans HR7.out
  have hd8 := (hb8.block w6.heap.size hm7).trans HD7.out
  have hl8 := (Array.getElem?_eq_some_iff.1 hr8).1
  have hm8 := (Array.getElem?_eq_some_iff.1 hd8).1
  have hb9 := hc8.alloc hc8.size (.cells #[.int .i64 yb, .int .i64 mb, .int .i64 eb] 23)
  have hr9 := (Below.heap_alloc w10 (.cells #[.int .i64 yb, .int .i64 mb, .int .i64 eb] 23) w4.heap.size hl8).trans hr8
  have hd9 := (Below.heap_alloc w10 (.cells #[.int .i64 yb, .int .i64 mb, .int .i64 eb] 23) w6.heap.size hm8).trans hd8
  have he9 := heap_alloc_new w10 (.cells #[.int .i64 yb, .int .i64 mb, .int .i64 eb] 23)
  obtain ⟨wq, hwq⟩ : ∃ x, (w10.alloc (.cells #[.int .i64 yb, .int .i64 mb, .int .i64 eb] 23)) = x := ⟨_, rfl⟩
  rw [hwq] at hb9 hr9 hd9 he9
  have HWQ := Lib.hid hwq
  have HB9 := Lib.hid hb9
  have HR9 := Lib.hid hr9
  have HD9 := Lib.hid hd9
  have HE9 := Lib.hid he9
  have hne10 : w10.heap.size ≠ w4.heap.size := by have := hb8.size; omega
  clear hb8 hc8 hr8 hd8 hl8 hm8 hb9 hr9 hd9 he9 hwq
  go_wp2_with fail
  rw [HWQ.out]
  refine wp_region_noPanic ?_
  refine wp_region_held_drew (S := (fun W => W.heap[w6.heap.size]? = some (.cells #[.int .i64 ya, .int .i64 ma, .int .i64 ea] 23 (0, 0)) ∧ W.heap[w10.heap.size]? = some (.cells #[.int .i64 yb, .int .i64 mb, .int .i64 eb] 23 (0, 0)))) (by kernel_rfl) ⟨HD9.out, HE9.out⟩ (fun hHeld => ?_)
  refine' wpAnyH_take (i := 0) (oi := { dst := some 60, op := Go.Op.load 23 (Go.Operand.tmp 9), type := 23, pos := "ref.go:158", after := #[], guard := none }) (v := _) rfl (by kernel_rfl) (by kernel_rfl) (by kernel_rfl) (fun _ _ _ h => h) (Or.inl ⟨by rfl, ?_⟩) (by assumption) ?_
  rotate_left
  · (intro W hSw; have p0 := cell_blk hSw.1 0 (v := .int .i64 ya) rfl; have p1 := cell_blk hSw.1 1 (v := .int .i64 ma) rfl; have p2 := cell_blk hSw.1 2 (v := .int .i64 ea) rfl; go_simp; try with_reducible rfl)
  try simp only [Act.put, List.setIfInBounds_toArray, List.set_cons_zero, List.set_cons_succ]
  refine' wpAnyH_take (i := 1) (oi := { dst := some 61, op := Go.Op.load 23 (Go.Operand.tmp 11), type := 23, pos := "ref.go:158", after := #[{ on := 3, ground := Go.Ground.gcOnly Go.Departure.lateStores }], guard := none }) (v := _) rfl (by kernel_rfl) (by kernel_rfl) (by kernel_rfl) (fun _ _ _ h => h) (Or.inl ⟨by rfl, ?_⟩) (by assumption) ?_
  rotate_left
  · (intro W hSw; have p0 := cell_blk hSw.2 0 (v := .int .i64 yb) rfl; have p1 := cell_blk hSw.2 1 (v := .int .i64 mb) rfl; have p2 := cell_blk hSw.2 2 (v := .int .i64 eb) rfl; go_simp; try with_reducible rfl)
  try simp only [Act.put, List.setIfInBounds_toArray, List.set_cons_zero, List.set_cons_succ]
  have c4 := cell_blk HR9.out 4 (v := .int .i64 0) rfl
  have f4 := frz_blk HR9.out 4
  have c5 := cell_blk HR9.out 5 (v := .int .i64 0) rfl
  have f5 := frz_blk HR9.out 5
  have c6 := cell_blk HR9.out 6 (v := .int .i64 0) rfl
  have f6 := frz_blk HR9.out 6
  have c7 := cell_blk HR9.out 7 (v := .int .i64 0) rfl
  have f7 := frz_blk HR9.out 7
  have c8 := cell_blk HR9.out 8 (v := .int .i64 0) rfl
  have f8 := frz_blk HR9.out 8
  have c9 := cell_blk HR9.out 9 (v := .int .i64 0) rfl
  have f9 := frz_blk HR9.out 9
  refine' wpAnyH_take (i := 2) (oi := { dst := some 62, op := Go.Op.fieldAddr 25 (Go.Operand.tmp 8) 4, type := 0, pos := "ref.go:158", after := #[{ on := 0, ground := Go.Ground.phase }, { on := 1, ground := Go.Ground.textOnly Go.Departure.lateStores }], guard := none }) (v := _) rfl (by kernel_rfl) (by kernel_rfl) (by kernel_rfl) (fun _ _ _ h => h) (Or.inl ⟨by rfl, ?_⟩) (by assumption) ?_
  rotate_left
  · (intro W hSw; go_simp; try with_reducible rfl)
  try simp only [Act.put, List.setIfInBounds_toArray, List.set_cons_zero, List.set_cons_succ]
  refine wpAnyH_ready (rs := [3]) (by kernel_rfl) (by simp) ?_
  refine AllReadyH.cons (o := { dst := none, op := Go.Op.store 23 (Go.Operand.tmp 62) (Go.Operand.tmp 60), type := 0, pos := "ref.go:158", after := #[{ on := 2, ground := Go.Ground.data }, { on := 0, ground := Go.Ground.data }, { on := 0, ground := Go.Ground.phase }, { on := 1, ground := Go.Ground.textOnly Go.Departure.lateStores }], guard := none }) rfl (fun K hK => ?_) AllReadyH.nil
  go_simp
  refine hK.out _ _ ⟨((heap_setCell_other _ ⟨w4.heap.size, 6, none⟩ _ (.int .i64 ea) hne6).trans ((heap_setCell_other _ ⟨w4.heap.size, 5, none⟩ _ (.int .i64 ma) hne6).trans ((heap_setCell_other _ ⟨w4.heap.size, 4, none⟩ _ (.int .i64 ya) hne6).trans hHeld.1))), ((heap_setCell_other _ ⟨w4.heap.size, 6, none⟩ _ (.int .i64 ea) hne10).trans ((heap_setCell_other _ ⟨w4.heap.size, 5, none⟩ _ (.int .i64 ma) hne10).trans ((heap_setCell_other _ ⟨w4.heap.size, 4, none⟩ _ (.int .i64 ya) hne10).trans hHeld.2)))⟩ (fun hHeldN => ?_)
  clear hK K
  replace hHeld := hHeldN
  clear hHeldN
  try simp only [Act.put, List.setIfInBounds_toArray, List.set_cons_zero, List.set_cons_succ]
  obtain ⟨wS, hwS⟩ : ∃ x, (((wq.setCell ⟨w4.heap.size, 4, none⟩ (.int .i64 ya)).setCell ⟨w4.heap.size, 5, none⟩ (.int .i64 ma)).setCell ⟨w4.heap.size, 6, none⟩ (.int .i64 ea)).drew = x := ⟨_, rfl⟩
  rw [hwS] at hHeld ⊢
  have HRS := Lib.hid (show wS.heap[w4.heap.size]? = some (.cells #[.int .i64 3, .int .i64 0, .int .i64 0, .int .i64 0, .int .i64 ya, .int .i64 ma, .int .i64 ea, .int .i64 0, .int .i64 0, .int .i64 0] 25 (0, 0)) by rw [← hwS]; exact set456 HR9.out)
  have HBS := Lib.hid (show Below w3.heap.size w3 wS by rw [← hwS]; exact (below_set456 HB9.out HG4.out).drew)
  clear hwS c4 c5 c6 c7 c8 c9 f4 f5 f6 f7 f8 f9
  have c7 := cell_blk HRS.out 7 (v := .int .i64 0) rfl
  have f7 := frz_blk HRS.out 7
  have c8 := cell_blk HRS.out 8 (v := .int .i64 0) rfl
  have f8 := frz_blk HRS.out 8
  have c9 := cell_blk HRS.out 9 (v := .int .i64 0) rfl
  have f9 := frz_blk HRS.out 9
  refine' wpAnyH_take (i := 4) (oi := { dst := some 63, op := Go.Op.fieldAddr 25 (Go.Operand.tmp 8) 5, type := 0, pos := "ref.go:158", after := #[{ on := 0, ground := Go.Ground.phase }, { on := 1, ground := Go.Ground.phase }, { on := 2, ground := Go.Ground.phase }, { on := 3, ground := Go.Ground.phase }], guard := none }) (v := _) rfl (by kernel_rfl) (by kernel_rfl) (by kernel_rfl) (fun _ _ _ h => h) (Or.inl ⟨by rfl, ?_⟩) (by assumption) ?_
  rotate_left
  · (intro W hSw; go_simp; try with_reducible rfl)
  try simp only [Act.put, List.setIfInBounds_toArray, List.set_cons_zero, List.set_cons_succ]
  refine wpAnyH_ready (rs := [5]) (by kernel_rfl) (by simp) ?_
  refine AllReadyH.cons (o := { dst := none, op := Go.Op.store 23 (Go.Operand.tmp 63) (Go.Operand.tmp 61), type := 0, pos := "ref.go:158", after := #[{ on := 4, ground := Go.Ground.data }, { on := 1, ground := Go.Ground.data }, { on := 3, ground := Go.Ground.chain }, { on := 0, ground := Go.Ground.phase }, { on := 1, ground := Go.Ground.phase }, { on := 2, ground := Go.Ground.phase }, { on := 3, ground := Go.Ground.phase }], guard := none }) rfl (fun K hK => ?_) AllReadyH.nil
  go_simp
  refine hK.out _ _ ⟨((heap_setCell_other _ ⟨w4.heap.size, 9, none⟩ _ (.int .i64 eb) hne6).trans ((heap_setCell_other _ ⟨w4.heap.size, 8, none⟩ _ (.int .i64 mb) hne6).trans ((heap_setCell_other _ ⟨w4.heap.size, 7, none⟩ _ (.int .i64 yb) hne6).trans hHeld.1))), ((heap_setCell_other _ ⟨w4.heap.size, 9, none⟩ _ (.int .i64 eb) hne10).trans ((heap_setCell_other _ ⟨w4.heap.size, 8, none⟩ _ (.int .i64 mb) hne10).trans ((heap_setCell_other _ ⟨w4.heap.size, 7, none⟩ _ (.int .i64 yb) hne10).trans hHeld.2)))⟩ (fun hHeldN => ?_)
  clear hK K
  replace hHeld := hHeldN
  clear hHeldN
  try simp only [Act.put, List.setIfInBounds_toArray, List.set_cons_zero, List.set_cons_succ]
  refine wpAnyH_done (by kernel_rfl) ?_ _
  refine NoPanic.normal ?_
  all_goals
    have hr8 : (((wS.setCell ⟨w4.heap.size, 7, none⟩ (.int .i64 yb)).setCell ⟨w4.heap.size, 8, none⟩ (.int .i64 mb)).setCell ⟨w4.heap.size, 9, none⟩ (.int .i64 eb)).heap[w4.heap.size]? = _ := set789 HRS.out
    have hb8 : Below w3.heap.size w3 (((wS.setCell ⟨w4.heap.size, 7, none⟩ (.int .i64 yb)).setCell ⟨w4.heap.size, 8, none⟩ (.int .i64 mb)).setCell ⟨w4.heap.size, 9, none⟩ (.int .i64 eb)) := below_set789 HBS.out HG4.out
    obtain ⟨w8, hw8⟩ : ∃ x, (((wS.setCell ⟨w4.heap.size, 7, none⟩ (.int .i64 yb)).setCell ⟨w4.heap.size, 8, none⟩ (.int .i64 mb)).setCell ⟨w4.heap.size, 9, none⟩ (.int .i64 eb)) = x := ⟨_, rfl⟩
    rw [hw8] at hr8 hb8 ⊢
    have HR8 : Hid (w8.heap[w4.heap.size]? = some (.cells #[.int .i64 3, .int .i64 0, .int .i64 0, .int .i64 0, .int .i64 ya, .int .i64 ma, .int .i64 ea, .int .i64 yb, .int .i64 mb, .int .i64 eb] 25 (0, 0))) := hr8
    have HB8 := Lib.hid hb8
    clear hr8 hb8 hw8 hHeld c7 c8 c9 f7 f8 f9 hl5 hl7 hm7
    cases qa
    · have hz := (HSS.out w8 HB8.out).1
      have HZ := Lib.hid hz
      have r0 := cell_blk hz 0 (v := .int .i64 0) rfl
      have f0 := frz_blk hz 0
      have r1 := cell_blk hz 1 (v := .int .i64 0) rfl
      have f1 := frz_blk hz 1
      have r2 := cell_blk hz 2 (v := .int .i64 0) rfl
      have f2 := frz_blk hz 2
      have r3 := cell_blk hz 3 (v := .int .i64 0) rfl
      have f3 := frz_blk hz 3
      have r4 := cell_blk hz 4 (v := .int .i64 0) rfl
      have f4 := frz_blk hz 4
      have r5 := cell_blk hz 5 (v := .int .i64 0) rfl
      have f5 := frz_blk hz 5
      have r6 := cell_blk hz 6 (v := .int .i64 0) rfl
      have f6 := frz_blk hz 6
      have r7 := cell_blk hz 7 (v := .int .i64 0) rfl
      have f7 := frz_blk hz 7
      have r8 := cell_blk hz 8 (v := .int .i64 0) rfl
      have f8 := frz_blk hz 8
      have r9 := cell_blk hz 9 (v := .int .i64 0) rfl
      have f9 := frz_blk hz 9
      clear hz
      go_wp2_with fail
      refine bodyPost_ret (results_cell2 rfl _ _ w.heap.size _ _ (0, 0) _ rfl (set10 HZ.out) Tryz.underlying25 rfl (by kernel_rfl)) rfl ?_
      exact ⟨congrArg Ending.returned ((congrArg ans2 (may_or_no (false && qb) _ (.inl rfl))).trans ans2_none).symm, below_set10 (HB3.out.trans (HB8.out.mono HB3.out.size)) (Nat.le_refl _)⟩
    · cases qb
      · have hz := (HSS.out w8 HB8.out).1
        have HZ := Lib.hid hz
        have r0 := cell_blk hz 0 (v := .int .i64 0) rfl
        have f0 := frz_blk hz 0
        have r1 := cell_blk hz 1 (v := .int .i64 0) rfl
        have f1 := frz_blk hz 1
        have r2 := cell_blk hz 2 (v := .int .i64 0) rfl
        have f2 := frz_blk hz 2
        have r3 := cell_blk hz 3 (v := .int .i64 0) rfl
        have f3 := frz_blk hz 3
        have r4 := cell_blk hz 4 (v := .int .i64 0) rfl
        have f4 := frz_blk hz 4
        have r5 := cell_blk hz 5 (v := .int .i64 0) rfl
        have f5 := frz_blk hz 5
        have r6 := cell_blk hz 6 (v := .int .i64 0) rfl
        have f6 := frz_blk hz 6
        have r7 := cell_blk hz 7 (v := .int .i64 0) rfl
        have f7 := frz_blk hz 7
        have r8 := cell_blk hz 8 (v := .int .i64 0) rfl
        have f8 := frz_blk hz 8
        have r9 := cell_blk hz 9 (v := .int .i64 0) rfl
        have f9 := frz_blk hz 9
        clear hz
        go_wp2_with fail
        refine bodyPost_ret (results_cell2 rfl _ _ w.heap.size _ _ (0, 0) _ rfl (set10 HZ.out) Tryz.underlying25 rfl (by kernel_rfl)) rfl ?_
        exact ⟨congrArg Ending.returned ((congrArg ans2 (may_or_no (true && false) _ (.inl rfl))).trans ans2_none).symm, below_set10 (HB3.out.trans (HB8.out.mono HB3.out.size)) (Nat.le_refl _)⟩
      · cases hm : mayR ⟨3, 0, 0, 0, ya, ma, ea, yb, mb, eb⟩
        · rw [hm] at HMY
          have c0 := cell_blk HR8.out 0 (v := .int .i64 3) rfl
          have c1 := cell_blk HR8.out 1 (v := .int .i64 0) rfl
          have c2 := cell_blk HR8.out 2 (v := .int .i64 0) rfl
          have c3 := cell_blk HR8.out 3 (v := .int .i64 0) rfl
          have c4 := cell_blk HR8.out 4 (v := .int .i64 ya) rfl
          have c5 := cell_blk HR8.out 5 (v := .int .i64 ma) rfl
          have c6 := cell_blk HR8.out 6 (v := .int .i64 ea) rfl
          have c7 := cell_blk HR8.out 7 (v := .int .i64 yb) rfl
          have c8 := cell_blk HR8.out 8 (v := .int .i64 mb) rfl
          have c9 := cell_blk HR8.out 9 (v := .int .i64 eb) rfl
          go_wp2_with fail
          clear c0 c1 c2 c3 c4 c5 c6 c7 c8 c9
          refine (HMY.out _).mono ?_
          rintro e w9 ⟨rfl, hb9⟩
          have HB9 := Lib.hid (HB8.out.trans (hb9.mono HB8.out.size))
          clear hb9
          have hz := (HSS.out w9 HB9.out).1
          have HZ := Lib.hid hz
          have r0 := cell_blk hz 0 (v := .int .i64 0) rfl
          have f0 := frz_blk hz 0
          have r1 := cell_blk hz 1 (v := .int .i64 0) rfl
          have f1 := frz_blk hz 1
          have r2 := cell_blk hz 2 (v := .int .i64 0) rfl
          have f2 := frz_blk hz 2
          have r3 := cell_blk hz 3 (v := .int .i64 0) rfl
          have f3 := frz_blk hz 3
          have r4 := cell_blk hz 4 (v := .int .i64 0) rfl
          have f4 := frz_blk hz 4
          have r5 := cell_blk hz 5 (v := .int .i64 0) rfl
          have f5 := frz_blk hz 5
          have r6 := cell_blk hz 6 (v := .int .i64 0) rfl
          have f6 := frz_blk hz 6
          have r7 := cell_blk hz 7 (v := .int .i64 0) rfl
          have f7 := frz_blk hz 7
          have r8 := cell_blk hz 8 (v := .int .i64 0) rfl
          have f8 := frz_blk hz 8
          have r9 := cell_blk hz 9 (v := .int .i64 0) rfl
          have f9 := frz_blk hz 9
          clear hz
          go_wp2_with fail
          refine bodyPost_ret (results_cell2 rfl _ _ w.heap.size _ _ (0, 0) _ rfl (set10 HZ.out) Tryz.underlying25 rfl (by kernel_rfl)) rfl ?_
          exact ⟨congrArg Ending.returned ((congrArg ans2 (may_or_no (true && true) _ (.inr hm))).trans ans2_none).symm, below_set10 (HB3.out.trans (HB9.out.mono HB3.out.size)) (Nat.le_refl _)⟩
        · rw [hm] at HMY
          have c0 := cell_blk HR8.out 0 (v := .int .i64 3) rfl
          have c1 := cell_blk HR8.out 1 (v := .int .i64 0) rfl
          have c2 := cell_blk HR8.out 2 (v := .int .i64 0) rfl
          have c3 := cell_blk HR8.out 3 (v := .int .i64 0) rfl
          have c4 := cell_blk HR8.out 4 (v := .int .i64 ya) rfl
          have c5 := cell_blk HR8.out 5 (v := .int .i64 ma) rfl
          have c6 := cell_blk HR8.out 6 (v := .int .i64 ea) rfl
          have c7 := cell_blk HR8.out 7 (v := .int .i64 yb) rfl
          have c8 := cell_blk HR8.out 8 (v := .int .i64 mb) rfl
          have c9 := cell_blk HR8.out 9 (v := .int .i64 eb) rfl
          go_wp2_with fail
          clear c0 c1 c2 c3 c4 c5 c6 c7 c8 c9
          refine (HMY.out _).mono ?_
          rintro e w9 ⟨rfl, hb9⟩
          have HB9 := Lib.hid (HB8.out.trans (hb9.mono HB8.out.size))
          have hr9 := (hb9.block _ (Array.getElem?_eq_some_iff.1 HR8.out).1).trans HR8.out
          have c0 := cell_blk hr9 0 (v := .int .i64 3) rfl
          have c1 := cell_blk hr9 1 (v := .int .i64 0) rfl
          have c2 := cell_blk hr9 2 (v := .int .i64 0) rfl
          have c3 := cell_blk hr9 3 (v := .int .i64 0) rfl
          have c4 := cell_blk hr9 4 (v := .int .i64 ya) rfl
          have c5 := cell_blk hr9 5 (v := .int .i64 ma) rfl
          have c6 := cell_blk hr9 6 (v := .int .i64 ea) rfl
          have c7 := cell_blk hr9 7 (v := .int .i64 yb) rfl
          have c8 := cell_blk hr9 8 (v := .int .i64 mb) rfl
          have c9 := cell_blk hr9 9 (v := .int .i64 eb) rfl
          clear hb9 hr9
          have hz := (HSS.out w9 HB9.out).1
          have HZ := Lib.hid hz
          have r0 := cell_blk hz 0 (v := .int .i64 0) rfl
          have f0 := frz_blk hz 0
          have r1 := cell_blk hz 1 (v := .int .i64 0) rfl
          have f1 := frz_blk hz 1
          have r2 := cell_blk hz 2 (v := .int .i64 0) rfl
          have f2 := frz_blk hz 2
          have r3 := cell_blk hz 3 (v := .int .i64 0) rfl
          have f3 := frz_blk hz 3
          have r4 := cell_blk hz 4 (v := .int .i64 0) rfl
          have f4 := frz_blk hz 4
          have r5 := cell_blk hz 5 (v := .int .i64 0) rfl
          have f5 := frz_blk hz 5
          have r6 := cell_blk hz 6 (v := .int .i64 0) rfl
          have f6 := frz_blk hz 6
          have r7 := cell_blk hz 7 (v := .int .i64 0) rfl
          have f7 := frz_blk hz 7
          have r8 := cell_blk hz 8 (v := .int .i64 0) rfl
          have f8 := frz_blk hz 8
          have r9 := cell_blk hz 9 (v := .int .i64 0) rfl
          have f9 := frz_blk hz 9
          clear hz
          go_wp2_with fail
          refine bodyPost_ret (results_cell2 rfl _ _ w.heap.size _ _ (0, 0) _ rfl (set10 HZ.out) Tryz.underlying25 rfl (by kernel_rfl)) rfl ?_
          exact ⟨congrArg Ending.returned ((congrArg ans2 (may_or_yes (true && true) _ rfl hm)).trans (ans2_some _)).symm, below_set10 (HB3.out.trans (HB9.out.mono HB3.out.size)) (Nat.le_refl _)⟩
end Go.Proofs.YtjfmnflcgenpaaaGreatDoor

/- Contract: rule's read. -/
import Derived.Test.YtjfmnflcgenpaaaGreatDoorRlJ
namespace Go.Proofs.YtjfmnflcgenpaaaGreatDoor
open Go.RowKit

theorem set10 {w : World} {g : Nat} {u0 u1 u2 u3 u4 u5 u6 u7 u8 u9 v0 v1 v2 v3 v4 v5 v6 v7 v8 v9 : Value} {t : TypeId} (h : w.heap[g]? = some (.cells #[u0, u1, u2, u3, u4, u5, u6, u7, u8, u9] t (0, 0))) :
    ((((((((((w.setCell ⟨g, 0, none⟩ v0).setCell ⟨g, 1, none⟩ v1).setCell ⟨g, 2, none⟩ v2).setCell ⟨g, 3, none⟩ v3).setCell ⟨g, 4, none⟩ v4).setCell ⟨g, 5, none⟩ v5).setCell ⟨g, 6, none⟩ v6).setCell ⟨g, 7, none⟩ v7).setCell ⟨g, 8, none⟩ v8).setCell ⟨g, 9, none⟩ v9).heap[g]? = some (.cells #[v0, v1, v2, v3, v4, v5, v6, v7, v8, v9] t (0, 0)) := by
  have e0 := heap_setCell_same w g 0 _ t v0 h
  have e1 := heap_setCell_same _ g 1 _ t v1 e0
  have e2 := heap_setCell_same _ g 2 _ t v2 e1
  have e3 := heap_setCell_same _ g 3 _ t v3 e2
  have e4 := heap_setCell_same _ g 4 _ t v4 e3
  have e5 := heap_setCell_same _ g 5 _ t v5 e4
  have e6 := heap_setCell_same _ g 6 _ t v6 e5
  have e7 := heap_setCell_same _ g 7 _ t v7 e6
  have e8 := heap_setCell_same _ g 8 _ t v8 e7
  have e9 := heap_setCell_same _ g 9 _ t v9 e8
  simp only [List.setIfInBounds_toArray, List.set_cons_zero, List.set_cons_succ] at e9
  exact e9
theorem below_set10 {w W : World} {B g : Nat} {v0 v1 v2 v3 v4 v5 v6 v7 v8 v9 : Value} (h : Below B w W) (hg : B ≤ g) : Below B w ((((((((((W.setCell ⟨g, 0, none⟩ v0).setCell ⟨g, 1, none⟩ v1).setCell ⟨g, 2, none⟩ v2).setCell ⟨g, 3, none⟩ v3).setCell ⟨g, 4, none⟩ v4).setCell ⟨g, 5, none⟩ v5).setCell ⟨g, 6, none⟩ v6).setCell ⟨g, 7, none⟩ v7).setCell ⟨g, 8, none⟩ v8).setCell ⟨g, 9, none⟩ v9) :=
  ((((((((((h.setCell hg v0).setCell hg v1).setCell hg v2).setCell hg v3).setCell hg v4).setCell hg v5).setCell hg v6).setCell hg v7).setCell hg v8).setCell hg v9)
theorem str_eq_lit (a b : List UInt8) : ((str a).toList == b) = decide (a = b) := by
  rw [str_toList, Bool.eq_iff_iff]
  simp
set_option maxRecDepth 100000 in
set_option maxHeartbeats 1000000 in
theorem read0 (s : List UInt8) (w : World) (hs : s.length ≤ 1000) (hE : En w) (hw : (Lib.cut s [32]).1 = wW) :
    Calls Tryz.prog 32 #[.string (str s)] w fun e w' => e = .returned (rv (⟨0, 0, 0, fld 32 (Lib.cut s [32]).2.1 0, 0, 0, 0, 0, 0, 0⟩)) ∧ Below w.heap.size w w' := by
  have hb0 := (Below.refl w.heap.size w).alloc (Nat.le_refl _) (.cells #[.int .i64 0, .int .i64 0, .int .i64 0, .int .i64 0, .int .i64 0, .int .i64 0, .int .i64 0, .int .i64 0, .int .i64 0, .int .i64 0] 32)
  have G0 := Lib.hid (heap_alloc_new w (.cells #[.int .i64 0, .int .i64 0, .int .i64 0, .int .i64 0, .int .i64 0, .int .i64 0, .int .i64 0, .int .i64 0, .int .i64 0, .int .i64 0] 32))
  have HC := Lib.hid (cut_any s 32 { data := #[32] } _ rfl hs (hE.below hb0).mx)
  have hl := Nat.le_trans (cut_len s 32).2 hs
  have HE := Lib.hid (fun W (hW : Below w.heap.size w W) => hE.below hW)
  have HB0 := Lib.hid hb0
  have x0 : ((str (Lib.cut s [32]).1).toList == [119, 101, 101, 107, 100, 97, 121]) = true := (str_eq_lit _ _).trans (decide_eq_true hw)
  clear hE hb0 hs hw
  generalize str (Lib.cut s [32]).1 = wd at *
  generalize (Lib.cut s [32]).2.1 = r at *
  unfold rv
  simp only
  go_enter Tryz.func32, Tryz.ntmps32
  go_wp2_with fail
  refine HC.out.mono ?_
  rintro e w2 ⟨b, rfl, hb2⟩
  have hb3 := HB0.out.trans (hb2.mono HB0.out.size)
  have hg2 := (hb2.block w.heap.size (by simp)).trans G0.out
  have hlt2 := (Array.getElem?_eq_some_iff.1 hg2).1
  have hb4 := (hb3.alloc hb3.size (.cells #[.int .i64 0, .int .i64 0, .int .i64 0, .int .i64 0, .int .i64 0, .int .i64 0, .int .i64 0, .int .i64 0, .int .i64 0, .int .i64 0] 32)).alloc (by simp; omega) (.cells #[.pointer (some ⟨w2.heap.size, 3, none⟩)] 98)
  have hgr := (Below.heap_alloc (w2.alloc (.cells #[.int .i64 0, .int .i64 0, .int .i64 0, .int .i64 0, .int .i64 0, .int .i64 0, .int .i64 0, .int .i64 0, .int .i64 0, .int .i64 0] 32)) (.cells #[.pointer (some ⟨w2.heap.size, 3, none⟩)] 98) w2.heap.size (by simp)).trans (heap_alloc_new w2 (.cells #[.int .i64 0, .int .i64 0, .int .i64 0, .int .i64 0, .int .i64 0, .int .i64 0, .int .i64 0, .int .i64 0, .int .i64 0, .int .i64 0] 32))
  have hg0 := (Below.heap_alloc (w2.alloc (.cells #[.int .i64 0, .int .i64 0, .int .i64 0, .int .i64 0, .int .i64 0, .int .i64 0, .int .i64 0, .int .i64 0, .int .i64 0, .int .i64 0] 32)) (.cells #[.pointer (some ⟨w2.heap.size, 3, none⟩)] 98) w.heap.size (by simp; omega)).trans ((Below.heap_alloc w2 (.cells #[.int .i64 0, .int .i64 0, .int .i64 0, .int .i64 0, .int .i64 0, .int .i64 0, .int .i64 0, .int .i64 0, .int .i64 0, .int .i64 0] 32) w.heap.size hlt2).trans hg2)
  have hrd := Rd.block (heap_new2 w2 (.cells #[.int .i64 0, .int .i64 0, .int .i64 0, .int .i64 0, .int .i64 0, .int .i64 0, .int .i64 0, .int .i64 0, .int .i64 0, .int .i64 0] 32) (.cells #[.pointer (some ⟨w2.heap.size, 3, none⟩)] 98))
  have HT := Lib.hid (take_any r 32 { data := #[32] } _ [3] 1 1 w2.heap.size w2.heap.size _ _ _ rfl hl rfl (by omega) (by omega) (by omega) hrd (fun p hp => by cases hp; show w2.heap.size + 1 ≠ w2.heap.size; omega) hgr (Nat.le_refl _) (fun x hx => by simp at hx; show x < 10; omega) (fun W hW => HE.out W (hb4.trans (hW.mono hb3.size))))
  have HB4 := Lib.hid hb4
  have HK4 := Lib.hid hg0
  have HL2 := Lib.hid hlt2
  clear hb2 hb3 hb4 hgr hg0 hrd hg2 hlt2 HC HB0 G0 hl
  go_wp2_with fail
  refine HT.out.mono ?_
  rintro e w6 ⟨rfl, hg6, hb5⟩
  have hb6 := HB4.out.trans (hb5.mono (Nat.le_of_lt HL2.out))
  have g06 := (hb5.block w.heap.size HL2.out).trans HK4.out
  have hput : putF [3] (fld 32 r) #[.int .i64 0, .int .i64 0, .int .i64 0, .int .i64 0, .int .i64 0, .int .i64 0, .int .i64 0, .int .i64 0, .int .i64 0, .int .i64 0] 1 = #[.int .i64 0, .int .i64 0, .int .i64 0, .int .i64 (fld 32 r 0), .int .i64 0, .int .i64 0, .int .i64 0, .int .i64 0, .int .i64 0, .int .i64 0] := rfl
  rw [hput] at hg6
  clear hb5 hput HT
  have K0 := cell_blk hg6 0 (v := .int .i64 0) rfl
  have K1 := cell_blk hg6 1 (v := .int .i64 0) rfl
  have K2 := cell_blk hg6 2 (v := .int .i64 0) rfl
  have K3 := cell_blk hg6 3 (v := .int .i64 (fld 32 r 0)) rfl
  have K4 := cell_blk hg6 4 (v := .int .i64 0) rfl
  have K5 := cell_blk hg6 5 (v := .int .i64 0) rfl
  have K6 := cell_blk hg6 6 (v := .int .i64 0) rfl
  have K7 := cell_blk hg6 7 (v := .int .i64 0) rfl
  have K8 := cell_blk hg6 8 (v := .int .i64 0) rfl
  have K9 := cell_blk hg6 9 (v := .int .i64 0) rfl
  have Z0 := cell_blk g06 0 (v := .int .i64 0) rfl
  have F0 := frz_blk g06 0
  have Z1 := cell_blk g06 1 (v := .int .i64 0) rfl
  have F1 := frz_blk g06 1
  have Z2 := cell_blk g06 2 (v := .int .i64 0) rfl
  have F2 := frz_blk g06 2
  have Z3 := cell_blk g06 3 (v := .int .i64 0) rfl
  have F3 := frz_blk g06 3
  have Z4 := cell_blk g06 4 (v := .int .i64 0) rfl
  have F4 := frz_blk g06 4
  have Z5 := cell_blk g06 5 (v := .int .i64 0) rfl
  have F5 := frz_blk g06 5
  have Z6 := cell_blk g06 6 (v := .int .i64 0) rfl
  have F6 := frz_blk g06 6
  have Z7 := cell_blk g06 7 (v := .int .i64 0) rfl
  have F7 := frz_blk g06 7
  have Z8 := cell_blk g06 8 (v := .int .i64 0) rfl
  have F8 := frz_blk g06 8
  have Z9 := cell_blk g06 9 (v := .int .i64 0) rfl
  have F9 := frz_blk g06 9
  have HB6 := Lib.hid hb6
  have HK6 := Lib.hid g06
  clear hg6 hb6 g06
  go_wp2_with fail
  refine bodyPost_ret (results_cell_row rfl _ _ w.heap.size _ _ (0, 0) _ rfl (set10 HK6.out) Tryz.underlying32 rfl (by kernel_rfl)) rfl ?_
  exact ⟨rfl, below_set10 HB6.out (Nat.le_refl _)⟩
set_option maxRecDepth 100000 in
set_option maxHeartbeats 1000000 in
theorem read1 (s : List UInt8) (w : World) (hs : s.length ≤ 1000) (hE : En w) (hw : (Lib.cut s [32]).1 = dW) :
    Calls Tryz.prog 32 #[.string (str s)] w fun e w' => e = .returned (rv (⟨1, fld 32 (Lib.cut s [32]).2.1 0, fld 32 (Lib.cut s [32]).2.1 1, 0, 0, 0, 0, 0, 0, 0⟩)) ∧ Below w.heap.size w w' := by
  have hb0 := (Below.refl w.heap.size w).alloc (Nat.le_refl _) (.cells #[.int .i64 0, .int .i64 0, .int .i64 0, .int .i64 0, .int .i64 0, .int .i64 0, .int .i64 0, .int .i64 0, .int .i64 0, .int .i64 0] 32)
  have G0 := Lib.hid (heap_alloc_new w (.cells #[.int .i64 0, .int .i64 0, .int .i64 0, .int .i64 0, .int .i64 0, .int .i64 0, .int .i64 0, .int .i64 0, .int .i64 0, .int .i64 0] 32))
  have HC := Lib.hid (cut_any s 32 { data := #[32] } _ rfl hs (hE.below hb0).mx)
  have hl := Nat.le_trans (cut_len s 32).2 hs
  have HE := Lib.hid (fun W (hW : Below w.heap.size w W) => hE.below hW)
  have HB0 := Lib.hid hb0
  have x0 : ((str (Lib.cut s [32]).1).toList == [119, 101, 101, 107, 100, 97, 121]) = false := (str_eq_lit _ _).trans (decide_eq_false (by rw [hw]; decide))
  have x1 : ((str (Lib.cut s [32]).1).toList == [100, 97, 121]) = true := (str_eq_lit _ _).trans (decide_eq_true hw)
  clear hE hb0 hs hw
  generalize str (Lib.cut s [32]).1 = wd at *
  generalize (Lib.cut s [32]).2.1 = r at *
  unfold rv
  simp only
  go_enter Tryz.func32, Tryz.ntmps32
  go_wp2_with fail
  refine HC.out.mono ?_
  rintro e w2 ⟨b, rfl, hb2⟩
  have hb3 := HB0.out.trans (hb2.mono HB0.out.size)
  have hg2 := (hb2.block w.heap.size (by simp)).trans G0.out
  have hlt2 := (Array.getElem?_eq_some_iff.1 hg2).1
  have hb4 := (hb3.alloc hb3.size (.cells #[.int .i64 1, .int .i64 0, .int .i64 0, .int .i64 0, .int .i64 0, .int .i64 0, .int .i64 0, .int .i64 0, .int .i64 0, .int .i64 0] 32)).alloc (by simp; omega) (.cells #[.pointer (some ⟨w2.heap.size, 1, none⟩), .pointer (some ⟨w2.heap.size, 2, none⟩)] 98)
  have hgr := (Below.heap_alloc (w2.alloc (.cells #[.int .i64 1, .int .i64 0, .int .i64 0, .int .i64 0, .int .i64 0, .int .i64 0, .int .i64 0, .int .i64 0, .int .i64 0, .int .i64 0] 32)) (.cells #[.pointer (some ⟨w2.heap.size, 1, none⟩), .pointer (some ⟨w2.heap.size, 2, none⟩)] 98) w2.heap.size (by simp)).trans (heap_alloc_new w2 (.cells #[.int .i64 1, .int .i64 0, .int .i64 0, .int .i64 0, .int .i64 0, .int .i64 0, .int .i64 0, .int .i64 0, .int .i64 0, .int .i64 0] 32))
  have hg0 := (Below.heap_alloc (w2.alloc (.cells #[.int .i64 1, .int .i64 0, .int .i64 0, .int .i64 0, .int .i64 0, .int .i64 0, .int .i64 0, .int .i64 0, .int .i64 0, .int .i64 0] 32)) (.cells #[.pointer (some ⟨w2.heap.size, 1, none⟩), .pointer (some ⟨w2.heap.size, 2, none⟩)] 98) w.heap.size (by simp; omega)).trans ((Below.heap_alloc w2 (.cells #[.int .i64 1, .int .i64 0, .int .i64 0, .int .i64 0, .int .i64 0, .int .i64 0, .int .i64 0, .int .i64 0, .int .i64 0, .int .i64 0] 32) w.heap.size hlt2).trans hg2)
  have hrd := Rd.block (heap_new2 w2 (.cells #[.int .i64 1, .int .i64 0, .int .i64 0, .int .i64 0, .int .i64 0, .int .i64 0, .int .i64 0, .int .i64 0, .int .i64 0, .int .i64 0] 32) (.cells #[.pointer (some ⟨w2.heap.size, 1, none⟩), .pointer (some ⟨w2.heap.size, 2, none⟩)] 98))
  have HT := Lib.hid (take_any r 32 { data := #[32] } _ [1, 2] 2 2 w2.heap.size w2.heap.size _ _ _ rfl hl rfl (by omega) (by omega) (by omega) hrd (fun p hp => by cases hp; show w2.heap.size + 1 ≠ w2.heap.size; omega) hgr (Nat.le_refl _) (fun x hx => by simp at hx; show x < 10; omega) (fun W hW => HE.out W (hb4.trans (hW.mono hb3.size))))
  have HB4 := Lib.hid hb4
  have HK4 := Lib.hid hg0
  have HL2 := Lib.hid hlt2
  clear hb2 hb3 hb4 hgr hg0 hrd hg2 hlt2 HC HB0 G0 hl
  go_wp2_with fail
  refine HT.out.mono ?_
  rintro e w6 ⟨rfl, hg6, hb5⟩
  have hb6 := HB4.out.trans (hb5.mono (Nat.le_of_lt HL2.out))
  have g06 := (hb5.block w.heap.size HL2.out).trans HK4.out
  have hput : putF [1, 2] (fld 32 r) #[.int .i64 1, .int .i64 0, .int .i64 0, .int .i64 0, .int .i64 0, .int .i64 0, .int .i64 0, .int .i64 0, .int .i64 0, .int .i64 0] 2 = #[.int .i64 1, .int .i64 (fld 32 r 0), .int .i64 (fld 32 r 1), .int .i64 0, .int .i64 0, .int .i64 0, .int .i64 0, .int .i64 0, .int .i64 0, .int .i64 0] := rfl
  rw [hput] at hg6
  clear hb5 hput HT
  have K0 := cell_blk hg6 0 (v := .int .i64 1) rfl
  have K1 := cell_blk hg6 1 (v := .int .i64 (fld 32 r 0)) rfl
  have K2 := cell_blk hg6 2 (v := .int .i64 (fld 32 r 1)) rfl
  have K3 := cell_blk hg6 3 (v := .int .i64 0) rfl
  have K4 := cell_blk hg6 4 (v := .int .i64 0) rfl
  have K5 := cell_blk hg6 5 (v := .int .i64 0) rfl
  have K6 := cell_blk hg6 6 (v := .int .i64 0) rfl
  have K7 := cell_blk hg6 7 (v := .int .i64 0) rfl
  have K8 := cell_blk hg6 8 (v := .int .i64 0) rfl
  have K9 := cell_blk hg6 9 (v := .int .i64 0) rfl
  have Z0 := cell_blk g06 0 (v := .int .i64 0) rfl
  have F0 := frz_blk g06 0
  have Z1 := cell_blk g06 1 (v := .int .i64 0) rfl
  have F1 := frz_blk g06 1
  have Z2 := cell_blk g06 2 (v := .int .i64 0) rfl
  have F2 := frz_blk g06 2
  have Z3 := cell_blk g06 3 (v := .int .i64 0) rfl
  have F3 := frz_blk g06 3
  have Z4 := cell_blk g06 4 (v := .int .i64 0) rfl
  have F4 := frz_blk g06 4
  have Z5 := cell_blk g06 5 (v := .int .i64 0) rfl
  have F5 := frz_blk g06 5
  have Z6 := cell_blk g06 6 (v := .int .i64 0) rfl
  have F6 := frz_blk g06 6
  have Z7 := cell_blk g06 7 (v := .int .i64 0) rfl
  have F7 := frz_blk g06 7
  have Z8 := cell_blk g06 8 (v := .int .i64 0) rfl
  have F8 := frz_blk g06 8
  have Z9 := cell_blk g06 9 (v := .int .i64 0) rfl
  have F9 := frz_blk g06 9
  have HB6 := Lib.hid hb6
  have HK6 := Lib.hid g06
  clear hg6 hb6 g06
  go_wp2_with fail
  refine bodyPost_ret (results_cell_row rfl _ _ w.heap.size _ _ (0, 0) _ rfl (set10 HK6.out) Tryz.underlying32 rfl (by kernel_rfl)) rfl ?_
  exact ⟨rfl, below_set10 HB6.out (Nat.le_refl _)⟩
set_option maxRecDepth 100000 in
set_option maxHeartbeats 1000000 in
theorem read2 (s : List UInt8) (w : World) (hs : s.length ≤ 1000) (hE : En w) (hw : (Lib.cut s [32]).1 = nW) :
    Calls Tryz.prog 32 #[.string (str s)] w fun e w' => e = .returned (rv (⟨2, fld 32 (Lib.cut s [32]).2.1 0, fld 32 (Lib.cut s [32]).2.1 1, fld 32 (Lib.cut s [32]).2.1 2, 0, 0, 0, 0, 0, 0⟩)) ∧ Below w.heap.size w w' := by
  have hb0 := (Below.refl w.heap.size w).alloc (Nat.le_refl _) (.cells #[.int .i64 0, .int .i64 0, .int .i64 0, .int .i64 0, .int .i64 0, .int .i64 0, .int .i64 0, .int .i64 0, .int .i64 0, .int .i64 0] 32)
  have G0 := Lib.hid (heap_alloc_new w (.cells #[.int .i64 0, .int .i64 0, .int .i64 0, .int .i64 0, .int .i64 0, .int .i64 0, .int .i64 0, .int .i64 0, .int .i64 0, .int .i64 0] 32))
  have HC := Lib.hid (cut_any s 32 { data := #[32] } _ rfl hs (hE.below hb0).mx)
  have hl := Nat.le_trans (cut_len s 32).2 hs
  have HE := Lib.hid (fun W (hW : Below w.heap.size w W) => hE.below hW)
  have HB0 := Lib.hid hb0
  have x0 : ((str (Lib.cut s [32]).1).toList == [119, 101, 101, 107, 100, 97, 121]) = false := (str_eq_lit _ _).trans (decide_eq_false (by rw [hw]; decide))
  have x1 : ((str (Lib.cut s [32]).1).toList == [100, 97, 121]) = false := (str_eq_lit _ _).trans (decide_eq_false (by rw [hw]; decide))
  have x2 : ((str (Lib.cut s [32]).1).toList == [110, 116, 104]) = true := (str_eq_lit _ _).trans (decide_eq_true hw)
  clear hE hb0 hs hw
  generalize str (Lib.cut s [32]).1 = wd at *
  generalize (Lib.cut s [32]).2.1 = r at *
  unfold rv
  simp only
  go_enter Tryz.func32, Tryz.ntmps32
  go_wp2_with fail
  refine HC.out.mono ?_
  rintro e w2 ⟨b, rfl, hb2⟩
  have hb3 := HB0.out.trans (hb2.mono HB0.out.size)
  have hg2 := (hb2.block w.heap.size (by simp)).trans G0.out
  have hlt2 := (Array.getElem?_eq_some_iff.1 hg2).1
  have hb4 := (hb3.alloc hb3.size (.cells #[.int .i64 2, .int .i64 0, .int .i64 0, .int .i64 0, .int .i64 0, .int .i64 0, .int .i64 0, .int .i64 0, .int .i64 0, .int .i64 0] 32)).alloc (by simp; omega) (.cells #[.pointer (some ⟨w2.heap.size, 1, none⟩), .pointer (some ⟨w2.heap.size, 2, none⟩), .pointer (some ⟨w2.heap.size, 3, none⟩)] 98)
  have hgr := (Below.heap_alloc (w2.alloc (.cells #[.int .i64 2, .int .i64 0, .int .i64 0, .int .i64 0, .int .i64 0, .int .i64 0, .int .i64 0, .int .i64 0, .int .i64 0, .int .i64 0] 32)) (.cells #[.pointer (some ⟨w2.heap.size, 1, none⟩), .pointer (some ⟨w2.heap.size, 2, none⟩), .pointer (some ⟨w2.heap.size, 3, none⟩)] 98) w2.heap.size (by simp)).trans (heap_alloc_new w2 (.cells #[.int .i64 2, .int .i64 0, .int .i64 0, .int .i64 0, .int .i64 0, .int .i64 0, .int .i64 0, .int .i64 0, .int .i64 0, .int .i64 0] 32))
  have hg0 := (Below.heap_alloc (w2.alloc (.cells #[.int .i64 2, .int .i64 0, .int .i64 0, .int .i64 0, .int .i64 0, .int .i64 0, .int .i64 0, .int .i64 0, .int .i64 0, .int .i64 0] 32)) (.cells #[.pointer (some ⟨w2.heap.size, 1, none⟩), .pointer (some ⟨w2.heap.size, 2, none⟩), .pointer (some ⟨w2.heap.size, 3, none⟩)] 98) w.heap.size (by simp; omega)).trans ((Below.heap_alloc w2 (.cells #[.int .i64 2, .int .i64 0, .int .i64 0, .int .i64 0, .int .i64 0, .int .i64 0, .int .i64 0, .int .i64 0, .int .i64 0, .int .i64 0] 32) w.heap.size hlt2).trans hg2)
  have hrd := Rd.block (heap_new2 w2 (.cells #[.int .i64 2, .int .i64 0, .int .i64 0, .int .i64 0, .int .i64 0, .int .i64 0, .int .i64 0, .int .i64 0, .int .i64 0, .int .i64 0] 32) (.cells #[.pointer (some ⟨w2.heap.size, 1, none⟩), .pointer (some ⟨w2.heap.size, 2, none⟩), .pointer (some ⟨w2.heap.size, 3, none⟩)] 98))
  have HT := Lib.hid (take_any r 32 { data := #[32] } _ [1, 2, 3] 3 3 w2.heap.size w2.heap.size _ _ _ rfl hl rfl (by omega) (by omega) (by omega) hrd (fun p hp => by cases hp; show w2.heap.size + 1 ≠ w2.heap.size; omega) hgr (Nat.le_refl _) (fun x hx => by simp at hx; show x < 10; omega) (fun W hW => HE.out W (hb4.trans (hW.mono hb3.size))))
  have HB4 := Lib.hid hb4
  have HK4 := Lib.hid hg0
  have HL2 := Lib.hid hlt2
  clear hb2 hb3 hb4 hgr hg0 hrd hg2 hlt2 HC HB0 G0 hl
  go_wp2_with fail
  refine HT.out.mono ?_
  rintro e w6 ⟨rfl, hg6, hb5⟩
  have hb6 := HB4.out.trans (hb5.mono (Nat.le_of_lt HL2.out))
  have g06 := (hb5.block w.heap.size HL2.out).trans HK4.out
  have hput : putF [1, 2, 3] (fld 32 r) #[.int .i64 2, .int .i64 0, .int .i64 0, .int .i64 0, .int .i64 0, .int .i64 0, .int .i64 0, .int .i64 0, .int .i64 0, .int .i64 0] 3 = #[.int .i64 2, .int .i64 (fld 32 r 0), .int .i64 (fld 32 r 1), .int .i64 (fld 32 r 2), .int .i64 0, .int .i64 0, .int .i64 0, .int .i64 0, .int .i64 0, .int .i64 0] := rfl
  rw [hput] at hg6
  clear hb5 hput HT
  have K0 := cell_blk hg6 0 (v := .int .i64 2) rfl
  have K1 := cell_blk hg6 1 (v := .int .i64 (fld 32 r 0)) rfl
  have K2 := cell_blk hg6 2 (v := .int .i64 (fld 32 r 1)) rfl
  have K3 := cell_blk hg6 3 (v := .int .i64 (fld 32 r 2)) rfl
  have K4 := cell_blk hg6 4 (v := .int .i64 0) rfl
  have K5 := cell_blk hg6 5 (v := .int .i64 0) rfl
  have K6 := cell_blk hg6 6 (v := .int .i64 0) rfl
  have K7 := cell_blk hg6 7 (v := .int .i64 0) rfl
  have K8 := cell_blk hg6 8 (v := .int .i64 0) rfl
  have K9 := cell_blk hg6 9 (v := .int .i64 0) rfl
  have Z0 := cell_blk g06 0 (v := .int .i64 0) rfl
  have F0 := frz_blk g06 0
  have Z1 := cell_blk g06 1 (v := .int .i64 0) rfl
  have F1 := frz_blk g06 1
  have Z2 := cell_blk g06 2 (v := .int .i64 0) rfl
  have F2 := frz_blk g06 2
  have Z3 := cell_blk g06 3 (v := .int .i64 0) rfl
  have F3 := frz_blk g06 3
  have Z4 := cell_blk g06 4 (v := .int .i64 0) rfl
  have F4 := frz_blk g06 4
  have Z5 := cell_blk g06 5 (v := .int .i64 0) rfl
  have F5 := frz_blk g06 5
  have Z6 := cell_blk g06 6 (v := .int .i64 0) rfl
  have F6 := frz_blk g06 6
  have Z7 := cell_blk g06 7 (v := .int .i64 0) rfl
  have F7 := frz_blk g06 7
  have Z8 := cell_blk g06 8 (v := .int .i64 0) rfl
  have F8 := frz_blk g06 8
  have Z9 := cell_blk g06 9 (v := .int .i64 0) rfl
  have F9 := frz_blk g06 9
  have HB6 := Lib.hid hb6
  have HK6 := Lib.hid g06
  clear hg6 hb6 g06
  go_wp2_with fail
  refine bodyPost_ret (results_cell_row rfl _ _ w.heap.size _ _ (0, 0) _ rfl (set10 HK6.out) Tryz.underlying32 rfl (by kernel_rfl)) rfl ?_
  exact ⟨rfl, below_set10 HB6.out (Nat.le_refl _)⟩
set_option maxRecDepth 100000 in
set_option maxHeartbeats 1000000 in
theorem read4 (s : List UInt8) (w : World) (hs : s.length ≤ 1000) (hE : En w) (h0 : (Lib.cut s [32]).1 ≠ wW) (h1 : (Lib.cut s [32]).1 ≠ dW) (h2 : (Lib.cut s [32]).1 ≠ nW) (h3 : (Lib.cut s [32]).1 ≠ tW) :
    Calls Tryz.prog 32 #[.string (str s)] w fun e w' => e = .returned (rv (Rl.nil)) ∧ Below w.heap.size w w' := by
  have hb0 := (Below.refl w.heap.size w).alloc (Nat.le_refl _) (.cells #[.int .i64 0, .int .i64 0, .int .i64 0, .int .i64 0, .int .i64 0, .int .i64 0, .int .i64 0, .int .i64 0, .int .i64 0, .int .i64 0] 32)
  have G0 := Lib.hid (heap_alloc_new w (.cells #[.int .i64 0, .int .i64 0, .int .i64 0, .int .i64 0, .int .i64 0, .int .i64 0, .int .i64 0, .int .i64 0, .int .i64 0, .int .i64 0] 32))
  have HC := Lib.hid (cut_any s 32 { data := #[32] } _ rfl hs (hE.below hb0).mx)
  have hl := Nat.le_trans (cut_len s 32).2 hs
  have HE := Lib.hid (fun W (hW : Below w.heap.size w W) => hE.below hW)
  have HB0 := Lib.hid hb0
  have x0 : ((str (Lib.cut s [32]).1).toList == [119, 101, 101, 107, 100, 97, 121]) = false := (str_eq_lit _ _).trans (decide_eq_false h0)
  have x1 : ((str (Lib.cut s [32]).1).toList == [100, 97, 121]) = false := (str_eq_lit _ _).trans (decide_eq_false h1)
  have x2 : ((str (Lib.cut s [32]).1).toList == [110, 116, 104]) = false := (str_eq_lit _ _).trans (decide_eq_false h2)
  have x3 : ((str (Lib.cut s [32]).1).toList == [100, 97, 116, 101, 115]) = false := (str_eq_lit _ _).trans (decide_eq_false h3)
  clear hE hb0 hs h0 h1 h2 h3
  generalize str (Lib.cut s [32]).1 = wd at *
  generalize (Lib.cut s [32]).2.1 = r at *
  unfold rv Rl.nil
  simp only
  go_enter Tryz.func32, Tryz.ntmps32
  go_wp2_with fail
  refine HC.out.mono ?_
  rintro e w2 ⟨b, rfl, hb2⟩
  have hb3 := HB0.out.trans (hb2.mono HB0.out.size)
  have hg2 := (hb2.block w.heap.size (by simp)).trans G0.out
  have hlt2 := (Array.getElem?_eq_some_iff.1 hg2).1
  have hg6 := heap_alloc_new w2 (.cells #[.int .i64 0, .int .i64 0, .int .i64 0, .int .i64 0, .int .i64 0, .int .i64 0, .int .i64 0, .int .i64 0, .int .i64 0, .int .i64 0] 32)
  have g06 := (Below.heap_alloc w2 (.cells #[.int .i64 0, .int .i64 0, .int .i64 0, .int .i64 0, .int .i64 0, .int .i64 0, .int .i64 0, .int .i64 0, .int .i64 0, .int .i64 0] 32) w.heap.size hlt2).trans hg2
  have hb6 := hb3.alloc hb3.size (.cells #[.int .i64 0, .int .i64 0, .int .i64 0, .int .i64 0, .int .i64 0, .int .i64 0, .int .i64 0, .int .i64 0, .int .i64 0, .int .i64 0] 32)
  clear hb2 hb3 hg2 hlt2 HC HB0 G0 hl
  have K0 := cell_blk hg6 0 (v := .int .i64 0) rfl
  have K1 := cell_blk hg6 1 (v := .int .i64 0) rfl
  have K2 := cell_blk hg6 2 (v := .int .i64 0) rfl
  have K3 := cell_blk hg6 3 (v := .int .i64 0) rfl
  have K4 := cell_blk hg6 4 (v := .int .i64 0) rfl
  have K5 := cell_blk hg6 5 (v := .int .i64 0) rfl
  have K6 := cell_blk hg6 6 (v := .int .i64 0) rfl
  have K7 := cell_blk hg6 7 (v := .int .i64 0) rfl
  have K8 := cell_blk hg6 8 (v := .int .i64 0) rfl
  have K9 := cell_blk hg6 9 (v := .int .i64 0) rfl
  have Z0 := cell_blk g06 0 (v := .int .i64 0) rfl
  have F0 := frz_blk g06 0
  have Z1 := cell_blk g06 1 (v := .int .i64 0) rfl
  have F1 := frz_blk g06 1
  have Z2 := cell_blk g06 2 (v := .int .i64 0) rfl
  have F2 := frz_blk g06 2
  have Z3 := cell_blk g06 3 (v := .int .i64 0) rfl
  have F3 := frz_blk g06 3
  have Z4 := cell_blk g06 4 (v := .int .i64 0) rfl
  have F4 := frz_blk g06 4
  have Z5 := cell_blk g06 5 (v := .int .i64 0) rfl
  have F5 := frz_blk g06 5
  have Z6 := cell_blk g06 6 (v := .int .i64 0) rfl
  have F6 := frz_blk g06 6
  have Z7 := cell_blk g06 7 (v := .int .i64 0) rfl
  have F7 := frz_blk g06 7
  have Z8 := cell_blk g06 8 (v := .int .i64 0) rfl
  have F8 := frz_blk g06 8
  have Z9 := cell_blk g06 9 (v := .int .i64 0) rfl
  have F9 := frz_blk g06 9
  have HB6 := Lib.hid hb6
  have HK6 := Lib.hid g06
  clear hg6 hb6 g06
  go_wp2_with fail
  refine bodyPost_ret (results_cell_row rfl _ _ w.heap.size _ _ (0, 0) _ rfl (set10 HK6.out) Tryz.underlying32 rfl (by kernel_rfl)) rfl ?_
  exact ⟨rfl, below_set10 HB6.out (Nat.le_refl _)⟩
set_option maxRecDepth 100000 in
set_option maxHeartbeats 1000000 in
theorem read3 (s : List UInt8) (w : World) (hs : s.length ≤ 1000) (hE : En w) (hw : (Lib.cut s [32]).1 = tW) :
    Calls Tryz.prog 32 #[.string (str s)] w fun e w' => e = .returned (rv (⟨3, 0, 0, 0, fld 45 (Lib.cut (Lib.cut s [32]).2.1 [32]).1 0, fld 45 (Lib.cut (Lib.cut s [32]).2.1 [32]).1 1, fld 45 (Lib.cut (Lib.cut s [32]).2.1 [32]).1 2, fld 45 (Lib.cut (Lib.cut s [32]).2.1 [32]).2.1 0, fld 45 (Lib.cut (Lib.cut s [32]).2.1 [32]).2.1 1, fld 45 (Lib.cut (Lib.cut s [32]).2.1 [32]).2.1 2⟩)) ∧ Below w.heap.size w w' := by
  have hb0 := (Below.refl w.heap.size w).alloc (Nat.le_refl _) (.cells #[.int .i64 0, .int .i64 0, .int .i64 0, .int .i64 0, .int .i64 0, .int .i64 0, .int .i64 0, .int .i64 0, .int .i64 0, .int .i64 0] 32)
  have G0 := Lib.hid (heap_alloc_new w (.cells #[.int .i64 0, .int .i64 0, .int .i64 0, .int .i64 0, .int .i64 0, .int .i64 0, .int .i64 0, .int .i64 0, .int .i64 0, .int .i64 0] 32))
  have HC := Lib.hid (cut_any s 32 { data := #[32] } _ rfl hs (hE.below hb0).mx)
  have hl := Nat.le_trans (cut_len s 32).2 hs
  have HE := Lib.hid (fun W (hW : Below w.heap.size w W) => hE.below hW)
  have HB0 := Lib.hid hb0
  have x0 : ((str (Lib.cut s [32]).1).toList == [119, 101, 101, 107, 100, 97, 121]) = false := (str_eq_lit _ _).trans (decide_eq_false (by rw [hw]; decide))
  have x1 : ((str (Lib.cut s [32]).1).toList == [100, 97, 121]) = false := (str_eq_lit _ _).trans (decide_eq_false (by rw [hw]; decide))
  have x2 : ((str (Lib.cut s [32]).1).toList == [110, 116, 104]) = false := (str_eq_lit _ _).trans (decide_eq_false (by rw [hw]; decide))
  have x3 : ((str (Lib.cut s [32]).1).toList == [100, 97, 116, 101, 115]) = true := (str_eq_lit _ _).trans (decide_eq_true hw)
  clear hE hb0 hs hw
  generalize str (Lib.cut s [32]).1 = wd at *
  generalize (Lib.cut s [32]).2.1 = r at *
  have HC2 := Lib.hid (fun W (hW : En W) => cut_any r 32 { data := #[32] } W rfl hl hW.mx)
  have hla := Nat.le_trans (cut_len r 32).1 hl
  have hld := Nat.le_trans (cut_len r 32).2 hl
  generalize (Lib.cut r [32]).1 = a at *
  generalize (Lib.cut r [32]).2.1 = d at *
  unfold rv
  simp only
  go_enter Tryz.func32, Tryz.ntmps32
  go_wp2_with fail
  refine HC.out.mono ?_
  rintro e w2 ⟨b, rfl, hb2⟩
  have hb3 := HB0.out.trans (hb2.mono HB0.out.size)
  have hg2 := (hb2.block w.heap.size (by simp)).trans G0.out
  have hlt2 := (Array.getElem?_eq_some_iff.1 hg2).1
  have hb4 := hb3.alloc hb3.size (.cells #[.int .i64 3, .int .i64 0, .int .i64 0, .int .i64 0, .int .i64 0, .int .i64 0, .int .i64 0, .int .i64 0, .int .i64 0, .int .i64 0] 32)
  have hgr := heap_alloc_new w2 (.cells #[.int .i64 3, .int .i64 0, .int .i64 0, .int .i64 0, .int .i64 0, .int .i64 0, .int .i64 0, .int .i64 0, .int .i64 0, .int .i64 0] 32)
  have hg0 := (Below.heap_alloc w2 (.cells #[.int .i64 3, .int .i64 0, .int .i64 0, .int .i64 0, .int .i64 0, .int .i64 0, .int .i64 0, .int .i64 0, .int .i64 0, .int .i64 0] 32) w.heap.size hlt2).trans hg2
  have HC3 := Lib.hid (HC2.out _ (HE.out _ hb4))
  have HB4 := Lib.hid hb4
  have HK4 := Lib.hid hg0
  have HL2 := Lib.hid hlt2
  have HGR := Lib.hid hgr
  clear hb2 hb3 hb4 hgr hg0 hg2 hlt2 HC HB0 G0 hl
  go_wp2_with fail
  refine HC3.out.mono ?_
  rintro e w3 ⟨b', rfl, hb5⟩
  have hb6 := HB4.out.trans (hb5.mono HB4.out.size)
  have hg3 := (hb5.block w2.heap.size (by simp)).trans HGR.out
  have g03 := (hb5.block w.heap.size (by simp; have := HL2.out; omega)).trans HK4.out
  have HT1 := Lib.hid (takeDate_any a 4 w2.heap.size w2.heap.size _ _ w3 hla hg3 (Nat.le_refl _) (by show 6 < 10; omega) (fun W hW => HE.out W (hb6.trans (hW.mono (Nat.le_of_lt HL2.out)))))
  have HB5 := Lib.hid hb6
  have HK5 := Lib.hid g03
  clear hb5 hb6 hg3 g03 HC2 HC3 HB4 HK4 HGR hla
  go_wp2_with fail
  refine HT1.out.mono ?_
  rintro e w4 ⟨rfl, hg4, hb5⟩
  have hb6 := HB5.out.trans (hb5.mono (Nat.le_of_lt HL2.out))
  have g04 := (hb5.block w.heap.size HL2.out).trans HK5.out
  have hput : putF [4, 4 + 1, 4 + 2] (fld 45 a) #[.int .i64 3, .int .i64 0, .int .i64 0, .int .i64 0, .int .i64 0, .int .i64 0, .int .i64 0, .int .i64 0, .int .i64 0, .int .i64 0] 3 = #[.int .i64 3, .int .i64 0, .int .i64 0, .int .i64 0, .int .i64 (fld 45 a 0), .int .i64 (fld 45 a 1), .int .i64 (fld 45 a 2), .int .i64 0, .int .i64 0, .int .i64 0] := rfl
  rw [hput] at hg4
  have HT2 := Lib.hid (takeDate_any d 7 w2.heap.size w2.heap.size _ _ w4 hld hg4 (Nat.le_refl _) (by show 9 < 10; omega) (fun W hW => HE.out W (hb6.trans (hW.mono (Nat.le_of_lt HL2.out)))))
  have HB6' := Lib.hid hb6
  have HK6' := Lib.hid g04
  clear hb5 hb6 hg4 g04 HT1 HB5 HK5 hput hld
  go_wp2_with fail
  refine HT2.out.mono ?_
  rintro e w6 ⟨rfl, hg6, hb5⟩
  have hb6 := HB6'.out.trans (hb5.mono (Nat.le_of_lt HL2.out))
  have g06 := (hb5.block w.heap.size HL2.out).trans HK6'.out
  have hput : putF [7, 7 + 1, 7 + 2] (fld 45 d) #[.int .i64 3, .int .i64 0, .int .i64 0, .int .i64 0, .int .i64 (fld 45 a 0), .int .i64 (fld 45 a 1), .int .i64 (fld 45 a 2), .int .i64 0, .int .i64 0, .int .i64 0] 3 = #[.int .i64 3, .int .i64 0, .int .i64 0, .int .i64 0, .int .i64 (fld 45 a 0), .int .i64 (fld 45 a 1), .int .i64 (fld 45 a 2), .int .i64 (fld 45 d 0), .int .i64 (fld 45 d 1), .int .i64 (fld 45 d 2)] := rfl
  rw [hput] at hg6
  clear hb5 hput HT2 HB6' HK6'
  have K0 := cell_blk hg6 0 (v := .int .i64 3) rfl
  have K1 := cell_blk hg6 1 (v := .int .i64 0) rfl
  have K2 := cell_blk hg6 2 (v := .int .i64 0) rfl
  have K3 := cell_blk hg6 3 (v := .int .i64 0) rfl
  have K4 := cell_blk hg6 4 (v := .int .i64 (fld 45 a 0)) rfl
  have K5 := cell_blk hg6 5 (v := .int .i64 (fld 45 a 1)) rfl
  have K6 := cell_blk hg6 6 (v := .int .i64 (fld 45 a 2)) rfl
  have K7 := cell_blk hg6 7 (v := .int .i64 (fld 45 d 0)) rfl
  have K8 := cell_blk hg6 8 (v := .int .i64 (fld 45 d 1)) rfl
  have K9 := cell_blk hg6 9 (v := .int .i64 (fld 45 d 2)) rfl
  have Z0 := cell_blk g06 0 (v := .int .i64 0) rfl
  have F0 := frz_blk g06 0
  have Z1 := cell_blk g06 1 (v := .int .i64 0) rfl
  have F1 := frz_blk g06 1
  have Z2 := cell_blk g06 2 (v := .int .i64 0) rfl
  have F2 := frz_blk g06 2
  have Z3 := cell_blk g06 3 (v := .int .i64 0) rfl
  have F3 := frz_blk g06 3
  have Z4 := cell_blk g06 4 (v := .int .i64 0) rfl
  have F4 := frz_blk g06 4
  have Z5 := cell_blk g06 5 (v := .int .i64 0) rfl
  have F5 := frz_blk g06 5
  have Z6 := cell_blk g06 6 (v := .int .i64 0) rfl
  have F6 := frz_blk g06 6
  have Z7 := cell_blk g06 7 (v := .int .i64 0) rfl
  have F7 := frz_blk g06 7
  have Z8 := cell_blk g06 8 (v := .int .i64 0) rfl
  have F8 := frz_blk g06 8
  have Z9 := cell_blk g06 9 (v := .int .i64 0) rfl
  have F9 := frz_blk g06 9
  have HB6 := Lib.hid hb6
  have HK6 := Lib.hid g06
  clear hg6 hb6 g06
  go_wp2_with fail
  refine bodyPost_ret (results_cell_row rfl _ _ w.heap.size _ _ (0, 0) _ rfl (set10 HK6.out) Tryz.underlying32 rfl (by kernel_rfl)) rfl ?_
  exact ⟨rfl, below_set10 HB6.out (Nat.le_refl _)⟩
theorem read_any (s : List UInt8) (w : World) (hs : s.length ≤ 1000) (hE : En w) :
    Calls Tryz.prog 32 #[.string (str s)] w fun e w' => e = .returned (rv (rd s)) ∧ Below w.heap.size w w' := by
  unfold rd
  simp only
  by_cases h0 : (Lib.cut s [32]).1 = wW
  · rw [if_pos h0]
    exact read0 s w hs hE h0
  · rw [if_neg h0]
    by_cases h1 : (Lib.cut s [32]).1 = dW
    · rw [if_pos h1]
      exact read1 s w hs hE h1
    · rw [if_neg h1]
      by_cases h2 : (Lib.cut s [32]).1 = nW
      · rw [if_pos h2]
        exact read2 s w hs hE h2
      · rw [if_neg h2]
        by_cases h3 : (Lib.cut s [32]).1 = tW
        · rw [if_pos h3]
          exact read3 s w hs hE h3
        · rw [if_neg h3]
          exact read4 s w hs hE h0 h1 h2 h3
end Go.Proofs.YtjfmnflcgenpaaaGreatDoor

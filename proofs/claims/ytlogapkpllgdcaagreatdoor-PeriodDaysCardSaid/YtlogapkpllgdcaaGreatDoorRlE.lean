/- Contract: rule's Match. -/
import Derived.Test.YtlogapkpllgdcaaGreatDoorRlD
namespace Go.Proofs.YtlogapkpllgdcaaGreatDoor
open Go.RowKit

set_option maxRecDepth 100000 in
set_option maxHeartbeats 1000000 in
theorem match0 (wk : Int) (y : Int) (m : Nat) (d a : Int) (w : World) (ht : Tab w) (hi : Is y m d) (hn : nr y m d = a) (ha1 : -70368744177664 ≤ a) (ha2 : a ≤ 70368744177664) (hmay : mayR ⟨0, 0, 0, wk, 0, 0, 0, 0, 0, 0⟩ = true) :
    Calls Tryz.prog 37 #[rv ⟨0, 0, 0, wk, 0, 0, 0, 0, 0, 0⟩, .int .i64 a] w fun e w' => e = .returned (.tuple #[.bool (decide (wd a = wk)), .nilIface]) ∧ Below w.heap.size w w' := by
  have HC := Lib.hid (fun W (hT : Tab W) => check_any ⟨0, 0, 0, wk, 0, 0, 0, 0, 0, 0⟩ W hT)
  rw [hmay, if_pos rfl, errE_zero] at HC
  have HO := Lib.hid (fun W (hT : Tab W) => ofOk_any y m d a W hi hn ha1 ha2 hT)
  have hyb : -274877906944 ≤ y ∧ y < 274877906944 := by
    have h := nr_in hi
    rw [hn] at h
    exact year_bd h.1 h.2 ha1 ha2
  obtain ⟨hy1, hy2⟩ := hyb
  have HWd := Lib.hid (fun W => weekday_any a W)
  have HR : Hid ((wd a == wk) = decide (wd a = wk)) := by
    unfold Hid
    rw [Bool.eq_iff_iff]
    simp
  generalize decide (wd a = wk) = res at *
  generalize wd a = q at *
  have hb0 := (Below.refl w.heap.size w).alloc (Nat.le_refl _) (.cells #[.int .i64 0, .int .i64 0, .int .i64 0, .int .i64 wk, .int .i64 0, .int .i64 0, .int .i64 0, .int .i64 0, .int .i64 0, .int .i64 0] 66)
  have G0 := Lib.hid (heap_alloc_new w (.cells #[.int .i64 0, .int .i64 0, .int .i64 0, .int .i64 wk, .int .i64 0, .int .i64 0, .int .i64 0, .int .i64 0, .int .i64 0, .int .i64 0] 66))
  have HT := Lib.hid (ht.below hb0)
  have HB0 := Lib.hid hb0
  clear ht hb0 hmay hi hn ha1 ha2 hy1 hy2
  unfold rv at *
  unfold dt at *
  simp only at *
  go_enter Tryz.func37, Tryz.ntmps37
  go_wp2_with fail
  refine (HC.out _ HT.out).mono ?_
  rintro e w1 ⟨rfl, hb1⟩
  have HT1 := Lib.hid (HT.out.below hb1)
  have HB1 := Lib.hid (HB0.out.trans (hb1.mono HB0.out.size))
  have G1 := Lib.hid ((hb1.block w.heap.size (by simp)).trans G0.out)
  clear hb1 HC HB0 HT G0
  go_wp2_with fail
  refine (HO.out _ HT1.out).mono ?_
  rintro e w2 ⟨rfl, hb2⟩
  have HT2 := Lib.hid (HT1.out.below hb2)
  have hb3 := (HB1.out.trans (hb2.mono HB1.out.size))
  have HB2 := Lib.hid (hb3.alloc hb3.size (.cells #[.int .i64 y, .int .i64 m, .int .i64 d] 64))
  have g2 := (hb2.block w.heap.size (Array.getElem?_eq_some_iff.1 G1.out).1).trans G1.out
  have hlt : w.heap.size < w2.heap.size := (Array.getElem?_eq_some_iff.1 g2).1
  have gr := (Below.heap_alloc w2 (.cells #[.int .i64 y, .int .i64 m, .int .i64 d] 64) w.heap.size hlt).trans g2
  have HT3 := Lib.hid (HT2.out.below ((Below.refl w2.heap.size w2).alloc (Nat.le_refl _) (.cells #[.int .i64 y, .int .i64 m, .int .i64 d] 64)))
  have K0 := cell_blk gr 0 (v := .int .i64 0) rfl
  have K1 := cell_blk gr 1 (v := .int .i64 0) rfl
  have K2 := cell_blk gr 2 (v := .int .i64 0) rfl
  have K3 := cell_blk gr 3 (v := .int .i64 wk) rfl
  have K4 := cell_blk gr 4 (v := .int .i64 0) rfl
  have K5 := cell_blk gr 5 (v := .int .i64 0) rfl
  have K6 := cell_blk gr 6 (v := .int .i64 0) rfl
  have K7 := cell_blk gr 7 (v := .int .i64 0) rfl
  have K8 := cell_blk gr 8 (v := .int .i64 0) rfl
  have K9 := cell_blk gr 9 (v := .int .i64 0) rfl
  clear hb2 hb3 HB1 HT1 HT2 G1 HO g2 gr
  go_wp2_with fail
  go_region_held3 (fun W => W.cell? ⟨w.heap.size, 3, none⟩ = some (.int .i64 wk)) (first | exact K3)
    (first
      | (go_at_call 69
         refine (HWd.out _).mono ?_
         rintro e w3 ⟨rfl, rfl⟩))
  all_goals
    go_wp2_with fail
    go_ret2
    exact ⟨ret_bn HR.out, HB2.out.drew⟩
set_option maxRecDepth 100000 in
set_option maxHeartbeats 1000000 in
theorem match1 (mo n : Int) (y : Int) (m : Nat) (d a : Int) (w : World) (ht : Tab w) (hi : Is y m d) (hn : nr y m d = a) (ha1 : -70368744177664 ≤ a) (ha2 : a ≤ 70368744177664) (hmay : mayR ⟨1, mo, n, 0, 0, 0, 0, 0, 0, 0⟩ = true) (hn1 : -31 ≤ n) (hn2 : n ≤ 31) :
    Calls Tryz.prog 37 #[rv ⟨1, mo, n, 0, 0, 0, 0, 0, 0, 0⟩, .int .i64 a] w fun e w' => e = .returned (.tuple #[.bool (placeIn ⟨1, mo, n, 0, 0, 0, 0, 0, 0, 0⟩ y m d), .nilIface]) ∧ Below w.heap.size w w' := by
  have HC := Lib.hid (fun W (hT : Tab W) => check_any ⟨1, mo, n, 0, 0, 0, 0, 0, 0, 0⟩ W hT)
  rw [hmay, if_pos rfl, errE_zero] at HC
  have HO := Lib.hid (fun W (hT : Tab W) => ofOk_any y m d a W hi hn ha1 ha2 hT)
  have hyb : -274877906944 ≤ y ∧ y < 274877906944 := by
    have h := nr_in hi
    rw [hn] at h
    exact year_bd h.1 h.2 ha1 ha2
  obtain ⟨hy1, hy2⟩ := hyb
  have HM := Lib.hid (fun W (hT : Tab W) => inMonth_any ⟨1, mo, n, 0, 0, 0, 0, 0, 0, 0⟩ y m d W hT hi hy1 (by omega) hn1 hn2)
  generalize placeIn ⟨1, mo, n, 0, 0, 0, 0, 0, 0, 0⟩ y m d = res at *
  have hb0 := (Below.refl w.heap.size w).alloc (Nat.le_refl _) (.cells #[.int .i64 1, .int .i64 mo, .int .i64 n, .int .i64 0, .int .i64 0, .int .i64 0, .int .i64 0, .int .i64 0, .int .i64 0, .int .i64 0] 66)
  have G0 := Lib.hid (heap_alloc_new w (.cells #[.int .i64 1, .int .i64 mo, .int .i64 n, .int .i64 0, .int .i64 0, .int .i64 0, .int .i64 0, .int .i64 0, .int .i64 0, .int .i64 0] 66))
  have HT := Lib.hid (ht.below hb0)
  have HB0 := Lib.hid hb0
  clear ht hb0 hmay hi hn ha1 ha2 hy1 hy2
  unfold rv at *
  unfold dt at *
  simp only at *
  go_enter Tryz.func37, Tryz.ntmps37
  go_wp2_with fail
  refine (HC.out _ HT.out).mono ?_
  rintro e w1 ⟨rfl, hb1⟩
  have HT1 := Lib.hid (HT.out.below hb1)
  have HB1 := Lib.hid (HB0.out.trans (hb1.mono HB0.out.size))
  have G1 := Lib.hid ((hb1.block w.heap.size (by simp)).trans G0.out)
  clear hb1 HC HB0 HT G0
  go_wp2_with fail
  refine (HO.out _ HT1.out).mono ?_
  rintro e w2 ⟨rfl, hb2⟩
  have HT2 := Lib.hid (HT1.out.below hb2)
  have hb3 := (HB1.out.trans (hb2.mono HB1.out.size))
  have HB2 := Lib.hid (hb3.alloc hb3.size (.cells #[.int .i64 y, .int .i64 m, .int .i64 d] 64))
  have g2 := (hb2.block w.heap.size (Array.getElem?_eq_some_iff.1 G1.out).1).trans G1.out
  have hlt : w.heap.size < w2.heap.size := (Array.getElem?_eq_some_iff.1 g2).1
  have gr := (Below.heap_alloc w2 (.cells #[.int .i64 y, .int .i64 m, .int .i64 d] 64) w.heap.size hlt).trans g2
  have HT3 := Lib.hid (HT2.out.below ((Below.refl w2.heap.size w2).alloc (Nat.le_refl _) (.cells #[.int .i64 y, .int .i64 m, .int .i64 d] 64)))
  have K0 := cell_blk gr 0 (v := .int .i64 1) rfl
  have K1 := cell_blk gr 1 (v := .int .i64 mo) rfl
  have K2 := cell_blk gr 2 (v := .int .i64 n) rfl
  have K3 := cell_blk gr 3 (v := .int .i64 0) rfl
  have K4 := cell_blk gr 4 (v := .int .i64 0) rfl
  have K5 := cell_blk gr 5 (v := .int .i64 0) rfl
  have K6 := cell_blk gr 6 (v := .int .i64 0) rfl
  have K7 := cell_blk gr 7 (v := .int .i64 0) rfl
  have K8 := cell_blk gr 8 (v := .int .i64 0) rfl
  have K9 := cell_blk gr 9 (v := .int .i64 0) rfl
  clear hb2 hb3 HB1 HT1 HT2 G1 HO g2 gr
  go_wp2_with fail
  refine (HM.out _ HT3.out).mono ?_
  rintro e w3 ⟨rfl, hb3⟩
  have HB3 := Lib.hid (HB2.out.trans (hb3.mono HB2.out.size))
  clear hb3 K0 K1 K2 K3 K4 K5 K6 K7 K8 K9
  go_wp2_with fail
  go_ret2
  exact ⟨rfl, HB3.out⟩
set_option maxRecDepth 100000 in
set_option maxHeartbeats 1000000 in
theorem match2 (mo n wk : Int) (y : Int) (m : Nat) (d a : Int) (w : World) (ht : Tab w) (hi : Is y m d) (hn : nr y m d = a) (ha1 : -70368744177664 ≤ a) (ha2 : a ≤ 70368744177664) (hmay : mayR ⟨2, mo, n, wk, 0, 0, 0, 0, 0, 0⟩ = true) (hn1 : -5 ≤ n) (hn2 : n ≤ 5) (hw : wd a = wk) :
    Calls Tryz.prog 37 #[rv ⟨2, mo, n, wk, 0, 0, 0, 0, 0, 0⟩, .int .i64 a] w fun e w' => e = .returned (.tuple #[.bool (placeIn ⟨2, mo, n, wk, 0, 0, 0, 0, 0, 0⟩ y m d), .nilIface]) ∧ Below w.heap.size w w' := by
  have HC := Lib.hid (fun W (hT : Tab W) => check_any ⟨2, mo, n, wk, 0, 0, 0, 0, 0, 0⟩ W hT)
  rw [hmay, if_pos rfl, errE_zero] at HC
  have HO := Lib.hid (fun W (hT : Tab W) => ofOk_any y m d a W hi hn ha1 ha2 hT)
  have hyb : -274877906944 ≤ y ∧ y < 274877906944 := by
    have h := nr_in hi
    rw [hn] at h
    exact year_bd h.1 h.2 ha1 ha2
  obtain ⟨hy1, hy2⟩ := hyb
  have HM := Lib.hid (fun W (hT : Tab W) => inMonth_any ⟨2, mo, n, wk, 0, 0, 0, 0, 0, 0⟩ y m d W hT hi hy1 (by omega) (show -31 ≤ n by omega) (show n ≤ 31 by omega))
  generalize placeIn ⟨2, mo, n, wk, 0, 0, 0, 0, 0, 0⟩ y m d = res at *
  have HWd := Lib.hid (fun W => weekday_any a W)
  have hq : (wk != wk) = false := by simp
  rw [hw] at HWd
  clear hw
  have hb0 := (Below.refl w.heap.size w).alloc (Nat.le_refl _) (.cells #[.int .i64 2, .int .i64 mo, .int .i64 n, .int .i64 wk, .int .i64 0, .int .i64 0, .int .i64 0, .int .i64 0, .int .i64 0, .int .i64 0] 66)
  have G0 := Lib.hid (heap_alloc_new w (.cells #[.int .i64 2, .int .i64 mo, .int .i64 n, .int .i64 wk, .int .i64 0, .int .i64 0, .int .i64 0, .int .i64 0, .int .i64 0, .int .i64 0] 66))
  have HT := Lib.hid (ht.below hb0)
  have HB0 := Lib.hid hb0
  clear ht hb0 hmay hi hn ha1 ha2 hy1 hy2
  unfold rv at *
  unfold dt at *
  simp only at *
  go_enter Tryz.func37, Tryz.ntmps37
  go_wp2_with fail
  refine (HC.out _ HT.out).mono ?_
  rintro e w1 ⟨rfl, hb1⟩
  have HT1 := Lib.hid (HT.out.below hb1)
  have HB1 := Lib.hid (HB0.out.trans (hb1.mono HB0.out.size))
  have G1 := Lib.hid ((hb1.block w.heap.size (by simp)).trans G0.out)
  clear hb1 HC HB0 HT G0
  go_wp2_with fail
  refine (HO.out _ HT1.out).mono ?_
  rintro e w2 ⟨rfl, hb2⟩
  have HT2 := Lib.hid (HT1.out.below hb2)
  have hb3 := (HB1.out.trans (hb2.mono HB1.out.size))
  have HB2 := Lib.hid (hb3.alloc hb3.size (.cells #[.int .i64 y, .int .i64 m, .int .i64 d] 64))
  have g2 := (hb2.block w.heap.size (Array.getElem?_eq_some_iff.1 G1.out).1).trans G1.out
  have hlt : w.heap.size < w2.heap.size := (Array.getElem?_eq_some_iff.1 g2).1
  have gr := (Below.heap_alloc w2 (.cells #[.int .i64 y, .int .i64 m, .int .i64 d] 64) w.heap.size hlt).trans g2
  have HT3 := Lib.hid (HT2.out.below ((Below.refl w2.heap.size w2).alloc (Nat.le_refl _) (.cells #[.int .i64 y, .int .i64 m, .int .i64 d] 64)))
  have K0 := cell_blk gr 0 (v := .int .i64 2) rfl
  have K1 := cell_blk gr 1 (v := .int .i64 mo) rfl
  have K2 := cell_blk gr 2 (v := .int .i64 n) rfl
  have K3 := cell_blk gr 3 (v := .int .i64 wk) rfl
  have K4 := cell_blk gr 4 (v := .int .i64 0) rfl
  have K5 := cell_blk gr 5 (v := .int .i64 0) rfl
  have K6 := cell_blk gr 6 (v := .int .i64 0) rfl
  have K7 := cell_blk gr 7 (v := .int .i64 0) rfl
  have K8 := cell_blk gr 8 (v := .int .i64 0) rfl
  have K9 := cell_blk gr 9 (v := .int .i64 0) rfl
  clear hb2 hb3 HB1 HT1 HT2 G1 HO g2 gr
  go_wp2_with fail
  go_region_held3 (fun W => W.cell? ⟨w.heap.size, 3, none⟩ = some (.int .i64 wk)) (first | exact K3)
    (first
      | (go_at_call 69
         refine (HWd.out _).mono ?_
         rintro e w3 ⟨rfl, rfl⟩))
  all_goals
    go_wp2_with fail
    refine (HM.out _ (HT3.out.below (below_dr _))).mono ?_
    rintro e w3 ⟨rfl, hb3⟩
    have HB3 := Lib.hid (HB2.out.drew.trans (hb3.mono HB2.out.drew.size))
    clear hb3 K0 K1 K2 K3 K4 K5 K6 K7 K8 K9
    go_wp2_with fail
    go_ret2
    exact ⟨rfl, HB3.out⟩
set_option maxRecDepth 100000 in
set_option maxHeartbeats 1000000 in
theorem match2n (mo n wk : Int) (y : Int) (m : Nat) (d a : Int) (w : World) (ht : Tab w) (hi : Is y m d) (hn : nr y m d = a) (ha1 : -70368744177664 ≤ a) (ha2 : a ≤ 70368744177664) (hmay : mayR ⟨2, mo, n, wk, 0, 0, 0, 0, 0, 0⟩ = true) (hw : wd a ≠ wk) :
    Calls Tryz.prog 37 #[rv ⟨2, mo, n, wk, 0, 0, 0, 0, 0, 0⟩, .int .i64 a] w fun e w' => e = .returned (.tuple #[.bool (false), .nilIface]) ∧ Below w.heap.size w w' := by
  have HC := Lib.hid (fun W (hT : Tab W) => check_any ⟨2, mo, n, wk, 0, 0, 0, 0, 0, 0⟩ W hT)
  rw [hmay, if_pos rfl, errE_zero] at HC
  have HO := Lib.hid (fun W (hT : Tab W) => ofOk_any y m d a W hi hn ha1 ha2 hT)
  have hyb : -274877906944 ≤ y ∧ y < 274877906944 := by
    have h := nr_in hi
    rw [hn] at h
    exact year_bd h.1 h.2 ha1 ha2
  obtain ⟨hy1, hy2⟩ := hyb
  have HWd := Lib.hid (fun W => weekday_any a W)
  have hq : (wd a != wk) = true := by simpa using hw
  generalize wd a = q at *
  clear hw
  have hb0 := (Below.refl w.heap.size w).alloc (Nat.le_refl _) (.cells #[.int .i64 2, .int .i64 mo, .int .i64 n, .int .i64 wk, .int .i64 0, .int .i64 0, .int .i64 0, .int .i64 0, .int .i64 0, .int .i64 0] 66)
  have G0 := Lib.hid (heap_alloc_new w (.cells #[.int .i64 2, .int .i64 mo, .int .i64 n, .int .i64 wk, .int .i64 0, .int .i64 0, .int .i64 0, .int .i64 0, .int .i64 0, .int .i64 0] 66))
  have HT := Lib.hid (ht.below hb0)
  have HB0 := Lib.hid hb0
  clear ht hb0 hmay hi hn ha1 ha2 hy1 hy2
  unfold rv at *
  unfold dt at *
  simp only at *
  go_enter Tryz.func37, Tryz.ntmps37
  go_wp2_with fail
  refine (HC.out _ HT.out).mono ?_
  rintro e w1 ⟨rfl, hb1⟩
  have HT1 := Lib.hid (HT.out.below hb1)
  have HB1 := Lib.hid (HB0.out.trans (hb1.mono HB0.out.size))
  have G1 := Lib.hid ((hb1.block w.heap.size (by simp)).trans G0.out)
  clear hb1 HC HB0 HT G0
  go_wp2_with fail
  refine (HO.out _ HT1.out).mono ?_
  rintro e w2 ⟨rfl, hb2⟩
  have HT2 := Lib.hid (HT1.out.below hb2)
  have hb3 := (HB1.out.trans (hb2.mono HB1.out.size))
  have HB2 := Lib.hid (hb3.alloc hb3.size (.cells #[.int .i64 y, .int .i64 m, .int .i64 d] 64))
  have g2 := (hb2.block w.heap.size (Array.getElem?_eq_some_iff.1 G1.out).1).trans G1.out
  have hlt : w.heap.size < w2.heap.size := (Array.getElem?_eq_some_iff.1 g2).1
  have gr := (Below.heap_alloc w2 (.cells #[.int .i64 y, .int .i64 m, .int .i64 d] 64) w.heap.size hlt).trans g2
  have HT3 := Lib.hid (HT2.out.below ((Below.refl w2.heap.size w2).alloc (Nat.le_refl _) (.cells #[.int .i64 y, .int .i64 m, .int .i64 d] 64)))
  have K0 := cell_blk gr 0 (v := .int .i64 2) rfl
  have K1 := cell_blk gr 1 (v := .int .i64 mo) rfl
  have K2 := cell_blk gr 2 (v := .int .i64 n) rfl
  have K3 := cell_blk gr 3 (v := .int .i64 wk) rfl
  have K4 := cell_blk gr 4 (v := .int .i64 0) rfl
  have K5 := cell_blk gr 5 (v := .int .i64 0) rfl
  have K6 := cell_blk gr 6 (v := .int .i64 0) rfl
  have K7 := cell_blk gr 7 (v := .int .i64 0) rfl
  have K8 := cell_blk gr 8 (v := .int .i64 0) rfl
  have K9 := cell_blk gr 9 (v := .int .i64 0) rfl
  clear hb2 hb3 HB1 HT1 HT2 G1 HO g2 gr
  go_wp2_with fail
  go_region_held3 (fun W => W.cell? ⟨w.heap.size, 3, none⟩ = some (.int .i64 wk)) (first | exact K3)
    (first
      | (go_at_call 69
         refine (HWd.out _).mono ?_
         rintro e w3 ⟨rfl, rfl⟩))
  all_goals
    go_wp2_with fail
    go_ret2
    exact ⟨rfl, HB2.out.drew⟩
set_option maxRecDepth 100000 in
set_option maxHeartbeats 1000000 in
theorem match3 (fy fm fd ty tm td : Int) (y : Int) (m : Nat) (d a : Int) (w : World) (ht : Tab w) (hi : Is y m d) (hn : nr y m d = a) (ha1 : -70368744177664 ≤ a) (ha2 : a ≤ 70368744177664) (hmay : mayR ⟨3, 0, 0, 0, fy, fm, fd, ty, tm, td⟩ = true) (h1 : okD fy fm fd = true) (h2 : okD ty tm td = true) :
    Calls Tryz.prog 37 #[rv ⟨3, 0, 0, 0, fy, fm, fd, ty, tm, td⟩, .int .i64 a] w fun e w' => e = .returned (.tuple #[.bool (decide (dnr fy fm fd ≤ a ∧ a ≤ dnr ty tm td)), .nilIface]) ∧ Below w.heap.size w w' := by
  have HC := Lib.hid (fun W (hT : Tab W) => check_any ⟨3, 0, 0, 0, fy, fm, fd, ty, tm, td⟩ W hT)
  rw [hmay, if_pos rfl, errE_zero] at HC
  have HO := Lib.hid (fun W (hT : Tab W) => ofOk_any y m d a W hi hn ha1 ha2 hT)
  have hyb : -274877906944 ≤ y ∧ y < 274877906944 := by
    have h := nr_in hi
    rw [hn] at h
    exact year_bd h.1 h.2 ha1 ha2
  obtain ⟨hy1, hy2⟩ := hyb
  have HS := Lib.hid (fun W (hT : Tab W) => span_yes ⟨3, 0, 0, 0, fy, fm, fd, ty, tm, td⟩ W hT h1 h2)
  simp only at HS
  clear h1 h2
  generalize dnr fy fm fd = p at *
  generalize dnr ty tm td = q at *
  have HR : Hid (decide (p ≤ a ∧ a ≤ q) = decide (p ≤ a ∧ a ≤ q)) := rfl
  have hq : (¬ p ≤ a) ∨ (p ≤ a ∧ ¬ a ≤ q) ∨ (p ≤ a ∧ a ≤ q) := by omega
  generalize hres : decide (p ≤ a ∧ a ≤ q) = res at *
  replace HR : Hid (res = decide (p ≤ a ∧ a ≤ q)) := hres.symm
  clear hres
  have hb0 := (Below.refl w.heap.size w).alloc (Nat.le_refl _) (.cells #[.int .i64 3, .int .i64 0, .int .i64 0, .int .i64 0, .int .i64 fy, .int .i64 fm, .int .i64 fd, .int .i64 ty, .int .i64 tm, .int .i64 td] 66)
  have G0 := Lib.hid (heap_alloc_new w (.cells #[.int .i64 3, .int .i64 0, .int .i64 0, .int .i64 0, .int .i64 fy, .int .i64 fm, .int .i64 fd, .int .i64 ty, .int .i64 tm, .int .i64 td] 66))
  have HT := Lib.hid (ht.below hb0)
  have HB0 := Lib.hid hb0
  clear ht hb0 hmay hi hn ha1 ha2 hy1 hy2
  unfold rv at *
  unfold dt at *
  simp only at *
  go_enter Tryz.func37, Tryz.ntmps37
  go_wp2_with fail
  refine (HC.out _ HT.out).mono ?_
  rintro e w1 ⟨rfl, hb1⟩
  have HT1 := Lib.hid (HT.out.below hb1)
  have HB1 := Lib.hid (HB0.out.trans (hb1.mono HB0.out.size))
  have G1 := Lib.hid ((hb1.block w.heap.size (by simp)).trans G0.out)
  clear hb1 HC HB0 HT G0
  go_wp2_with fail
  refine (HO.out _ HT1.out).mono ?_
  rintro e w2 ⟨rfl, hb2⟩
  have HT2 := Lib.hid (HT1.out.below hb2)
  have hb3 := (HB1.out.trans (hb2.mono HB1.out.size))
  have HB2 := Lib.hid (hb3.alloc hb3.size (.cells #[.int .i64 y, .int .i64 m, .int .i64 d] 64))
  have g2 := (hb2.block w.heap.size (Array.getElem?_eq_some_iff.1 G1.out).1).trans G1.out
  have hlt : w.heap.size < w2.heap.size := (Array.getElem?_eq_some_iff.1 g2).1
  have gr := (Below.heap_alloc w2 (.cells #[.int .i64 y, .int .i64 m, .int .i64 d] 64) w.heap.size hlt).trans g2
  have HT3 := Lib.hid (HT2.out.below ((Below.refl w2.heap.size w2).alloc (Nat.le_refl _) (.cells #[.int .i64 y, .int .i64 m, .int .i64 d] 64)))
  have K0 := cell_blk gr 0 (v := .int .i64 3) rfl
  have K1 := cell_blk gr 1 (v := .int .i64 0) rfl
  have K2 := cell_blk gr 2 (v := .int .i64 0) rfl
  have K3 := cell_blk gr 3 (v := .int .i64 0) rfl
  have K4 := cell_blk gr 4 (v := .int .i64 fy) rfl
  have K5 := cell_blk gr 5 (v := .int .i64 fm) rfl
  have K6 := cell_blk gr 6 (v := .int .i64 fd) rfl
  have K7 := cell_blk gr 7 (v := .int .i64 ty) rfl
  have K8 := cell_blk gr 8 (v := .int .i64 tm) rfl
  have K9 := cell_blk gr 9 (v := .int .i64 td) rfl
  clear hb2 hb3 HB1 HT1 HT2 G1 HO g2 gr
  go_wp2_with fail
  all_goals
    refine (HS.out _ HT3.out).mono ?_
    rintro e w3 ⟨rfl, hb3⟩
    have HB3 := Lib.hid (HB2.out.trans (hb3.mono HB2.out.size))
    clear hb3 K0 K1 K2 K3 K4 K5 K6 K7 K8 K9
    rcases hq with hq | ⟨hq, hq'⟩ | ⟨hq, hq'⟩
    all_goals
      go_wp2_with fail
      go_ret2
      refine ⟨ret_bn ?_, HB3.out⟩
      rw [HR.out]
      first
      | exact (decide_eq_true (by omega)).symm
      | exact (decide_eq_false (by omega)).symm
      | (rw [Bool.eq_iff_iff]
         simp only [decide_eq_true_eq]
         omega)
set_option maxRecDepth 100000 in
theorem match_yes (r : Rl) (y : Int) (m : Nat) (d a : Int) (w : World) (ht : Tab w) (hi : Is y m d) (hn : nr y m d = a) (ha1 : -70368744177664 ≤ a) (ha2 : a ≤ 70368744177664) (h : mayR r = true) :
    Calls Tryz.prog 37 #[rv r, .int .i64 a] w fun e w' => e = .returned (.tuple #[.bool (hitsR r y m d a), .nilIface]) ∧ Below w.heap.size w w' := by
  rcases may_cases h with ⟨wk, rfl, h1, h2⟩ | ⟨mo, n, rfl, h1, h2, h3, h4, h5⟩ | ⟨mo, n, wk, rfl, h1, h2, h3, h4, h5, h6, h7⟩ | ⟨fy, fm, fd, ty, tm, td, rfl, h1, h2, h3, h4, h5, h6, h7⟩
  · have e : hitsR ⟨0, 0, 0, wk, 0, 0, 0, 0, 0, 0⟩ y m d a = decide (wd a = wk) := rfl
    rw [e]
    exact match0 wk y m d a w ht hi hn ha1 ha2 h
  · have e : hitsR ⟨1, mo, n, 0, 0, 0, 0, 0, 0, 0⟩ y m d a = placeIn ⟨1, mo, n, 0, 0, 0, 0, 0, 0, 0⟩ y m d := rfl
    rw [e]
    exact match1 mo n y m d a w ht hi hn ha1 ha2 h h4 h5
  · have e : hitsR ⟨2, mo, n, wk, 0, 0, 0, 0, 0, 0⟩ y m d a = (decide (wd a = wk) && placeIn ⟨2, mo, n, wk, 0, 0, 0, 0, 0, 0⟩ y m d) := rfl
    rw [e]
    by_cases hw : wd a = wk
    · rw [decide_eq_true hw, Bool.true_and]
      exact match2 mo n wk y m d a w ht hi hn ha1 ha2 h h4 h5 hw
    · rw [decide_eq_false hw, Bool.false_and]
      exact match2n mo n wk y m d a w ht hi hn ha1 ha2 h hw
  · have e : hitsR ⟨3, 0, 0, 0, fy, fm, fd, ty, tm, td⟩ y m d a = decide (dnr fy fm fd ≤ a ∧ a ≤ dnr ty tm td) := rfl
    rw [e]
    exact match3 fy fm fd ty tm td y m d a w ht hi hn ha1 ha2 h h1 h2
set_option maxRecDepth 100000 in
theorem match_no (r : Rl) (a : Int) (w : World) (ht : Tab w) (h : mayR r = false ∨ a < -70368744177664 ∨ 70368744177664 < a) :
    Calls Tryz.prog 37 #[rv r, .int .i64 a] w fun e w' => e = .returned (.tuple #[.bool false, errK 1]) ∧ Below w.heap.size w w' := by
  have HC := Lib.hid (fun W (hT : Tab W) => check_any r W hT)
  have hb0 := (Below.refl w.heap.size w).alloc (Nat.le_refl _) (.cells (rcs r) 66)
  have HT := Lib.hid (ht.below hb0)
  have HB0 := Lib.hid hb0
  clear ht hb0
  cases hm : mayR r
  · rw [hm, if_neg Bool.false_ne_true, errE_one] at HC
    clear h hm
    obtain ⟨k, mo, n, wk, fy, fm, fd, ty, tm, td⟩ := r
    unfold rv errK at *
    unfold rcs at *
    simp only at *
    go_enter Tryz.func37, Tryz.ntmps37
    go_wp2_with fail
    refine (HC.out _ HT.out).mono ?_
    rintro e w1 ⟨rfl, hb1⟩
    have HB1 := Lib.hid (HB0.out.trans (hb1.mono HB0.out.size))
    clear hb1
    go_wp2_with fail
    go_ret2
    exact ⟨rfl, HB1.out⟩
  · rw [hm, if_pos rfl, errE_zero] at HC
    have ha : a < -70368744177664 ∨ 70368744177664 < a := by
      rcases h with h | h
      · rw [hm] at h; cases h
      · exact h
    have HO := Lib.hid (fun W => ofNo_any a W ha)
    clear h hm ha
    obtain ⟨k, mo, n, wk, fy, fm, fd, ty, tm, td⟩ := r
    unfold dt errNo at HO
    unfold rv errK at *
    unfold rcs at *
    simp only at *
    go_enter Tryz.func37, Tryz.ntmps37
    go_wp2_with fail
    refine (HC.out _ HT.out).mono ?_
    rintro e w1 ⟨rfl, hb1⟩
    have HB1 := Lib.hid (HB0.out.trans (hb1.mono HB0.out.size))
    clear hb1
    go_wp2_with fail
    refine (HO.out _).mono ?_
    rintro e w2 ⟨rfl, hb2⟩
    have HB2 := Lib.hid (HB1.out.trans (hb2.mono HB1.out.size))
    clear hb2
    go_wp2_with fail
    go_ret2
    exact ⟨rfl, HB2.out.alloc HB2.out.size _⟩
end Go.Proofs.YtlogapkpllgdcaaGreatDoor

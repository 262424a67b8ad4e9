/- Contract: rule's Text, of dates; of any rule. -/
import Derived.Test.YtjfmnflcgenpaaaGreatDoorRlH
namespace Go.Proofs.YtjfmnflcgenpaaaGreatDoor
open Go.RowKit

set_option maxRecDepth 100000 in
set_option maxHeartbeats 1000000 in
theorem text3 (fy fm fd ty tm td : Int) (w : World) (hE : En w) (hmay : mayR ⟨3, 0, 0, 0, fy, fm, fd, ty, tm, td⟩ = true) (hf : ∀ x ∈ [fy, fm, fd], -9223372036854775808 ≤ x ∧ x ≤ 9223372036854775807) (ht : ∀ x ∈ [ty, tm, td], -9223372036854775808 ≤ x ∧ x ≤ 9223372036854775807) :
    Calls Tryz.prog 13 #[rv ⟨3, 0, 0, 0, fy, fm, fd, ty, tm, td⟩] w fun e w' => e = .returned (.tuple #[.string (str (tx ⟨3, 0, 0, 0, fy, fm, fd, ty, tm, td⟩)), .nilIface]) ∧ Below w.heap.size w w' := by
  have HC := Lib.hid (fun W (hT : Tab W) => check_any ⟨3, 0, 0, 0, fy, fm, fd, ty, tm, td⟩ W hT)
  rw [hmay, if_pos rfl, errE_zero] at HC
  have hb0 := (Below.refl w.heap.size w).alloc (Nat.le_refl _) (.cells #[.int .i64 3, .int .i64 0, .int .i64 0, .int .i64 0, .int .i64 fy, .int .i64 fm, .int .i64 fd, .int .i64 ty, .int .i64 tm, .int .i64 td] 32)
  have G0 := Lib.hid (heap_alloc_new w (.cells #[.int .i64 3, .int .i64 0, .int .i64 0, .int .i64 0, .int .i64 fy, .int .i64 fm, .int .i64 fd, .int .i64 ty, .int .i64 tm, .int .i64 td] 32))
  have HF := Lib.hid (fun W hW => tellDate_any fy fm fd W hf hW)
  have HT := Lib.hid (fun W hW => tellDate_any ty tm td W ht hW)
  have l1 := dtx_len fy fm fd hf
  have l2 := dtx_len ty tm td ht
  have s1 : ({ data := #[100, 97, 116, 101, 115, 32] } : ByteArray).size = 6 := rfl
  have s2 : ({ data := #[32] } : ByteArray).size = 1 := rfl
  have z1 : (str (dtx fy fm fd)).size = (dtx fy fm fd).length := rfl
  have z2 : (str (dtx ty tm td)).size = (dtx ty tm td).length := rfl
  obtain ⟨A1, q1, e1, k1⟩ := add_named { data := #[100, 97, 116, 101, 115, 32] } (str (dtx fy fm fd)) (by omega) (by omega)
  obtain ⟨A2, q2, e2, k2⟩ := add_named A1 { data := #[32] } (by omega) (by omega)
  obtain ⟨A3, q3, e3, k3⟩ := add_named A2 (str (dtx ty tm td)) (by omega) (by omega)
  have HZ : Hid (A3 = str (tx ⟨3, 0, 0, 0, fy, fm, fd, ty, tm, td⟩)) := by
    unfold Hid
    rw [e3, e2, e1]
    have e4 : ({ data := #[100, 97, 116, 101, 115, 32] } : ByteArray) = str (tW ++ [32]) := rfl
    have e5 : ({ data := #[32] } : ByteArray) = str [32] := rfl
    rw [e4, e5, str_append, str_append, str_append]
    unfold tx
    simp only [show ((3 : Int) = 0) = False by simp, show ((3 : Int) = 1) = False by simp, show ((3 : Int) = 2) = False by simp, if_false, List.append_assoc, List.cons_append, List.nil_append]
  have HE := Lib.hid (hE.below hb0)
  have HB0 := Lib.hid hb0
  clear l1 l2 s1 s2 z1 z2 k1 k2 k3 e1 e2 e3 hf ht hb0 hE hmay
  generalize str (dtx fy fm fd) = X at *
  generalize str (dtx ty tm td) = Y at *
  generalize str (tx ⟨3, 0, 0, 0, fy, fm, fd, ty, tm, td⟩) = R at *
  unfold dt at HF HT
  unfold rv at *
  simp only at HC ⊢
  go_enter Tryz.func13, Tryz.ntmps13
  go_wp2_with fail
  refine (HC.out _ HE.out.tab).mono ?_
  rintro e w1 ⟨rfl, hb1⟩
  have HB1 := Lib.hid (HB0.out.trans (hb1.mono HB0.out.size))
  have g1 := (hb1.block w.heap.size (by simp)).trans G0.out
  have K0 := cell_blk g1 0 (v := .int .i64 3) rfl
  have hlt : w.heap.size < w1.heap.size := (Array.getElem?_eq_some_iff.1 g1).1
  have HSS := Lib.hid (show ∀ W, Below w1.heap.size w1 W → W.cell? ⟨w.heap.size, 4, none⟩ = some (.int .i64 fy) ∧ W.cell? ⟨w.heap.size, 5, none⟩ = some (.int .i64 fm) ∧ W.cell? ⟨w.heap.size, 6, none⟩ = some (.int .i64 fd) ∧ W.cell? ⟨w.heap.size, 7, none⟩ = some (.int .i64 ty) ∧ W.cell? ⟨w.heap.size, 8, none⟩ = some (.int .i64 tm) ∧ W.cell? ⟨w.heap.size, 9, none⟩ = some (.int .i64 td) from fun W hb =>
    have g := (hb.block _ hlt).trans g1
    ⟨cell_blk g 4 rfl, cell_blk g 5 rfl, cell_blk g 6 rfl, cell_blk g 7 rfl, cell_blk g 8 rfl, cell_blk g 9 rfl⟩)
  have HE1 := Lib.hid (HE.out.below hb1)
  have hbd := below_dr w1
  clear hb1 g1 HC HB0 HE G0 hlt
  go_wp2_with fail
  go_region_held3 (fun W => W.cell? ⟨w.heap.size, 4, none⟩ = some (.int .i64 fy) ∧ W.cell? ⟨w.heap.size, 5, none⟩ = some (.int .i64 fm) ∧ W.cell? ⟨w.heap.size, 6, none⟩ = some (.int .i64 fd) ∧ W.cell? ⟨w.heap.size, 7, none⟩ = some (.int .i64 ty) ∧ W.cell? ⟨w.heap.size, 8, none⟩ = some (.int .i64 tm) ∧ W.cell? ⟨w.heap.size, 9, none⟩ = some (.int .i64 td))
    (exact HSS.out _ (by assumption))
    (first
      | (go_at_call 31
         with_reducible refine (HF.out _ (HE1.out.below hbd)).mono ?_
         rintro e w4 ⟨rfl, hb4⟩
         have hb4' : Below w1.heap.size w1 w4 := hbd.trans (hb4.mono hbd.size)
         clear hb4)
      | (go_at_call 31
         with_reducible refine (HT.out _ (HE1.out.below hb4')).mono ?_
         rintro e w5 ⟨rfl, hb5⟩
         have hb5' : Below w1.heap.size w1 w5 := hb4'.trans (hb5.mono hb4'.size)
         clear hb5))
  all_goals
    go_wp2_with fail
    go_ret2
    rw [HZ.out]
    exact ⟨rfl, HB1.out.trans (hb5'.mono HB1.out.size)⟩
theorem in64 {x : Int} (h1 : -1000000 ≤ x) (h2 : x ≤ 1000000) : -9223372036854775808 ≤ x ∧ x ≤ 9223372036854775807 := by omega
theorem text_yes (r : Rl) (w : World) (hE : En w) (h : mayR r = true) :
    Calls Tryz.prog 13 #[rv r] w fun e w' => e = .returned (.tuple #[.string (str (tx r)), .nilIface]) ∧ Below w.heap.size w w' := by
  rcases may_cases h with ⟨wk, rfl, h1, h2⟩ | ⟨mo, n, rfl, h1, h2, h3, h4, h5⟩ | ⟨mo, n, wk, rfl, h1, h2, h3, h4, h5, h6, h7⟩ | ⟨fy, fm, fd, ty, tm, td, rfl, h1, h2, h3, h4, h5, h6, h7⟩
  · exact text0 wk w hE h h1 h2
  · exact text1 mo n w hE h h1 h2 h4 h5
  · exact text2 mo n wk w hE h h1 h2 h4 h5 h6 h7
  · obtain ⟨a1, a2, a3, a4⟩ := okD_bd h1 h4 h5
    obtain ⟨b1, b2, b3, b4⟩ := okD_bd h2 h6 h7
    exact text3 fy fm fd ty tm td w hE h (three_in (in64 (by omega) (by omega)) (in64 (by omega) (by omega)) (in64 (by omega) (by omega))) (three_in (in64 (by omega) (by omega)) (in64 (by omega) (by omega)) (in64 (by omega) (by omega)))
set_option maxRecDepth 100000 in
theorem text_no (r : Rl) (w : World) (ht : Tab w) (h : mayR r = false) :
    Calls Tryz.prog 13 #[rv r] w fun e w' => e = .returned (.tuple #[.string (str []), errK 1]) ∧ Below w.heap.size w w' := by
  have HC := Lib.hid (fun W (hT : Tab W) => check_any r W hT)
  have hb0 := (Below.refl w.heap.size w).alloc (Nat.le_refl _) (.cells (rcs r) 32)
  have HT := Lib.hid (ht.below hb0)
  have HB0 := Lib.hid hb0
  clear ht hb0
  rw [h, if_neg Bool.false_ne_true, errE_one] at HC
  clear h
  obtain ⟨k, mo, n, wk, fy, fm, fd, ty, tm, td⟩ := r
  unfold rv errK at *
  unfold rcs at *
  simp only at *
  go_enter Tryz.func13, Tryz.ntmps13
  go_wp2_with fail
  refine (HC.out _ HT.out).mono ?_
  rintro e w1 ⟨rfl, hb1⟩
  have HB1 := Lib.hid (HB0.out.trans (hb1.mono HB0.out.size))
  clear hb1
  go_wp2_with fail
  go_ret2
  exact ⟨rfl, HB1.out⟩
end Go.Proofs.YtjfmnflcgenpaaaGreatDoor

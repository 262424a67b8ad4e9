/- RuleBack's walk. -/
import Derived.Test.YtjfmnflcgenpaaaGreatDoorL6Sure
import Derived.Test.YtjfmnflcgenpaaaGreatDoorL6Num
import Derived.Test.YtjfmnflcgenpaaaGreatDoorRlO
namespace Go.Proofs.YtjfmnflcgenpaaaGreatDoor
open Go.RowKit

theorem tx_len (r : Rl) (h : mayR r = true) : (tx r).length ≤ 1000 := by
  rcases may_cases h with ⟨wk, rfl, h1, h2⟩ | ⟨mo, n, rfl, h1, h2, h3, h4, h5⟩ | ⟨mo, n, wk, rfl, h1, h2, h3, h4, h5, h6, h7⟩ | ⟨fy, fm, fd, ty, tm, td, rfl, h1, h2, h3, h4, h5, h6, h7⟩
  · have := itoa_len wk (by omega) (by omega)
    unfold tx wW
    simp
    omega
  · have := itoa_len mo (by omega) (by omega)
    have := itoa_len n (by omega) (by omega)
    unfold tx dW
    simp
    omega
  · have := itoa_len mo (by omega) (by omega)
    have := itoa_len n (by omega) (by omega)
    have := itoa_len wk (by omega) (by omega)
    unfold tx nW
    simp
    omega
  · obtain ⟨a1, a2, a3, a4⟩ := okD_bd h1 h4 h5
    obtain ⟨b1, b2, b3, b4⟩ := okD_bd h2 h6 h7
    have := dtx_len fy fm fd (three_in (in64 (by omega) (by omega)) (in64 (by omega) (by omega)) (in64 (by omega) (by omega)))
    have := dtx_len ty tm td (three_in (in64 (by omega) (by omega)) (in64 (by omega) (by omega)) (in64 (by omega) (by omega)))
    unfold tx tW
    simp
    omega
/-- A text as a list. -/
theorem str_data (b : ByteArray) : str b.data.toList = b := rfl
set_option maxRecDepth 100000 in
set_option maxHeartbeats 4000000 in
theorem back_walk (r : Rl) (s : ByteArray) (w : World) (hE : En w) (hEr : ErrT w) (_ : s.size ≤ maxLen) :
    Calls Tryz.prog 5 #[rv r, .string s] w fun e w' => e = .returned (.bool true) ∧ Below w.heap.size w w' := by
  have HS := Lib.hid (fun W (hW : En W) => sure_any W hW)
  have HE := Lib.hid (fun W (hW : Below w.heap.size w W) => hE.below hW)
  have HEr := Lib.hid (fun W (hW : Below w.heap.size w W) => hEr.below hW)
  have hb0 := (Below.refl w.heap.size w).alloc (Nat.le_refl _) (.cells (rcs r) 25)
  have g0 := heap_alloc_new w (.cells (rcs r) 25)
  have HB0 := Lib.hid hb0
  have G0 := Lib.hid g0
  by_cases h300 : 300 < s.size
  · clear hE hEr hb0 g0 G0
    obtain ⟨k, mo, n, wk, fy, fm, fd, ty, tm, td⟩ := r
    unfold rv rcs at *
    simp only at *
    go_enter Tryz.func5, Tryz.ntmps5
    go_wp2_with fail
    refine (HS.out _ (HE.out _ HB0.out)).mono ?_
    rintro e w1 ⟨rfl, hb1⟩
    have HB1 := Lib.hid (HB0.out.trans (hb1.mono HB0.out.size))
    clear hb1
    go_wp2_with fail
    go_ret
    exact ⟨rfl, HB1.out⟩
  · have HGV := Lib.hid (fun W => giveR_any r W)
    have HP := Lib.hid (fun W (hW : En W) => parse_any s.data.toList W (show s.data.toList.length ≤ 1000 by simp; omega) hW)
    rw [str_data] at HP
    have HTN := Lib.hid (fun W (hW : Tab W) h => text_no r W hW h)
    have HTY := Lib.hid (fun W (hW : En W) h => text_yes r W hW h)
    have HPR := Lib.hid (fun W (hW : En W) (h : mayR r = true) => parse_any (tx r) W (tx_len r h) hW)
    have HPT := Lib.hid (fun h => pr_tx (r := r) h)
    have HN := neqR r r
    rw [decide_eq_false (not_not_intro rfl)] at HN
    have HK := Lib.hid (fun W (hW : ErrT W) => num_err 3 W hW)
    have hlt0 : w.heap.size < (w.alloc (.cells (rcs r) 25)).heap.size := by simp
    cases hm : mayR r
    case' false =>
      have HT := Lib.hid (fun W (hW : Tab W) => HTN.out W hW hm)
      clear HTN HTY HPR HPT HN hm hE hEr hb0 g0 hlt0
      obtain ⟨k, mo, n, wk, fy, fm, fd, ty, tm, td⟩ := r
      unfold rv rcs errK at *
      simp only at *
      go_enter Tryz.func5, Tryz.ntmps5
      go_wp2_with fail
      refine (HGV.out _).mono ?_
      rintro e w1 ⟨rfl, hb1⟩
      have HB1 := Lib.hid (HB0.out.trans (hb1.mono HB0.out.size))
      clear hb1
      go_wp2_with fail
      refine (HT.out _ (HE.out _ HB1.out).tab).mono ?_
      rintro e wz ⟨rfl, hb2⟩
      have HBZ := Lib.hid (HB1.out.trans (hb2.mono HB1.out.size))
      clear hb2 HB1
      go_wp2_with fail
    case' true =>
      have HT := Lib.hid (fun W (hW : En W) => HTY.out W hW hm)
      have HP1 := Lib.hid (fun W (hW : En W) => HPR.out W hW hm)
      rw [HPT.out hm] at HP1
      unfold ansR at HP1
      simp only at HP1
      rw [errE_zero] at HP1
      clear HTN HTY HPR HPT hm hE hEr hb0 g0
      generalize str (tx r) = T at *
      obtain ⟨k, mo, n, wk, fy, fm, fd, ty, tm, td⟩ := r
      unfold rv rcs at *
      simp only at *
      go_enter Tryz.func5, Tryz.ntmps5
      go_wp2_with fail
      refine (HGV.out _).mono ?_
      rintro e w1 ⟨rfl, hb1⟩
      have HB1 := Lib.hid (HB0.out.trans (hb1.mono HB0.out.size))
      have hg1 := (hb1.block w.heap.size hlt0).trans G0.out
      have hl1 := (Array.getElem?_eq_some_iff.1 hg1).1
      clear hb1
      go_wp2_with fail
      refine (HT.out _ (HE.out _ HB1.out)).mono ?_
      rintro e w2 ⟨rfl, hb2⟩
      have HB2 := Lib.hid (HB1.out.trans (hb2.mono HB1.out.size))
      have hg2 := (hb2.block w.heap.size hl1).trans hg1
      have hl2 := (Array.getElem?_eq_some_iff.1 hg2).1
      clear hb2
      go_wp2_with fail
      refine (HP1.out _ (HE.out _ HB2.out)).mono ?_
      rintro e w3 ⟨rfl, hb3⟩
      have HB3 := HB2.out.trans (hb3.mono HB2.out.size)
      have hg3 := (hb3.block w.heap.size hl2).trans hg2
      have hl3' := (Array.getElem?_eq_some_iff.1 hg3).1
      have hb4 := HB3.alloc HB3.size (.cells #[.int .i64 k, .int .i64 mo, .int .i64 n, .int .i64 wk, .int .i64 fy, .int .i64 fm, .int .i64 fd, .int .i64 ty, .int .i64 tm, .int .i64 td] 32)
      have hg4 := (Below.heap_alloc w3 (.cells #[.int .i64 k, .int .i64 mo, .int .i64 n, .int .i64 wk, .int .i64 fy, .int .i64 fm, .int .i64 fd, .int .i64 ty, .int .i64 tm, .int .i64 td] 32) w.heap.size hl3').trans hg3
      have hn4 := heap_alloc_new w3 (.cells #[.int .i64 k, .int .i64 mo, .int .i64 n, .int .i64 wk, .int .i64 fy, .int .i64 fm, .int .i64 fd, .int .i64 ty, .int .i64 tm, .int .i64 td] 32)
      obtain ⟨w4, hw4⟩ : ∃ w4, w3.alloc (.cells #[.int .i64 k, .int .i64 mo, .int .i64 n, .int .i64 wk, .int .i64 fy, .int .i64 fm, .int .i64 fd, .int .i64 ty, .int .i64 tm, .int .i64 td] 32) = w4 := ⟨_, rfl⟩
      rw [hw4] at hb4 hg4 hn4
      have hl0 := (Array.getElem?_eq_some_iff.1 hg4).1
      have hl3 := (Array.getElem?_eq_some_iff.1 hn4).1
      have HSS := Lib.hid (show ∀ W, Below w4.heap.size w4 W → W.cell? ⟨w.heap.size, 0, none⟩ = some (.int .i64 k) ∧ W.cell? ⟨w.heap.size, 1, none⟩ = some (.int .i64 mo) ∧ W.cell? ⟨w.heap.size, 2, none⟩ = some (.int .i64 n) ∧ W.cell? ⟨w.heap.size, 3, none⟩ = some (.int .i64 wk) ∧ W.cell? ⟨w.heap.size, 4, none⟩ = some (.int .i64 fy) ∧ W.cell? ⟨w.heap.size, 5, none⟩ = some (.int .i64 fm) ∧ W.cell? ⟨w.heap.size, 6, none⟩ = some (.int .i64 fd) ∧ W.cell? ⟨w.heap.size, 7, none⟩ = some (.int .i64 ty) ∧ W.cell? ⟨w.heap.size, 8, none⟩ = some (.int .i64 tm) ∧ W.cell? ⟨w.heap.size, 9, none⟩ = some (.int .i64 td) ∧ W.cell? ⟨w3.heap.size, 0, none⟩ = some (.int .i64 k) ∧ W.cell? ⟨w3.heap.size, 1, none⟩ = some (.int .i64 mo) ∧ W.cell? ⟨w3.heap.size, 2, none⟩ = some (.int .i64 n) ∧ W.cell? ⟨w3.heap.size, 3, none⟩ = some (.int .i64 wk) ∧ W.cell? ⟨w3.heap.size, 4, none⟩ = some (.int .i64 fy) ∧ W.cell? ⟨w3.heap.size, 5, none⟩ = some (.int .i64 fm) ∧ W.cell? ⟨w3.heap.size, 6, none⟩ = some (.int .i64 fd) ∧ W.cell? ⟨w3.heap.size, 7, none⟩ = some (.int .i64 ty) ∧ W.cell? ⟨w3.heap.size, 8, none⟩ = some (.int .i64 tm) ∧ W.cell? ⟨w3.heap.size, 9, none⟩ = some (.int .i64 td) from fun W hb => ⟨cell_blk ((hb.block _ hl0).trans hg4) 0 rfl, cell_blk ((hb.block _ hl0).trans hg4) 1 rfl, cell_blk ((hb.block _ hl0).trans hg4) 2 rfl, cell_blk ((hb.block _ hl0).trans hg4) 3 rfl, cell_blk ((hb.block _ hl0).trans hg4) 4 rfl, cell_blk ((hb.block _ hl0).trans hg4) 5 rfl, cell_blk ((hb.block _ hl0).trans hg4) 6 rfl, cell_blk ((hb.block _ hl0).trans hg4) 7 rfl, cell_blk ((hb.block _ hl0).trans hg4) 8 rfl, cell_blk ((hb.block _ hl0).trans hg4) 9 rfl, cell_blk ((hb.block _ hl3).trans hn4) 0 rfl, cell_blk ((hb.block _ hl3).trans hn4) 1 rfl, cell_blk ((hb.block _ hl3).trans hn4) 2 rfl, cell_blk ((hb.block _ hl3).trans hn4) 3 rfl, cell_blk ((hb.block _ hl3).trans hn4) 4 rfl, cell_blk ((hb.block _ hl3).trans hn4) 5 rfl, cell_blk ((hb.block _ hl3).trans hn4) 6 rfl, cell_blk ((hb.block _ hl3).trans hn4) 7 rfl, cell_blk ((hb.block _ hl3).trans hn4) 8 rfl, cell_blk ((hb.block _ hl3).trans hn4) 9 rfl⟩)
      have HB4 := Lib.hid hb4
      have HW4 := Lib.hid hw4
      have hbd := below_dr w4
      clear hb3 HB3 hg1 hg2 hg3 hl1 hl2 hl3' hb4 hg4 hn4 hw4 hl0 hl3 HT HP1
      go_wp2_with fail
      rw [HW4.out]
      go_region_held3 (fun W => W.cell? ⟨w.heap.size, 0, none⟩ = some (.int .i64 k) ∧ W.cell? ⟨w.heap.size, 1, none⟩ = some (.int .i64 mo) ∧ W.cell? ⟨w.heap.size, 2, none⟩ = some (.int .i64 n) ∧ W.cell? ⟨w.heap.size, 3, none⟩ = some (.int .i64 wk) ∧ W.cell? ⟨w.heap.size, 4, none⟩ = some (.int .i64 fy) ∧ W.cell? ⟨w.heap.size, 5, none⟩ = some (.int .i64 fm) ∧ W.cell? ⟨w.heap.size, 6, none⟩ = some (.int .i64 fd) ∧ W.cell? ⟨w.heap.size, 7, none⟩ = some (.int .i64 ty) ∧ W.cell? ⟨w.heap.size, 8, none⟩ = some (.int .i64 tm) ∧ W.cell? ⟨w.heap.size, 9, none⟩ = some (.int .i64 td) ∧ W.cell? ⟨w3.heap.size, 0, none⟩ = some (.int .i64 k) ∧ W.cell? ⟨w3.heap.size, 1, none⟩ = some (.int .i64 mo) ∧ W.cell? ⟨w3.heap.size, 2, none⟩ = some (.int .i64 n) ∧ W.cell? ⟨w3.heap.size, 3, none⟩ = some (.int .i64 wk) ∧ W.cell? ⟨w3.heap.size, 4, none⟩ = some (.int .i64 fy) ∧ W.cell? ⟨w3.heap.size, 5, none⟩ = some (.int .i64 fm) ∧ W.cell? ⟨w3.heap.size, 6, none⟩ = some (.int .i64 fd) ∧ W.cell? ⟨w3.heap.size, 7, none⟩ = some (.int .i64 ty) ∧ W.cell? ⟨w3.heap.size, 8, none⟩ = some (.int .i64 tm) ∧ W.cell? ⟨w3.heap.size, 9, none⟩ = some (.int .i64 td))
        (exact HSS.out _ (by assumption))
        (first
          | (go_at_call 7
             refine (HGV.out _).mono ?_
             rintro e wz ⟨rfl, hb5⟩
             have hb5' : Below w4.heap.size w4 wz := hbd.trans (hb5.mono hbd.size)
             clear hb5))
      have HBZ := Lib.hid (HB4.out.trans (hb5'.mono HB4.out.size))
      clear hb5' hbd HSS
      go_wp2_with fail
    all_goals
      cases hp : pr s.data.toList with
      | none =>
        rw [hp] at HP
        unfold ansR at HP
        simp only at HP
        rw [errE_three] at HP
        unfold errK Rl.nil at HP
        simp only at HP
        clear hp
        refine (HP.out _ (HE.out _ HBZ.out)).mono ?_
        rintro e w6 ⟨rfl, hb6⟩
        have hb7 := HBZ.out.trans (hb6.mono HBZ.out.size)
        have HB7 := Lib.hid (hb7.alloc hb7.size (.cells #[.int .i64 0, .int .i64 0, .int .i64 0, .int .i64 0, .int .i64 0, .int .i64 0, .int .i64 0, .int .i64 0, .int .i64 0, .int .i64 0] 32))
        clear hb6 hb7
        go_wp2_with fail
        refine (HK.out _ (HEr.out _ HB7.out)).mono ?_
        rintro e w8 ⟨rfl, hb8⟩
        have HB8 := Lib.hid (HB7.out.trans (hb8.mono HB7.out.size))
        clear hb8
        go_wp2_with fail
        refine (HS.out _ (HE.out _ HB8.out)).mono ?_
        rintro e w9 ⟨rfl, hb9⟩
        have HB9 := Lib.hid (HB8.out.trans (hb9.mono HB8.out.size))
        clear hb9
        go_wp2_with fail
        go_ret
        exact ⟨rfl, HB9.out⟩
      | some y =>
        obtain ⟨hy1, hy2⟩ := pr_some hp
        have HT2 := Lib.hid (fun W (hW : En W) => text_yes y W hW hy1)
        rw [hy2, str_data] at HT2
        rw [hp] at HP
        unfold ansR at HP
        simp only at HP
        rw [errE_zero] at HP
        clear hp hy1 hy2
        obtain ⟨b0, b1, b2, b3, b4, b5, b6, b7, b8, b9⟩ := y
        unfold rv at HT2
        simp only at HP HT2
        refine (HP.out _ (HE.out _ HBZ.out)).mono ?_
        rintro e w6 ⟨rfl, hb6⟩
        have hb7 := HBZ.out.trans (hb6.mono HBZ.out.size)
        have HB7 := Lib.hid (hb7.alloc hb7.size (.cells #[.int .i64 b0, .int .i64 b1, .int .i64 b2, .int .i64 b3, .int .i64 b4, .int .i64 b5, .int .i64 b6, .int .i64 b7, .int .i64 b8, .int .i64 b9] 32))
        clear hb6 hb7
        go_wp2_with fail
        refine (HT2.out _ (HE.out _ HB7.out)).mono ?_
        rintro e w8 ⟨rfl, hb8⟩
        have HB8 := Lib.hid (HB7.out.trans (hb8.mono HB7.out.size))
        clear hb8
        go_wp2_with fail
        refine (HS.out _ (HE.out _ HB8.out)).mono ?_
        rintro e w9 ⟨rfl, hb9⟩
        have HB9 := Lib.hid (HB8.out.trans (hb9.mono HB8.out.size))
        clear hb9
        go_wp2_with fail
        go_ret
        exact ⟨rfl, HB9.out⟩
end Go.Proofs.YtjfmnflcgenpaaaGreatDoor

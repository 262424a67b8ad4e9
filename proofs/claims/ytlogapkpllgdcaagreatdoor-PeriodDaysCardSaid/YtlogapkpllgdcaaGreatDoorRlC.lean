/- Contracts: rule's span, fits, Check. -/
import Derived.Test.YtlogapkpllgdcaaGreatDoorRlA7
namespace Go.Proofs.YtlogapkpllgdcaaGreatDoor
open Go.RowKit

theorem ret_tri {a b a' b' : Int} {v : Value} (h : a = a') (h2 : b = b') : Ending.returned (.tuple #[.int .i64 a, .int .i64 b, v]) = .returned (.tuple #[.int .i64 a', .int .i64 b', v]) := by rw [h, h2]
/-- A rule's cells. -/
abbrev rcs (r : Rl) : Array Value := #[.int .i64 r.k, .int .i64 r.mo, .int .i64 r.n, .int .i64 r.wk, .int .i64 r.fy, .int .i64 r.fm, .int .i64 r.fd, .int .i64 r.ty, .int .i64 r.tm, .int .i64 r.td]
set_option maxRecDepth 100000 in
theorem span_yes (r : Rl) (w : World) (ht : Tab w) (h1 : okD r.fy r.fm r.fd = true) (h2 : okD r.ty r.tm r.td = true) :
    Calls Tryz.prog 71 #[rv r] w fun e w' => e = .returned (.tuple #[.int .i64 (dnr r.fy r.fm r.fd), .int .i64 (dnr r.ty r.tm r.td), .nilIface]) ∧ Below w.heap.size w w' := by
  obtain ⟨k, mo, n, wk, fy, fm, fd, ty, tm, td⟩ := r
  simp only at h1 h2 ⊢
  have hb0 := (Below.refl w.heap.size w).alloc (Nat.le_refl _) (.cells (rcs ⟨k, mo, n, wk, fy, fm, fd, ty, tm, td⟩) 66)
  have g0 := heap_alloc_new w (.cells (rcs ⟨k, mo, n, wk, fy, fm, fd, ty, tm, td⟩) 66)
  have H1 := Lib.hid (fun W (hT : Tab W) => days_yes fy fm fd W hT h1)
  have H2 := Lib.hid (fun W (hT : Tab W) => days_yes ty tm td W hT h2)
  have HT := Lib.hid ht
  have HB0 := Lib.hid hb0
  have G0 := Lib.hid g0
  clear h1 h2 ht hb0 g0
  unfold dt at H1 H2
  unfold rv
  simp only at HB0 G0 ⊢
  generalize dnr fy fm fd = a at *
  generalize dnr ty tm td = b at *
  go_enter Tryz.func71, Tryz.ntmps71
  go_wp2_with fail
  refine (H1.out _ (HT.out.below HB0.out)).mono ?_
  rintro e w1 ⟨rfl, hb1⟩
  have HB1 := Lib.hid (HB0.out.trans (hb1.mono HB0.out.size))
  have g1 := (hb1.block w.heap.size (by simp)).trans G0.out
  have c7 := cell_blk g1 7 (v := .int .i64 ty) rfl
  have c8 := cell_blk g1 8 (v := .int .i64 tm) rfl
  have c9 := cell_blk g1 9 (v := .int .i64 td) rfl
  clear hb1 g1 G0 HB0 H1
  go_wp2_with fail
  refine (H2.out _ (HT.out.below HB1.out)).mono ?_
  rintro e w2 ⟨rfl, hb2⟩
  have HB2 := Lib.hid (HB1.out.trans (hb2.mono HB1.out.size))
  clear hb2 HB1 H2 c7 c8 c9
  go_wp2_with fail
  go_ret3
  exact ⟨rfl, HB2.out⟩
set_option maxRecDepth 100000 in
theorem span_no (r : Rl) (w : World) (ht : Tab w) (h : (okD r.fy r.fm r.fd && okD r.ty r.tm r.td) = false) :
    Calls Tryz.prog 71 #[rv r] w fun e w' => e = .returned (.tuple #[.int .i64 0, .int .i64 0, errK 1]) ∧ Below w.heap.size w w' := by
  obtain ⟨k, mo, n, wk, fy, fm, fd, ty, tm, td⟩ := r
  simp only at h ⊢
  have hb0 := (Below.refl w.heap.size w).alloc (Nat.le_refl _) (.cells (rcs ⟨k, mo, n, wk, fy, fm, fd, ty, tm, td⟩) 66)
  have g0 := heap_alloc_new w (.cells (rcs ⟨k, mo, n, wk, fy, fm, fd, ty, tm, td⟩) 66)
  have HT := Lib.hid ht
  have HB0 := Lib.hid hb0
  have G0 := Lib.hid g0
  clear ht hb0 g0
  unfold rv
  unfold errK
  simp only at HB0 G0 ⊢
  cases h1 : okD fy fm fd
  · have H1 := Lib.hid (fun W (hT : Tab W) => days_no fy fm fd W hT h1)
    unfold dt errK at H1
    clear h h1 G0
    go_enter Tryz.func71, Tryz.ntmps71
    go_wp2_with fail
    refine (H1.out _ (HT.out.below HB0.out)).mono ?_
    rintro e w1 ⟨rfl, hb1⟩
    have HB1 := Lib.hid (HB0.out.trans (hb1.mono HB0.out.size))
    clear hb1 HB0 H1
    go_wp2_with fail
    go_ret3
    exact ⟨rfl, HB1.out⟩
  · have h2 : okD ty tm td = false := by rw [h1] at h; simpa using h
    have H1 := Lib.hid (fun W (hT : Tab W) => days_yes fy fm fd W hT h1)
    have H2 := Lib.hid (fun W (hT : Tab W) => days_no ty tm td W hT h2)
    clear h h1 h2
    unfold dt at H1
    unfold dt errK at H2
    generalize dnr fy fm fd = a at *
    go_enter Tryz.func71, Tryz.ntmps71
    go_wp2_with fail
    refine (H1.out _ (HT.out.below HB0.out)).mono ?_
    rintro e w1 ⟨rfl, hb1⟩
    have HB1 := Lib.hid (HB0.out.trans (hb1.mono HB0.out.size))
    have g1 := (hb1.block w.heap.size (by simp)).trans G0.out
    have c7 := cell_blk g1 7 (v := .int .i64 ty) rfl
    have c8 := cell_blk g1 8 (v := .int .i64 tm) rfl
    have c9 := cell_blk g1 9 (v := .int .i64 td) rfl
    clear hb1 g1 G0 HB0 H1
    go_wp2_with fail
    refine (H2.out _ (HT.out.below HB1.out)).mono ?_
    rintro e w2 ⟨rfl, hb2⟩
    have HB2 := Lib.hid (HB1.out.trans (hb2.mono HB1.out.size))
    clear hb2 HB1 H2 c7 c8 c9
    go_wp2_with fail
    go_ret3
    exact ⟨rfl, HB2.out⟩
set_option maxRecDepth 100000 in
set_option maxHeartbeats 1000000 in
theorem fits_any (r : Rl) (w : World) (ht : Tab w) :
    Calls Tryz.prog 84 #[rv r] w fun e w' => e = .returned (.bool (fitsR r)) ∧ Below w.heap.size w w' := by
  have HS1 := Lib.hid (fun W (hT : Tab W) h1 h2 => span_yes r W hT h1 h2)
  have HS2 := Lib.hid (fun W (hT : Tab W) h => span_no r W hT h)
  obtain ⟨k, mo, n, wk, fy, fm, fd, ty, tm, td⟩ := r
  have hb0 := (Below.refl w.heap.size w).alloc (Nat.le_refl _) (.cells (rcs ⟨k, mo, n, wk, fy, fm, fd, ty, tm, td⟩) 66)
  have g0 := heap_alloc_new w (.cells (rcs ⟨k, mo, n, wk, fy, fm, fd, ty, tm, td⟩) 66)
  have HT := Lib.hid ht
  have HB0 := Lib.hid hb0
  have G0 := Lib.hid g0
  clear ht hb0 g0
  unfold rv at HS1 HS2 ⊢
  unfold errK at HS2
  unfold fitsR
  simp only at HB0 G0 HS1 HS2 ⊢
  by_cases h0 : k = 0
  · subst h0
    simp only [if_true]
    clear HS1 HS2 G0 HT
    have HW := Lib.hid (fun W => isWithin_any wk 6 W)
    generalize inW wk 6 = a at *
    go_enter Tryz.func84, Tryz.ntmps84
    go_wp2_with fail
    refine (HW.out _).mono ?_
    rintro e w1 ⟨rfl, rfl⟩
    go_wp2_with fail
    go_ret
    exact ⟨rfl, HB0.out⟩
  · by_cases h1 : k = 1
    · subst h1
      simp only [show ((1 : Int) = 0) = False by simp, if_true, if_false]
      clear HS1 HS2 G0 HT h0
      have HW := Lib.hid (fun W => isWithin_any mo 12 W)
      have HP := Lib.hid (fun W => isPlace_any n 31 W (by omega) (by omega))
      generalize placeR n 31 = b at *
      cases hW : inW mo 12
      all_goals
        rw [hW] at HW
        clear hW
        go_enter Tryz.func84, Tryz.ntmps84
        go_wp2_with fail
        refine (HW.out _).mono ?_
        rintro e w1 ⟨rfl, rfl⟩
        go_wp2_with fail
        try (refine (HP.out _).mono ?_
             rintro e w1 ⟨rfl, rfl⟩
             go_wp2_with fail)
        go_ret
        exact ⟨rfl, HB0.out⟩
    · by_cases h2 : k = 2
      · subst h2
        simp only [show ((2 : Int) = 0) = False by simp, show ((2 : Int) = 1) = False by simp, if_true, if_false]
        clear HS1 HS2 G0 HT h0 h1
        have HW := Lib.hid (fun W => isWithin_any mo 12 W)
        have HP := Lib.hid (fun W => isPlace_any n 5 W (by omega) (by omega))
        have HK := Lib.hid (fun W => isWithin_any wk 6 W)
        generalize inW wk 6 = c at *
        cases hW : inW mo 12
        · rw [hW] at HW
          clear hW
          go_enter Tryz.func84, Tryz.ntmps84
          go_wp2_with fail
          refine (HW.out _).mono ?_
          rintro e w1 ⟨rfl, rfl⟩
          go_wp2_with fail
          go_ret
          exact ⟨rfl, HB0.out⟩
        · rw [hW] at HW
          clear hW
          cases hP : placeR n 5
          all_goals
            rw [hP] at HP
            clear hP
            go_enter Tryz.func84, Tryz.ntmps84
            go_wp2_with fail
            refine (HW.out _).mono ?_
            rintro e w1 ⟨rfl, rfl⟩
            go_wp2_with fail
            refine (HP.out _).mono ?_
            rintro e w1 ⟨rfl, rfl⟩
            go_wp2_with fail
            try (refine (HK.out _).mono ?_
                 rintro e w1 ⟨rfl, rfl⟩
                 go_wp2_with fail)
            go_ret
            exact ⟨rfl, HB0.out⟩
      · rw [if_neg h0, if_neg h1, if_neg h2]
        have d0 : (k == 0) = false := beq_eq_false_iff_ne.2 h0
        have d1 : (k == 1) = false := beq_eq_false_iff_ne.2 h1
        have d2 : (k == 2) = false := beq_eq_false_iff_ne.2 h2
        clear h0 h1 h2
        cases hs : okD fy fm fd && okD ty tm td
        · have HN := Lib.hid (fun W hT => HS2.out W hT hs)
          clear HS1 HS2 G0
          rw [Bool.false_and, Bool.false_and, Bool.false_and]
          go_enter Tryz.func84, Tryz.ntmps84
          go_wp2_with fail
          refine (HN.out _ (HT.out.below HB0.out)).mono ?_
          rintro e w1 ⟨rfl, hb1⟩
          have HB1 := Lib.hid (HB0.out.trans (hb1.mono HB0.out.size))
          clear hb1
          go_wp2_with fail
          go_ret
          exact ⟨rfl, HB1.out⟩
        · rw [Bool.true_and]
          obtain ⟨h1, h2⟩ := Bool.and_eq_true_iff.1 hs
          have HN := Lib.hid (fun W hT => HS1.out W hT h1 h2)
          clear HS1 HS2 hs h1 h2
          have HF := Lib.hid (fun W => isWithin_any fy 9999 W)
          have HG := Lib.hid (fun W => isWithin_any ty 9999 W)
          generalize dnr fy fm fd = a at *
          generalize dnr ty tm td = b at *
          generalize inW ty 9999 = c at *
          cases hF : inW fy 9999
          all_goals
            rw [hF] at HF
            clear hF
            by_cases hab : a ≤ b
            all_goals
              first
              | rw [decide_eq_true hab]
              | rw [decide_eq_false hab]
              go_enter Tryz.func84, Tryz.ntmps84
              go_wp2_with fail
              refine (HN.out _ (HT.out.below HB0.out)).mono ?_
              rintro e w1 ⟨rfl, hb1⟩
              have HB1 := Lib.hid (HB0.out.trans (hb1.mono HB0.out.size))
              have g1 := (hb1.block w.heap.size (by simp)).trans G0.out
              have c4 := cell_blk g1 4 (v := .int .i64 fy) rfl
              have c7 := cell_blk g1 7 (v := .int .i64 ty) rfl
              clear hb1 g1
              go_wp2_with fail
              try (refine (HF.out _).mono ?_
                   rintro e w1 ⟨rfl, rfl⟩
                   go_wp2_with fail)
              try (refine (HG.out _).mono ?_
                   rintro e w1 ⟨rfl, rfl⟩
                   go_wp2_with fail)
              go_ret
              exact ⟨rfl, HB1.out⟩
set_option maxRecDepth 100000 in
set_option maxHeartbeats 1000000 in
theorem check_any (r : Rl) (w : World) (ht : Tab w) :
    Calls Tryz.prog 57 #[rv r] w fun e w' => e = .returned (errE (if mayR r = true then 0 else 1)) ∧ Below w.heap.size w w' := by
  have hb0 := (Below.refl w.heap.size w).alloc (Nat.le_refl _) (.cells (rcs r) 66)
  have g0 := heap_alloc_new w (.cells (rcs r) 66)
  have HO := Lib.hid (fun W => own_any r W)
  have HF := Lib.hid (fun W (hT : Tab W) => fits_any r W hT)
  have HN := neqR r (ownR r)
  have hm : mayR r = (decide (r = ownR r) && fitsR r) := rfl
  generalize fitsR r = f at *
  generalize mayR r = may at *
  generalize ownR r = q at *
  obtain ⟨k, mo, n, wk, fy, fm, fd, ty, tm, td⟩ := r
  obtain ⟨q0, q1, q2, q3, q4, q5, q6, q7, q8, q9⟩ := q
  unfold rv at *
  unfold rcs at *
  simp only at *
  obtain ⟨w1, hw1⟩ : ∃ w1, w.alloc (.cells #[.int .i64 k, .int .i64 mo, .int .i64 n, .int .i64 wk, .int .i64 fy, .int .i64 fm, .int .i64 fd, .int .i64 ty, .int .i64 tm, .int .i64 td] 66) = w1 := ⟨_, rfl⟩
  rw [hw1] at hb0 g0
  have hlt : w.heap.size < w1.heap.size := by rw [← hw1]; simp
  have HT := Lib.hid (ht.below hb0)
  have HSS := Lib.hid (show ∀ W, Below w1.heap.size w1 W → W.cell? ⟨w.heap.size, 0, none⟩ = some (.int .i64 k) ∧ W.cell? ⟨w.heap.size, 1, none⟩ = some (.int .i64 mo) ∧ W.cell? ⟨w.heap.size, 2, none⟩ = some (.int .i64 n) ∧ W.cell? ⟨w.heap.size, 3, none⟩ = some (.int .i64 wk) ∧ W.cell? ⟨w.heap.size, 4, none⟩ = some (.int .i64 fy) ∧ W.cell? ⟨w.heap.size, 5, none⟩ = some (.int .i64 fm) ∧ W.cell? ⟨w.heap.size, 6, none⟩ = some (.int .i64 fd) ∧ W.cell? ⟨w.heap.size, 7, none⟩ = some (.int .i64 ty) ∧ W.cell? ⟨w.heap.size, 8, none⟩ = some (.int .i64 tm) ∧ W.cell? ⟨w.heap.size, 9, none⟩ = some (.int .i64 td) from fun W hb =>
    have g := (hb.block _ hlt).trans g0
    ⟨cell_blk g 0 rfl, cell_blk g 1 rfl, cell_blk g 2 rfl, cell_blk g 3 rfl, cell_blk g 4 rfl, cell_blk g 5 rfl, cell_blk g 6 rfl, cell_blk g 7 rfl, cell_blk g 8 rfl, cell_blk g 9 rfl⟩)
  have HB := Lib.hid hb0
  have HW := Lib.hid hw1
  have hbd : Below w1.heap.size w1 w1.drew := ⟨rfl, rfl, rfl, Nat.le_refl _, fun _ _ => rfl⟩
  clear ht hb0 g0 hw1 hlt
  by_cases hr : (⟨k, mo, n, wk, fy, fm, fd, ty, tm, td⟩ : Rl) = ⟨q0, q1, q2, q3, q4, q5, q6, q7, q8, q9⟩
  · rw [decide_eq_true hr, Bool.true_and] at hm
    subst hm
    rw [decide_eq_false (not_not_intro hr)] at HN
    clear hr
    cases may
    all_goals
      first
      | rw [if_pos rfl, errE_zero]
      | (rw [if_neg Bool.false_ne_true, errE_one]
         unfold errK)
      go_enter Tryz.func57, Tryz.ntmps57
      go_wp2_with fail
      rw [HW.out]
      go_region_held3 (fun W => W.cell? ⟨w.heap.size, 0, none⟩ = some (.int .i64 k) ∧ W.cell? ⟨w.heap.size, 1, none⟩ = some (.int .i64 mo) ∧ W.cell? ⟨w.heap.size, 2, none⟩ = some (.int .i64 n) ∧ W.cell? ⟨w.heap.size, 3, none⟩ = some (.int .i64 wk) ∧ W.cell? ⟨w.heap.size, 4, none⟩ = some (.int .i64 fy) ∧ W.cell? ⟨w.heap.size, 5, none⟩ = some (.int .i64 fm) ∧ W.cell? ⟨w.heap.size, 6, none⟩ = some (.int .i64 fd) ∧ W.cell? ⟨w.heap.size, 7, none⟩ = some (.int .i64 ty) ∧ W.cell? ⟨w.heap.size, 8, none⟩ = some (.int .i64 tm) ∧ W.cell? ⟨w.heap.size, 9, none⟩ = some (.int .i64 td))
        (exact HSS.out _ (by assumption))
        (first
          | (go_at_call 83
             refine (HO.out _).mono ?_
             rintro e w4 ⟨rfl, hb4⟩
             have hb4' : Below w1.heap.size w1 w4 := hbd.trans (hb4.mono hbd.size)
             clear hb4)
          | (go_at_call 84
             refine (HF.out _ (HT.out.below hb4')).mono ?_
             rintro e w5 ⟨rfl, hb5⟩
             have hb5' : Below w1.heap.size w1 w5 := hb4'.trans (hb5.mono hb4'.size)
             clear hb5))
      all_goals
        go_wp2_with fail
        go_ret
        exact ⟨rfl, HB.out.trans (hb5'.mono HB.out.size)⟩
  · rw [decide_eq_false hr, Bool.false_and] at hm
    subst hm
    rw [decide_eq_true hr] at HN
    clear hr HF
    rw [if_neg Bool.false_ne_true, errE_one]
    unfold errK
    go_enter Tryz.func57, Tryz.ntmps57
    go_wp2_with fail
    rw [HW.out]
    have hS0 := HSS.out _ hbd
    go_region_with (first
        | (go_at_call 83
           refine (HO.out _).mono ?_
           rintro e w4 ⟨rfl, hb4⟩
           have hb4' : Below w1.heap.size w1 w4 := hbd.trans (hb4.mono hbd.size)
           have hS1 := HSS.out _ hb4'
           clear hb4 hS0))
    all_goals
      go_wp2_with fail
      go_ret
      exact ⟨rfl, HB.out.trans (hb4'.mono HB.out.size)⟩
end Go.Proofs.YtlogapkpllgdcaaGreatDoor

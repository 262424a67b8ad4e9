/- RuleMatches' walk. -/
import Derived.Test.YtjfmnflcgenpaaaGreatDoorL6Sure
import Derived.Test.YtjfmnflcgenpaaaGreatDoorL6Num
import Derived.Test.YtjfmnflcgenpaaaGreatDoorRlQ
import Derived.Test.YtjfmnflcgenpaaaGreatDoorRlS
namespace Go.Proofs.YtjfmnflcgenpaaaGreatDoor
open Go.RowKit

/-- The document's Match, of a rule that may be. -/
theorem refMatch_any (r : Rl) (y : Int) (m : Nat) (d a : Int) (w : World) (hi : Is y m d) (hn : nr y m d = a) (ha1 : -70368744177664 ≤ a) (ha2 : a ≤ 70368744177664) (h : mayR r = true) :
    Calls Tryz.prog 12 #[rv r, .int .i64 a] w fun e w' => e = .returned (.bool (hitsR r y m d a)) ∧ Below w.heap.size w w' := by
  have hl := mlen_le (y := y) hi.m1 hi.m12
  obtain ⟨n, hln⟩ : ∃ n : Nat, mlen y m = n := ⟨(mlen y m).toNat, by omega⟩
  have hd1 := hi.d1
  have hd2 := hi.dl
  rw [hln] at hd2
  have ea : a - d + 1 + d - 1 = a := by omega
  rcases may_cases h with ⟨wk, rfl, h1, h2⟩ | ⟨mo, n', rfl, h1, h2, h3, h4, h5⟩ | ⟨mo, n', wk, rfl, h1, h2, h3, h4, h5, h6, h7⟩ | ⟨fy, fm, fd, ty, tm, td, rfl, h1, h2, h3, h4, h5, h6, h7⟩
  · exact refMatch0 wk y m d a w hi hn ha1 ha2
  · by_cases hm : mo = 0 ∨ mo = m
    · have e := pick_1 y m n d mo n' (a - d + 1) hln hd1 hd2 hm h3
      rw [ea] at e
      rw [e]
      exact refMatch1y mo n' y m d a n w hi hn ha1 ha2 hm hln h4 h5
    · have e : hitsR ⟨1, mo, n', 0, 0, 0, 0, 0, 0, 0⟩ y m d a = false := by
        show (decide (mo = 0 ∨ mo = m) && decide (n' = d ∨ n' = -(mlen y m - d + 1))) = false
        rw [decide_eq_false hm, Bool.false_and]
      rw [e]
      exact refMatch1n mo n' y m d a w hi hn ha1 ha2 hm
  · by_cases hm : mo = 0 ∨ mo = m
    · obtain ⟨c, hc, hw⟩ := first_ex (a - d + 1) wk h6 h7
      have e := pick_2 y m n c d mo n' wk (a - d + 1) hln hd1 hd2 hm h3 hc hw
      rw [ea] at e
      rw [e]
      exact refMatch2y mo n' wk y m d a n w hi hn ha1 ha2 hm hln (by omega) (by omega) c hc hw
    · have e : hitsR ⟨2, mo, n', wk, 0, 0, 0, 0, 0, 0⟩ y m d a = false := by
        show (decide (wd a = wk) && (decide (mo = 0 ∨ mo = m) && decide (n' = (d - 1) / 7 + 1 ∨ n' = -((mlen y m - d) / 7 + 1)))) = false
        rw [decide_eq_false hm, Bool.false_and, Bool.and_false]
      rw [e]
      exact refMatch2n mo n' wk y m d a w hi hn ha1 ha2 hm
  · exact refMatch3 fy fm fd ty tm td y m d a w hi hn ha1 ha2 h1 h2
set_option maxRecDepth 100000 in
set_option maxHeartbeats 4000000 in
theorem matches_no (r : Rl) (a : Int) (w : World) (hE : En w) (hEr : ErrT w) (h : mayR r = false ∨ (mayR r = true ∧ a < -70368744177664) ∨ (mayR r = true ∧ ¬ a < -70368744177664 ∧ 70368744177664 < a)) :
    Calls Tryz.prog 3 #[rv r, .int .i64 a] w fun e w' => e = .returned (.bool true) ∧ Below w.heap.size w w' := by
  have HS := Lib.hid (fun W (hW : En W) => sure_any W hW)
  have HGV := Lib.hid (fun W => giveR_any r W)
  have HMA := Lib.hid (fun W => refMay_any r W)
  have HCK := Lib.hid (fun W (hT : Tab W) => check_any r W hT)
  have HMT := Lib.hid (fun W (hT : Tab W) => match_no r a W hT (by
    rcases h with h | ⟨_, h⟩ | ⟨_, _, h⟩
    · exact .inl h
    · exact .inr (.inl h)
    · exact .inr (.inr h)))
  have HN1 := Lib.hid (fun W (hW : ErrT W) => num_err 1 W hW)
  obtain ⟨ek, hk⟩ : ∃ k : Int, (if mayR r = true then 0 else 1) = k := ⟨_, rfl⟩
  rw [hk] at HCK
  have HNK := Lib.hid (fun W (hW : ErrT W) => num_E ek W hW)
  obtain ⟨ev, hev⟩ : ∃ ev, errE ek = ev := ⟨_, rfl⟩
  rw [hev] at HCK HNK
  have hq : (mayR r = false ∧ ek = 1) ∨ (mayR r = true ∧ ek = 0 ∧ a < -70368744177664) ∨ (mayR r = true ∧ ek = 0 ∧ ¬ a < -70368744177664 ∧ 70368744177664 < a) := by
    rcases h with h | ⟨h, h'⟩ | ⟨h, h'⟩
    · exact .inl ⟨h, by rw [← hk, h]; rfl⟩
    · exact .inr (.inl ⟨h, by rw [← hk, h]; rfl, h'⟩)
    · exact .inr (.inr ⟨h, by rw [← hk, h]; rfl, h'⟩)
  generalize mayR r = may at *
  clear hk hev h
  obtain ⟨k, mo, n, wk, fy, fm, fd, ty, tm, td⟩ := r
  unfold rv errK at *
  simp only at *
  have hb0 := (Below.refl w.heap.size w).alloc (Nat.le_refl _) (.cells #[.int .i64 k, .int .i64 mo, .int .i64 n, .int .i64 wk, .int .i64 fy, .int .i64 fm, .int .i64 fd, .int .i64 ty, .int .i64 tm, .int .i64 td] 25)
  have g0 := heap_alloc_new w (.cells #[.int .i64 k, .int .i64 mo, .int .i64 n, .int .i64 wk, .int .i64 fy, .int .i64 fm, .int .i64 fd, .int .i64 ty, .int .i64 tm, .int .i64 td] 25)
  obtain ⟨w0, hw0⟩ : ∃ w0, w.alloc (.cells #[.int .i64 k, .int .i64 mo, .int .i64 n, .int .i64 wk, .int .i64 fy, .int .i64 fm, .int .i64 fd, .int .i64 ty, .int .i64 tm, .int .i64 td] 25) = w0 := ⟨_, rfl⟩
  rw [hw0] at hb0 g0
  have hl0 := (Array.getElem?_eq_some_iff.1 g0).1
  have HSS := Lib.hid (show ∀ W, Below w0.heap.size w0 W → W.cell? ⟨w.heap.size, 0, none⟩ = some (.int .i64 k) ∧ W.cell? ⟨w.heap.size, 1, none⟩ = some (.int .i64 mo) ∧ W.cell? ⟨w.heap.size, 2, none⟩ = some (.int .i64 n) ∧ W.cell? ⟨w.heap.size, 3, none⟩ = some (.int .i64 wk) ∧ W.cell? ⟨w.heap.size, 4, none⟩ = some (.int .i64 fy) ∧ W.cell? ⟨w.heap.size, 5, none⟩ = some (.int .i64 fm) ∧ W.cell? ⟨w.heap.size, 6, none⟩ = some (.int .i64 fd) ∧ W.cell? ⟨w.heap.size, 7, none⟩ = some (.int .i64 ty) ∧ W.cell? ⟨w.heap.size, 8, none⟩ = some (.int .i64 tm) ∧ W.cell? ⟨w.heap.size, 9, none⟩ = some (.int .i64 td) from fun W hb => ⟨cell_blk ((hb.block _ hl0).trans g0) 0 rfl, cell_blk ((hb.block _ hl0).trans g0) 1 rfl, cell_blk ((hb.block _ hl0).trans g0) 2 rfl, cell_blk ((hb.block _ hl0).trans g0) 3 rfl, cell_blk ((hb.block _ hl0).trans g0) 4 rfl, cell_blk ((hb.block _ hl0).trans g0) 5 rfl, cell_blk ((hb.block _ hl0).trans g0) 6 rfl, cell_blk ((hb.block _ hl0).trans g0) 7 rfl, cell_blk ((hb.block _ hl0).trans g0) 8 rfl, cell_blk ((hb.block _ hl0).trans g0) 9 rfl⟩)
  have HB0 := Lib.hid hb0
  have HW0 := Lib.hid hw0
  have HEW := Lib.hid (fun W (hW : Below w0.heap.size w0 W) => hE.below (hb0.trans (hW.mono hb0.size)))
  have HRW := Lib.hid (fun W (hW : Below w0.heap.size w0 W) => hEr.below (hb0.trans (hW.mono hb0.size)))
  have HFIN := Lib.hid (fun W (hW : Below w0.heap.size w0 W) => hb0.trans (hW.mono hb0.size))
  clear hb0 g0 hw0 hl0 hE hEr
  rcases hq with ⟨rfl, rfl⟩ | ⟨rfl, rfl, hq⟩ | ⟨rfl, rfl, hq, hq'⟩
  all_goals
    go_enter Tryz.func3, Tryz.ntmps3
    go_wp2_with fail
    rw [HW0.out]
    refine (HGV.out _).mono ?_
    rintro e w1 ⟨rfl, hb1⟩
    have HB1 := Lib.hid hb1
    clear hb1
    go_wp2_with fail
    refine (HMT.out _ (HEW.out _ HB1.out).tab).mono ?_
    rintro e w2 ⟨rfl, hb2⟩
    have hb3 := HB1.out.trans (hb2.mono HB1.out.size)
    have HB2 := Lib.hid hb3
    obtain ⟨c0, c1, c2, c3, c4, c5, c6, c7, c8, c9⟩ := HSS.out w2 hb3
    clear hb2 hb3 HB1
    go_wp2_with fail
    refine (HMA.out _).mono ?_
    rintro e w3 ⟨rfl, hb3⟩
    have HB3 := Lib.hid (HB2.out.trans (hb3.mono HB2.out.size))
    have hz0 : Below w0.heap.size w0 w3.drew := HB3.out.drew
    clear hb3 HB2 c0 c1 c2 c3 c4 c5 c6 c7 c8 c9
    go_wp2_with fail
    first
    | go_region_held3 (fun W => W.cell? ⟨w.heap.size, 0, none⟩ = some (.int .i64 k) ∧ W.cell? ⟨w.heap.size, 1, none⟩ = some (.int .i64 mo) ∧ W.cell? ⟨w.heap.size, 2, none⟩ = some (.int .i64 n) ∧ W.cell? ⟨w.heap.size, 3, none⟩ = some (.int .i64 wk) ∧ W.cell? ⟨w.heap.size, 4, none⟩ = some (.int .i64 fy) ∧ W.cell? ⟨w.heap.size, 5, none⟩ = some (.int .i64 fm) ∧ W.cell? ⟨w.heap.size, 6, none⟩ = some (.int .i64 fd) ∧ W.cell? ⟨w.heap.size, 7, none⟩ = some (.int .i64 ty) ∧ W.cell? ⟨w.heap.size, 8, none⟩ = some (.int .i64 tm) ∧ W.cell? ⟨w.heap.size, 9, none⟩ = some (.int .i64 td))
        (exact HSS.out _ (by assumption))
        (first
          | (go_at_call 9
             with_reducible refine (HN1.out _ (HRW.out _ hz0)).mono ?_
             rintro e w4 ⟨rfl, hb4⟩
             have hz1 : Below w0.heap.size w0 w4 := hz0.trans (hb4.mono hz0.size)
             clear hb4 hz0)
          | (go_at_call 7
             with_reducible refine (HGV.out _).mono ?_
             rintro e w5 ⟨rfl, hb5⟩
             have hz2 : Below w0.heap.size w0 w5 := hz1.trans (hb5.mono hz1.size)
             clear hb5 hz1)
          | (go_at_call 10
             with_reducible refine (HCK.out _ (HEW.out _ hz2).tab).mono ?_
             rintro e w6 ⟨rfl, hb6⟩
             have hz3 : Below w0.heap.size w0 w6 := hz2.trans (hb6.mono hz2.size)
             clear hb6 hz2)
          | (go_at_call 9
             with_reducible refine (HNK.out _ (HRW.out _ hz3)).mono ?_
             rintro e w7 ⟨rfl, hb7⟩
             have hz4 : Below w0.heap.size w0 w7 := hz3.trans (hb7.mono hz3.size)
             clear hb7 hz3)
          | (go_at_call 8
             with_reducible refine (HMA.out _).mono ?_
             rintro e w8 ⟨rfl, hb8⟩
             have hz5 : Below w0.heap.size w0 w8 := hz4.trans (hb8.mono hz4.size)
             clear hb8 hz4)
          | (go_at_call 11
             with_reducible refine (HS.out _ (HEW.out _ hz5)).mono ?_
             rintro e w9 ⟨rfl, hb9⟩
             have hz6 : Below w0.heap.size w0 w9 := hz5.trans (hb9.mono hz5.size)
             clear hb9 hz5))
    | fail
    all_goals
      go_wp2_with fail
      go_ret
      exact ⟨rfl, HFIN.out _ hz6⟩
set_option maxRecDepth 100000 in
set_option maxHeartbeats 4000000 in
theorem matches_yes (r : Rl) (a : Int) (w : World) (hE : En w) (hEr : ErrT w) (h : mayR r = true) (ha1 : -70368744177664 ≤ a) (ha2 : a ≤ 70368744177664) :
    Calls Tryz.prog 3 #[rv r, .int .i64 a] w fun e w' => e = .returned (.bool true) ∧ Below w.heap.size w w' := by
  obtain ⟨y, m, d, hi, hx⟩ := date_ex a
  have HS := Lib.hid (fun W (hW : En W) => sure_any W hW)
  have HGV := Lib.hid (fun W => giveR_any r W)
  have HMA := Lib.hid (fun W => refMay_any r W)
  have HCK := Lib.hid (fun W (hT : Tab W) => check_any r W hT)
  have HMT := Lib.hid (fun W (hT : Tab W) => match_yes r y m d a W hT hi hx ha1 ha2 h)
  have HRM := Lib.hid (fun W => refMatch_any r y m d a W hi hx ha1 ha2 h)
  rw [h, if_pos rfl, errE_zero] at HCK
  rw [h] at HMA
  generalize hitsR r y m d a = res at *
  clear h hi hx
  have q1 : ¬ a < -70368744177664 := by omega
  have q2 : ¬ 70368744177664 < a := by omega
  obtain ⟨k, mo, n, wk, fy, fm, fd, ty, tm, td⟩ := r
  unfold rv at *
  simp only at *
  have hb0 := (Below.refl w.heap.size w).alloc (Nat.le_refl _) (.cells #[.int .i64 k, .int .i64 mo, .int .i64 n, .int .i64 wk, .int .i64 fy, .int .i64 fm, .int .i64 fd, .int .i64 ty, .int .i64 tm, .int .i64 td] 25)
  have g0 := heap_alloc_new w (.cells #[.int .i64 k, .int .i64 mo, .int .i64 n, .int .i64 wk, .int .i64 fy, .int .i64 fm, .int .i64 fd, .int .i64 ty, .int .i64 tm, .int .i64 td] 25)
  obtain ⟨w0, hw0⟩ : ∃ w0, w.alloc (.cells #[.int .i64 k, .int .i64 mo, .int .i64 n, .int .i64 wk, .int .i64 fy, .int .i64 fm, .int .i64 fd, .int .i64 ty, .int .i64 tm, .int .i64 td] 25) = w0 := ⟨_, rfl⟩
  rw [hw0] at hb0 g0
  have hl0 := (Array.getElem?_eq_some_iff.1 g0).1
  have HSS := Lib.hid (show ∀ W, Below w0.heap.size w0 W → W.cell? ⟨w.heap.size, 0, none⟩ = some (.int .i64 k) ∧ W.cell? ⟨w.heap.size, 1, none⟩ = some (.int .i64 mo) ∧ W.cell? ⟨w.heap.size, 2, none⟩ = some (.int .i64 n) ∧ W.cell? ⟨w.heap.size, 3, none⟩ = some (.int .i64 wk) ∧ W.cell? ⟨w.heap.size, 4, none⟩ = some (.int .i64 fy) ∧ W.cell? ⟨w.heap.size, 5, none⟩ = some (.int .i64 fm) ∧ W.cell? ⟨w.heap.size, 6, none⟩ = some (.int .i64 fd) ∧ W.cell? ⟨w.heap.size, 7, none⟩ = some (.int .i64 ty) ∧ W.cell? ⟨w.heap.size, 8, none⟩ = some (.int .i64 tm) ∧ W.cell? ⟨w.heap.size, 9, none⟩ = some (.int .i64 td) from fun W hb => ⟨cell_blk ((hb.block _ hl0).trans g0) 0 rfl, cell_blk ((hb.block _ hl0).trans g0) 1 rfl, cell_blk ((hb.block _ hl0).trans g0) 2 rfl, cell_blk ((hb.block _ hl0).trans g0) 3 rfl, cell_blk ((hb.block _ hl0).trans g0) 4 rfl, cell_blk ((hb.block _ hl0).trans g0) 5 rfl, cell_blk ((hb.block _ hl0).trans g0) 6 rfl, cell_blk ((hb.block _ hl0).trans g0) 7 rfl, cell_blk ((hb.block _ hl0).trans g0) 8 rfl, cell_blk ((hb.block _ hl0).trans g0) 9 rfl⟩)
  have HB0 := Lib.hid hb0
  have HW0 := Lib.hid hw0
  have HEW := Lib.hid (fun W (hW : Below w0.heap.size w0 W) => hE.below (hb0.trans (hW.mono hb0.size)))
  have HRW := Lib.hid (fun W (hW : Below w0.heap.size w0 W) => hEr.below (hb0.trans (hW.mono hb0.size)))
  have HFIN := Lib.hid (fun W (hW : Below w0.heap.size w0 W) => hb0.trans (hW.mono hb0.size))
  clear hb0 g0 hw0 hl0 hE hEr
  cases res
  all_goals
    go_enter Tryz.func3, Tryz.ntmps3
    go_wp2_with fail
    rw [HW0.out]
    refine (HGV.out _).mono ?_
    rintro e w1 ⟨rfl, hb1⟩
    have HB1 := Lib.hid hb1
    clear hb1
    go_wp2_with fail
    refine (HMT.out _ (HEW.out _ HB1.out).tab).mono ?_
    rintro e w2 ⟨rfl, hb2⟩
    have hb3 := HB1.out.trans (hb2.mono HB1.out.size)
    have HB2 := Lib.hid hb3
    obtain ⟨c0, c1, c2, c3, c4, c5, c6, c7, c8, c9⟩ := HSS.out w2 hb3
    clear hb2 hb3 HB1
    go_wp2_with fail
    refine (HMA.out _).mono ?_
    rintro e w3 ⟨rfl, hb3⟩
    have hb4 := HB2.out.trans (hb3.mono HB2.out.size)
    have HB3 := Lib.hid hb4
    clear hb3 HB2 c0 c1 c2 c3 c4 c5 c6 c7 c8 c9
    obtain ⟨c0, c1, c2, c3, c4, c5, c6, c7, c8, c9⟩ := HSS.out w3 hb4
    clear hb4
    go_wp2_with fail
    refine (HRM.out _).mono ?_
    rintro e w4 ⟨rfl, hb4⟩
    have hb5 := HB3.out.trans (hb4.mono HB3.out.size)
    have HB4 := Lib.hid hb5
    clear hb4 HB3 c0 c1 c2 c3 c4 c5 c6 c7 c8 c9
    obtain ⟨c0, c1, c2, c3, c4, c5, c6, c7, c8, c9⟩ := HSS.out w4 hb5
    clear hb5
    go_wp2_with fail
    refine (HGV.out _).mono ?_
    rintro e w5 ⟨rfl, hb5⟩
    have HB5 := Lib.hid (HB4.out.trans (hb5.mono HB4.out.size))
    clear hb5 HB4 c0 c1 c2 c3 c4 c5 c6 c7 c8 c9
    go_wp2_with fail
    refine (HCK.out _ (HEW.out _ HB5.out).tab).mono ?_
    rintro e w6 ⟨rfl, hb6⟩
    have HB6 := Lib.hid (HB5.out.trans (hb6.mono HB5.out.size))
    clear hb6
    go_wp2_with fail
    refine (HS.out _ (HEW.out _ HB6.out)).mono ?_
    rintro e w7 ⟨rfl, hb7⟩
    have HB7 := Lib.hid (HB6.out.trans (hb7.mono HB6.out.size))
    clear hb7
    go_wp2_with fail
    go_ret
    exact ⟨rfl, HFIN.out _ HB7.out⟩
theorem matches_walk (r : Rl) (a : Int) (w : World) (hE : En w) (hEr : ErrT w) (_ : -9223372036854775808 ≤ a ∧ a ≤ 9223372036854775807) :
    Calls Tryz.prog 3 #[rv r, .int .i64 a] w fun e w' => e = .returned (.bool true) ∧ Below w.heap.size w w' := by
  cases h : mayR r
  · exact matches_no r a w hE hEr (.inl h)
  · by_cases h1 : a < -70368744177664
    · exact matches_no r a w hE hEr (.inr (.inl ⟨h, h1⟩))
    · by_cases h2 : 70368744177664 < a
      · exact matches_no r a w hE hEr (.inr (.inr ⟨h, h1, h2⟩))
      · exact matches_yes r a w hE hEr h (by omega) (by omega)
end Go.Proofs.YtjfmnflcgenpaaaGreatDoor

/- CivilOf's walk. -/
import Derived.Test.YtgndhhoajacfbaaDoorL4Sure
import Derived.Test.YtgndhhoajacfbaaDoorL4Num
import Derived.Test.YtgndhhoajacfbaaDoorCvH
namespace Go.Proofs.YtgndhhoajacfbaaDoor
open Go.RowKit

set_option maxRecDepth 100000 in
set_option maxHeartbeats 4000000 in
theorem of_no (n : Int) (w : World) (ht : Tab w) (he : ErrT w) (hn : -9223372036854775808 ≤ n ∧ n ≤ 9223372036854775807) (h : n < -70368744177664 ∨ 70368744177664 < n) :
    Calls Tryd.prog 4 #[.int .i64 n] w fun e w' => e = .returned (.bool true) ∧ Below w.heap.size w w' := by
  have HT := Lib.hid ht
  have HE := Lib.hid he
  have H1 := Lib.hid (ofNo_any n w h)
  unfold dt errNo at H1
  have HH := Lib.hid h
  have HW := Lib.hid (fun W => weekday_any n W)
  have HR := Lib.hid (fun W => refWeekday_any n W hn.1 hn.2)
  generalize wd n = x at *
  clear ht he h hn
  go_enter Tryd.func4, Tryd.ntmps4
  go_wp2_with fail
  refine H1.out.mono ?_
  rintro e w1 ⟨rfl, hb1⟩
  have HB1 := Lib.hid (hb1.alloc hb1.size (.cells #[.int .i64 0, .int .i64 0, .int .i64 0] 28))
  have G1 := Lib.hid (heap_alloc_new w1 (.cells #[.int .i64 0, .int .i64 0, .int .i64 0] 28))
  clear hb1 H1
  go_wp2_with fail
  refine (HW.out _).mono ?_
  rintro e w2 ⟨rfl, rfl⟩
  go_wp2_with fail
  refine (HR.out _).mono ?_
  rintro e w2 ⟨rfl, hb2⟩
  have HB2 := Lib.hid (HB1.out.trans (hb2.mono HB1.out.size))
  have g2 := (hb2.block w1.heap.size (by simp)).trans G1.out
  have hs2 : w1.heap.size < w2.heap.size := (Array.getElem?_eq_some_iff.1 g2).1
  have G2 := Lib.hid g2
  clear hb2 HB1 G1 g2
  go_wp2_with fail
  all_goals
    first
    | (exfalso
       have := HH.out
       omega)
    | (refine (num_err 1 _ (HE.out.below HB2.out)).mono ?_
       rintro e w3 ⟨rfl, hb3⟩
       have HB3 := Lib.hid (HB2.out.trans (hb3.mono HB2.out.size))
       have g3 := (hb3.block w1.heap.size hs2).trans G2.out
       have c0 := cell_blk g3 0 (v := .int .i64 0) rfl
       have c1 := cell_blk g3 1 (v := .int .i64 0) rfl
       have c2 := cell_blk g3 2 (v := .int .i64 0) rfl
       clear hb3 HB2 G2 g3
       go_wp2_with fail
       refine (sure_any _ (HT.out.below HB3.out)).mono ?_
       rintro e w4 ⟨rfl, hb⟩
       have HB4 := Lib.hid (HB3.out.trans (hb.mono HB3.out.size))
       clear hb
       go_wp2_with fail
       go_ret
       exact ⟨rfl, HB4.out⟩)
set_option maxRecDepth 100000 in
set_option maxHeartbeats 4000000 in
theorem of_ok (n : Int) (w : World) (ht : Tab w) (h1 : -70368744177664 ≤ n) (h2 : n ≤ 70368744177664) :
    Calls Tryd.prog 4 #[.int .i64 n] w fun e w' => e = .returned (.bool true) ∧ Below w.heap.size w w' := by
  obtain ⟨y, m, d, hi, hn⟩ := date_ex n
  have HT := Lib.hid ht
  have H1 := Lib.hid (ofOk_any y m d n w hi hn h1 h2 ht)
  unfold dt at H1
  have HW := Lib.hid (fun W => weekday_any n W)
  have HR := Lib.hid (fun W => refWeekday_any n W (by omega) (by omega))
  have HO := Lib.hid (fun W => refOf_any y m d n W hi hn h1 h2)
  unfold dt at HO
  have HG := Lib.hid (fun W => give_any y m d W)
  unfold dt at HG
  generalize wd n = x at *
  clear ht hi hn
  go_enter Tryd.func4, Tryd.ntmps4
  go_wp2_with fail
  refine H1.out.mono ?_
  rintro e w1 ⟨rfl, hb1⟩
  have HB1 := Lib.hid (hb1.alloc hb1.size (.cells #[.int .i64 y, .int .i64 m, .int .i64 d] 28))
  have G1 := Lib.hid (heap_alloc_new w1 (.cells #[.int .i64 y, .int .i64 m, .int .i64 d] 28))
  clear hb1 H1
  go_wp2_with fail
  refine (HW.out _).mono ?_
  rintro e w2 ⟨rfl, rfl⟩
  go_wp2_with fail
  refine (HR.out _).mono ?_
  rintro e w2 ⟨rfl, hb2⟩
  have HB2 := Lib.hid (HB1.out.trans (hb2.mono HB1.out.size))
  have g2 := (hb2.block w1.heap.size (by simp)).trans G1.out
  have hs2 : w1.heap.size < w2.heap.size := (Array.getElem?_eq_some_iff.1 g2).1
  have hS0 := And.intro (cell_blk g2 0 (v := .int .i64 y) rfl) (And.intro (cell_blk g2 1 (v := .int .i64 m) rfl) (cell_blk g2 2 (v := .int .i64 d) rfl))
  clear hb2 HB1 G1 g2 HW HR
  go_wp2_with fail
  have hbd : Below w2.heap.size w2 w2.drew := ⟨rfl, rfl, rfl, Nat.le_refl _, fun _ _ => rfl⟩
  have HSS := Lib.hid (show ∀ W, Below w2.heap.size w2 W → W.cell? ⟨w1.heap.size, 0, none⟩ = some (.int .i64 y) ∧ W.cell? ⟨w1.heap.size, 1, none⟩ = some (.int .i64 m) ∧ W.cell? ⟨w1.heap.size, 2, none⟩ = some (.int .i64 d) from fun W hb =>
    ⟨(hb.cell hs2).trans hS0.1, (hb.cell hs2).trans hS0.2.1, (hb.cell hs2).trans hS0.2.2⟩)
  go_region_held3 (fun W => W.cell? ⟨w1.heap.size, 0, none⟩ = some (.int .i64 y) ∧ W.cell? ⟨w1.heap.size, 1, none⟩ = some (.int .i64 m) ∧ W.cell? ⟨w1.heap.size, 2, none⟩ = some (.int .i64 d))
    (exact HSS.out _ (by assumption))
    (first
      | (go_at_call 19
         refine (HO.out _).mono ?_
         rintro e w3 ⟨rfl, hb3⟩
         have hb3' : Below w2.heap.size w2 w3 := hbd.trans (hb3.mono hbd.size)
         clear hb3)
      | (go_at_call 11
         refine (HG.out _).mono ?_
         rintro e w4 ⟨rfl, hb4⟩
         have hb4' : Below w2.heap.size w2 w4 := hb3'.trans (hb4.mono hb3'.size)
         clear hb4)
      | (go_at_call 14
         refine (sure_any _ ((HT.out.below HB2.out).below hb4')).mono ?_
         rintro e w5 ⟨rfl, hb5⟩
         have hb5' : Below w2.heap.size w2 w5 := hb4'.trans (hb5.mono hb4'.size)
         clear hb5))
  all_goals
    clear hS0
    go_wp2_with fail
    go_ret
    exact ⟨rfl, HB2.out.trans (hb5'.mono HB2.out.size)⟩
theorem of_any (n : Int) (w : World) (ht : Tab w) (he : ErrT w) (hn : -9223372036854775808 ≤ n ∧ n ≤ 9223372036854775807) :
    Calls Tryd.prog 4 #[.int .i64 n] w fun e w' => e = .returned (.bool true) ∧ Below w.heap.size w w' := by
  by_cases h : n < -70368744177664 ∨ 70368744177664 < n
  · exact of_no n w ht he hn h
  · exact of_ok n w ht (by omega) (by omega)
end Go.Proofs.YtgndhhoajacfbaaDoor

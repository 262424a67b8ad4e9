/- CivilDays' walk. -/
import Derived.Test.YtgndhhoajacfbaaDoorL4Cycles
import Derived.Test.YtgndhhoajacfbaaDoorL4Num
namespace Go.Proofs.YtgndhhoajacfbaaDoor
open Go.RowKit

theorem days_no (y m d : Int) (w : World) (ht : Tab w) (h : ¬ May y m d) :
    Calls Tryd.prog 10 #[dt y m d] w fun e w' => e = .returned (.tuple #[.int .i64 0, errNo]) ∧ Below w.heap.size w w' := by
  by_cases hm : m < 1 ∨ 12 < m ∨ y < -274877906944 ∨ 274877906944 < y
  · exact daysNoM_any y m d w hm
  · obtain ⟨k, rfl⟩ := Int.eq_ofNat_of_zero_le (show 0 ≤ m by omega)
    refine daysNoD_any y k d w (by omega) (by omega) ?_ (by omega) (by omega) ht
    by_cases h1 : d < 1
    · exact .inl h1
    · refine .inr ?_
      rcases Int.lt_or_le (mlen y k) d with h2 | h2
      · exact h2
      · exact absurd ⟨by omega, by omega, k, rfl, by omega, by omega, by omega, h2⟩ h
set_option maxRecDepth 100000 in
set_option maxHeartbeats 4000000 in
theorem cdays_no (y m d : Int) (w : World) (ht : Tab w) (he : ErrT w) (h : ¬ May y m d) :
    Calls Tryd.prog 3 #[dt y m d] w fun e w' => e = .returned (.bool true) ∧ Below w.heap.size w w' := by
  have hbl := (Below.refl w.heap.size w).alloc (Nat.le_refl _) (.cells #[.int .i64 y, .int .i64 m, .int .i64 d] 23)
  have HT := Lib.hid ht
  have HE := Lib.hid he
  have HN := Lib.hid h
  have HB := Lib.hid hbl
  have G0 := Lib.hid (heap_alloc_new w (.cells #[.int .i64 y, .int .i64 m, .int .i64 d] 23))
  clear hbl h ht he
  unfold dt
  go_enter Tryd.func3, Tryd.ntmps3
  go_wp2_with fail
  refine (give_any y m d _).mono ?_
  unfold dt
  rintro e w1 ⟨rfl, hb1⟩
  have HB1 := Lib.hid (HB.out.trans (hb1.mono (by simp)))
  have g1 := (hb1.block w.heap.size (by simp)).trans G0.out
  have hs1 : w.heap.size < w1.heap.size := (Array.getElem?_eq_some_iff.1 g1).1
  have G1 := Lib.hid g1
  clear hb1 g1 HB G0
  go_wp2_with fail
  have H2 := Lib.hid (days_no y m d w1 (HT.out.below HB1.out) HN.out)
  unfold dt errNo at H2
  refine H2.out.mono ?_
  rintro e w2 ⟨rfl, hb2⟩
  have HB2 := Lib.hid (HB1.out.trans (hb2.mono HB1.out.size))
  have g2 := (hb2.block w.heap.size hs1).trans G1.out
  have c0 := cell_blk g2 0 (v := .int .i64 y) rfl
  have c1 := cell_blk g2 1 (v := .int .i64 m) rfl
  have c2 := cell_blk g2 2 (v := .int .i64 d) rfl
  clear hb2 g2 HB1 G1 H2
  go_wp2_with fail
  have H3 := Lib.hid (may_no y m d w2 HN.out)
  unfold dt at H3
  refine H3.out.mono ?_
  rintro e w3 ⟨rfl, hb3⟩
  have HB3 := Lib.hid (HB2.out.trans (hb3.mono HB2.out.size))
  clear hb3 HB2 H3 c0 c1 c2
  go_wp2_with fail
  refine (num_err 1 _ (HE.out.below HB3.out)).mono ?_
  rintro e w4 ⟨rfl, hb4⟩
  have HB4 := Lib.hid (HB3.out.trans (hb4.mono HB3.out.size))
  clear hb4 HB3
  go_wp2_with fail
  refine (sure_any _ (HT.out.below HB4.out)).mono ?_
  rintro e w5 ⟨rfl, hb5⟩
  have HB5 := Lib.hid (HB4.out.trans (hb5.mono HB4.out.size))
  clear hb5
  go_wp2_with fail
  go_ret
  exact ⟨rfl, HB5.out⟩
set_option maxRecDepth 100000 in
set_option maxHeartbeats 4000000 in
theorem cdays_ok (y : Int) (m : Nat) (d : Int) (w : World) (ht : Tab w) (h1 : -274877906944 ≤ y) (h2 : y ≤ 274877906944) (h : Is y m d) :
    Calls Tryd.prog 3 #[dt y m d] w fun e w' => e = .returned (.bool true) ∧ Below w.heap.size w w' := by
  have hbl := (Below.refl w.heap.size w).alloc (Nat.le_refl _) (.cells #[.int .i64 y, .int .i64 m, .int .i64 d] 23)
  have HT := Lib.hid ht
  have HI := Lib.hid h
  have HB := Lib.hid hbl
  have G0 := Lib.hid (heap_alloc_new w (.cells #[.int .i64 y, .int .i64 m, .int .i64 d] 23))
  clear hbl h ht
  unfold dt
  go_enter Tryd.func3, Tryd.ntmps3
  go_wp2_with fail
  refine (give_any y m d _).mono ?_
  unfold dt
  rintro e w1 ⟨rfl, hb1⟩
  have HB1 := Lib.hid (HB.out.trans (hb1.mono (by simp)))
  have g1 := (hb1.block w.heap.size (by simp)).trans G0.out
  have hs1 : w.heap.size < w1.heap.size := (Array.getElem?_eq_some_iff.1 g1).1
  have G1 := Lib.hid g1
  clear hb1 g1 HB G0
  go_wp2_with fail
  have H2 := Lib.hid (daysOk_any y m d w1 HI.out h1 h2 (HT.out.below HB1.out))
  unfold dt at H2
  refine H2.out.mono ?_
  rintro e w2 ⟨rfl, hb2⟩
  have HB2 := Lib.hid (HB1.out.trans (hb2.mono HB1.out.size))
  have g2 := (hb2.block w.heap.size hs1).trans G1.out
  have hs2 : w.heap.size < w2.heap.size := (Array.getElem?_eq_some_iff.1 g2).1
  have G2 := Lib.hid g2
  have c0 := cell_blk g2 0 (v := .int .i64 y) rfl
  have c1 := cell_blk g2 1 (v := .int .i64 m) rfl
  have c2 := cell_blk g2 2 (v := .int .i64 d) rfl
  clear hb2 g2 HB1 G1 H2
  go_wp2_with fail
  have H3 := Lib.hid (may_yes y m d w2 HI.out h1 h2)
  unfold dt at H3
  refine H3.out.mono ?_
  rintro e w3 ⟨rfl, hb3⟩
  have HB3 := Lib.hid (HB2.out.trans (hb3.mono HB2.out.size))
  have g3 := (hb3.block w.heap.size hs2).trans G2.out
  clear c0 c1 c2
  have c0 := cell_blk g3 0 (v := .int .i64 y) rfl
  have c1 := cell_blk g3 1 (v := .int .i64 m) rfl
  have c2 := cell_blk g3 2 (v := .int .i64 d) rfl
  have H4 := Lib.hid (refDays_any y m d w3 HI.out h1 h2)
  unfold dt at H4
  generalize nr y m d = n at *
  clear hb3 HB2 H3 g3 G2
  go_wp2_with fail
  refine H4.out.mono ?_
  rintro e w4 ⟨rfl, hb4⟩
  have HB4 := Lib.hid (HB3.out.trans (hb4.mono HB3.out.size))
  clear hb4 HB3 H4 c0 c1 c2
  go_wp2_with fail
  refine (sure_any _ (HT.out.below HB4.out)).mono ?_
  rintro e w5 ⟨rfl, hb5⟩
  have HB5 := Lib.hid (HB4.out.trans (hb5.mono HB4.out.size))
  clear hb5
  go_wp2_with fail
  go_ret
  exact ⟨rfl, HB5.out⟩
theorem cdays_any (y m d : Int) (w : World) (ht : Tab w) (he : ErrT w) :
    Calls Tryd.prog 3 #[dt y m d] w fun e w' => e = .returned (.bool true) ∧ Below w.heap.size w w' := by
  by_cases h : May y m d
  · obtain ⟨h1, h2, k, rfl, hi⟩ := h
    exact cdays_ok y k d w ht h1 h2 hi
  · exact cdays_no y m d w ht he h
end Go.Proofs.YtgndhhoajacfbaaDoor

/- CivilCycles' walk. -/
import Derived.Test.YtgndhhoajacfbaaDoorL4Sure
import Derived.Test.YtgndhhoajacfbaaDoorCvH
namespace Go.Proofs.YtgndhhoajacfbaaDoor
open Go.RowKit

/-- A date may be. -/
def May (y m d : Int) : Prop := -274877906944 ≤ y ∧ y ≤ 274877906944 ∧ ∃ k : Nat, m = k ∧ Is y k d
theorem may_yes (y : Int) (m : Nat) (d : Int) (w : World) (hi : Is y m d) (h1 : -274877906944 ≤ y) (h2 : y ≤ 274877906944) :
    Calls Tryd.prog 12 #[dt y m d] w fun e w' => e = .returned (.bool true) ∧ Below w.heap.size w w' :=
  may_call y m d true w hi.m1 hi.m12 h1 h2 hi.d1 (decide_eq_true hi.dl)
theorem may_no (y m d : Int) (w : World) (h : ¬ May y m d) :
    Calls Tryd.prog 12 #[dt y m d] w fun e w' => e = .returned (.bool false) ∧ Below w.heap.size w w' := by
  by_cases hh : -274877906944 ≤ y ∧ y ≤ 274877906944 ∧ 1 ≤ m ∧ m ≤ 12 ∧ 1 ≤ d
  · obtain ⟨h1, h2, h3, h4, h5⟩ := hh
    obtain ⟨k, rfl⟩ := Int.eq_ofNat_of_zero_le (show 0 ≤ m by omega)
    refine may_call y k d false w (by omega) (by omega) h1 h2 h5 (decide_eq_false fun h6 => h ⟨h1, h2, k, rfl, by omega, by omega, h5, h6⟩)
  · exact may_none y m d w hh
set_option maxRecDepth 100000 in
set_option maxHeartbeats 4000000 in
theorem cycles_no (y m d : Int) (w : World) (ht : Tab w) (h : ¬ May y m d) :
    Calls Tryd.prog 7 #[dt y m d] w fun e w' => e = .returned (.bool true) ∧ Below w.heap.size w w' := by
  have hbl := (Below.refl w.heap.size w).alloc (Nat.le_refl _) (.cells #[.int .i64 y, .int .i64 m, .int .i64 d] 23)
  have HM := Lib.hid (may_no y m d (w.alloc (.cells #[.int .i64 y, .int .i64 m, .int .i64 d] 23)) h)
  have HT := Lib.hid (ht.below hbl)
  have HB := Lib.hid hbl
  clear hbl h ht
  unfold dt at *
  go_enter Tryd.func7, Tryd.ntmps7
  go_wp2_with fail
  refine HM.out.mono ?_
  rintro e w1 ⟨rfl, hb1⟩
  have HB1 := Lib.hid (HB.out.trans (hb1.mono (by simp)))
  have HT1 := Lib.hid (HT.out.below hb1)
  clear hb1
  go_wp2_with fail
  refine (sure_any _ HT1.out).mono ?_
  rintro e w2 ⟨rfl, hb2⟩
  have HB2 := Lib.hid (HB1.out.trans (hb2.mono HB1.out.size))
  clear hb2
  go_wp2_with fail
  go_ret
  exact ⟨rfl, HB2.out⟩
set_option maxRecDepth 100000 in
set_option maxHeartbeats 4000000 in
theorem cycles_late (y : Int) (m : Nat) (d : Int) (w : World) (ht : Tab w) (hi : Is y m d) (h1 : 274877906544 < y) (h2 : y ≤ 274877906944) :
    Calls Tryd.prog 7 #[dt y m d] w fun e w' => e = .returned (.bool true) ∧ Below w.heap.size w w' := by
  have hbl := (Below.refl w.heap.size w).alloc (Nat.le_refl _) (.cells #[.int .i64 y, .int .i64 m, .int .i64 d] 23)
  have HM := Lib.hid (may_yes y m d (w.alloc (.cells #[.int .i64 y, .int .i64 m, .int .i64 d] 23)) hi (by omega) h2)
  have HT := Lib.hid (ht.below hbl)
  have HB := Lib.hid hbl
  clear hbl hi ht
  unfold dt at *
  go_enter Tryd.func7, Tryd.ntmps7
  go_wp2_with fail
  refine HM.out.mono ?_
  rintro e w1 ⟨rfl, hb1⟩
  have HB1 := Lib.hid (HB.out.trans (hb1.mono (by simp)))
  have HT1 := Lib.hid (HT.out.below hb1)
  have g1 : w1.heap[w.heap.size]? = _ := (hb1.block w.heap.size (by simp)).trans (heap_alloc_new _ _)
  have c0 := cell_blk g1 0 (v := .int .i64 y) rfl
  clear hb1 g1
  go_wp2_with fail
  refine (sure_any _ HT1.out).mono ?_
  rintro e w2 ⟨rfl, hb2⟩
  have HB2 := Lib.hid (HB1.out.trans (hb2.mono HB1.out.size))
  clear hb2
  go_wp2_with fail
  go_ret
  exact ⟨rfl, HB2.out⟩
set_option maxRecDepth 100000 in
set_option maxHeartbeats 4000000 in
theorem cycles_yes (y : Int) (m : Nat) (d : Int) (w : World) (ht : Tab w) (hi : Is y m d) (h1 : -274877906944 ≤ y) (h2 : y ≤ 274877906544) :
    Calls Tryd.prog 7 #[dt y m d] w fun e w' => e = .returned (.bool true) ∧ Below w.heap.size w w' := by
  have hbl := (Below.refl w.heap.size w).alloc (Nat.le_refl _) (.cells #[.int .i64 y, .int .i64 m, .int .i64 d] 23)
  have HM := Lib.hid (may_yes y m d (w.alloc (.cells #[.int .i64 y, .int .i64 m, .int .i64 d] 23)) hi h1 (by omega))
  have HI := Lib.hid hi
  have HT0 := Lib.hid ht
  have HT := Lib.hid (ht.below hbl)
  have HB := Lib.hid hbl
  have hn := bgn_bd h1 (show y ≤ 274877906945 by omega)
  have hcum := cum_nn y (m - 1) (by have := hi.m12; omega)
  have hd1 := hi.d1
  have hd2 := hi.dl
  have hl := mlen_le (y := y) hi.m1 hi.m12
  have hm := hi.m12
  have hnr : -200000000000000 ≤ nr y m d ∧ nr y m d ≤ 200000000000000 := by unfold nr; omega
  have N4 := Lib.hid (nr_400 y 1 m d)
  have I4 := Lib.hid (hi.y400 1)
  rw [show y + 400 * 1 = y + 400 by omega, show (146097 : Int) * 1 = 146097 by omega] at N4
  rw [show y + 400 * 1 = y + 400 by omega] at I4
  clear hbl hi ht hcum hl hd1 hd2 hn hm
  unfold dt at *
  go_enter Tryd.func7, Tryd.ntmps7
  go_wp2_with fail
  refine HM.out.mono ?_
  rintro e w1 ⟨rfl, hb1⟩
  have HB1 := Lib.hid (HB.out.trans (hb1.mono (by simp)))
  have HT1 := Lib.hid (HT.out.below hb1)
  have g1 : w1.heap[w.heap.size]? = _ := (hb1.block w.heap.size (by simp)).trans (heap_alloc_new _ _)
  have c0 := cell_blk g1 0 (v := .int .i64 y) rfl
  have c1 := cell_blk g1 1 (v := .int .i64 m) rfl
  have c2 := cell_blk g1 2 (v := .int .i64 d) rfl
  have G1 := Lib.hid g1
  have hs1 : w.heap.size < w1.heap.size := (Array.getElem?_eq_some_iff.1 g1).1
  clear hb1 g1 HM HT HB
  go_wp2_with fail
  refine (give_any y m d w1).mono ?_
  unfold dt
  rintro e w2 ⟨rfl, hb2⟩
  have g2 : w2.heap[w.heap.size]? = _ := (hb2.block w.heap.size hs1).trans G1.out
  have HB2 := Lib.hid (HB1.out.trans (hb2.mono HB1.out.size))
  have HT2 := Lib.hid (HT1.out.below hb2)
  have G2 := Lib.hid g2
  have hs2 : w.heap.size < w2.heap.size := (Array.getElem?_eq_some_iff.1 g2).1
  clear hb2 g2 HB1 HT1 G1 c0 c1 c2
  go_wp2_with fail
  have H3 := Lib.hid (daysOk_any y m d w2 HI.out h1 (by omega) HT2.out)
  unfold dt at H3
  refine H3.out.mono ?_
  rintro e w3 ⟨rfl, hb3⟩
  have g3 : w3.heap[w.heap.size]? = _ := (hb3.block w.heap.size hs2).trans G2.out
  have HB3 := Lib.hid (HB2.out.trans (hb3.mono HB2.out.size))
  have HT3 := Lib.hid (HT2.out.below hb3)
  have c0 := cell_blk g3 0 (v := .int .i64 y) rfl
  have c1 := cell_blk g3 1 (v := .int .i64 m) rfl
  have c2 := cell_blk g3 2 (v := .int .i64 d) rfl
  have f0 := frz_blk g3 0
  have hs3 : w.heap.size < w3.heap.size := (Array.getElem?_eq_some_iff.1 g3).1
  clear hb3 g3 HB2 HT2 G2 H3
  generalize nr y m d = n at *
  go_wp2_with fail
  have HB4 := Lib.hid (HB3.out.setCell (p := ⟨w.heap.size, 0, none⟩) (Nat.le_refl _) (.int .i64 (y + 400)))
  refine (give_any (y + 400) m d _).mono ?_
  unfold dt
  rintro e w5 ⟨rfl, hb5⟩
  have HB5 := Lib.hid (HB4.out.trans (hb5.mono HB4.out.size))
  clear hb5 c0 c1 c2 f0 HB4 HB3 HT3
  go_wp2_with fail
  have H6 := Lib.hid (daysOk_any (y + 400) m d w5 I4.out (by omega) (by omega) (HT0.out.below HB5.out))
  rw [N4.out] at H6
  unfold dt at H6
  refine H6.out.mono ?_
  rintro e w6 ⟨rfl, hb6⟩
  have HB6 := Lib.hid (HB5.out.trans (hb6.mono HB5.out.size))
  have W1 := Lib.hid (weekday_any (n + 146097) w6)
  have W0 := Lib.hid (weekday_any n w6)
  rw [wd_cycle] at W1
  clear hb6 H6 HB5
  go_wp2_with fail
  refine W0.out.mono ?_
  rintro e w7 ⟨rfl, rfl⟩
  go_wp2_with fail
  refine W1.out.mono ?_
  rintro e w7 ⟨rfl, rfl⟩
  go_wp2_with fail
  refine (sure_any _ (HT0.out.below HB6.out)).mono ?_
  rintro e w8 ⟨rfl, hb8⟩
  have HB8 := Lib.hid (HB6.out.trans (hb8.mono HB6.out.size))
  clear hb8
  go_wp2_with fail
  go_ret
  exact ⟨rfl, HB8.out⟩
theorem cycles_any (y m d : Int) (w : World) (ht : Tab w) :
    Calls Tryd.prog 7 #[dt y m d] w fun e w' => e = .returned (.bool true) ∧ Below w.heap.size w w' := by
  by_cases h : May y m d
  · obtain ⟨h1, h2, k, rfl, hi⟩ := h
    by_cases hl : 274877906544 < y
    · exact cycles_late y k d w ht hi hl h2
    · exact cycles_yes y k d w ht hi h1 (by omega)
  · exact cycles_no y m d w ht h
end Go.Proofs.YtgndhhoajacfbaaDoor

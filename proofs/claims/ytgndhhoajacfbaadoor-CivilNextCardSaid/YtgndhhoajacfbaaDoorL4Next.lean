/- CivilNext's walk. -/
import Derived.Test.YtgndhhoajacfbaaDoorL4Sure
import Derived.Test.YtgndhhoajacfbaaDoorCvG
namespace Go.Proofs.YtgndhhoajacfbaaDoor
open Go.RowKit

/-- The next date. -/
theorem next_is {y : Int} {m : Nat} {d n : Int} (hi : Is y m d) (hn : nr y m d = n) :
    ∃ (y2 : Int) (m2 : Nat) (d2 : Int), Is y2 m2 d2 ∧ nr y2 m2 d2 = n + 1 ∧
      ((d < mlen y m ∧ y2 = y ∧ m2 = m ∧ d2 = d + 1) ∨ (d = mlen y m ∧ m < 12 ∧ y2 = y ∧ m2 = m + 1 ∧ d2 = 1) ∨ (d = mlen y m ∧ m = 12 ∧ y2 = y + 1 ∧ m2 = 1 ∧ d2 = 1)) := by
  obtain ⟨h1, h2, h3, h4⟩ := hi
  rcases Int.lt_or_le d (mlen y m) with h | h
  · refine ⟨y, m, d + 1, ⟨h1, h2, by omega, by omega⟩, ?_, .inl ⟨h, rfl, rfl, rfl⟩⟩
    unfold nr at hn ⊢
    omega
  · have hd : d = mlen y m := by omega
    obtain ⟨k, rfl⟩ : ∃ k, m = k + 1 := ⟨m - 1, by omega⟩
    have hs := cum_succ y k
    rcases Nat.lt_or_ge k 11 with hk | hk
    · refine ⟨y, k + 2, 1, ⟨by omega, by omega, by omega, ?_⟩, ?_, .inr (.inl ⟨hd, by omega, rfl, rfl, rfl⟩)⟩
      · have := mlen_le (y := y) (m := k + 2) (by omega) (by omega)
        omega
      · unfold nr at hn ⊢
        simp only [Nat.add_sub_cancel, show k + 2 - 1 = k + 1 by omega] at hn ⊢
        omega
    · obtain rfl : k = 11 := by omega
      refine ⟨y + 1, 1, 1, ⟨by omega, by omega, by omega, ?_⟩, ?_, .inr (.inr ⟨hd, rfl, rfl, rfl, rfl⟩)⟩
      · have := mlen_le (y := y + 1) (m := 1) (by omega) (by omega)
        omega
      · have h12 := cum_12 y
        have hs' : cum y 12 = cum y 11 + mlen y 12 := hs
        have hd' : d = mlen y 12 := hd
        have hn' : bgn y + cum y 11 + d - 1 = n := hn
        show bgn (y + 1) + 0 + 1 - 1 = n + 1
        rw [bgn_succ]
        omega
theorem next_out (n : Int) (w : World) (ht : Tab w) (h : n < -70368744177664 ∨ 70368744177664 ≤ n) :
    Calls Tryd.prog 6 #[.int .i64 n] w fun e w' => e = .returned (.bool true) ∧ Below w.heap.size w w' := by
  have HS := Lib.hid (sure_any w ht)
  clear ht
  rcases h with h | h
  all_goals
    go_enter Tryd.func6, Tryd.ntmps6
    go_wp2_with fail
    refine HS.out.mono ?_
    rintro e w1 ⟨rfl, hb⟩
    have HB := Lib.hid hb
    clear hb
    go_wp2_with fail
    go_ret
    exact ⟨rfl, HB.out⟩
set_option maxRecDepth 100000 in
set_option maxHeartbeats 4000000 in
theorem next_in (n : Int) (w : World) (ht : Tab w) (hn1 : -70368744177664 ≤ n) (hn2 : n < 70368744177664) :
    Calls Tryd.prog 6 #[.int .i64 n] w fun e w' => e = .returned (.bool true) ∧ Below w.heap.size w w' := by
  obtain ⟨y, m, d, hi, hn⟩ := date_ex n
  obtain ⟨y2, m2, d2, hi2, hnn, hc⟩ := next_is hi hn
  have hy := year_bd (n := n) (Y := y) (hn ▸ (nr_in hi).1) (hn ▸ (nr_in hi).2) hn1 (by omega)
  have HI := Lib.hid (And.intro hi hn)
  have HI2 := Lib.hid (And.intro hi2 hnn)
  have HC := Lib.hid hc
  have HT := Lib.hid ht
  have hl := mlen_le (y := y) hi.m1 hi.m12
  have hd1 := hi.d1
  have hd2 := hi.dl
  have hm1 := hi.m1
  have hm2 := hi.m12
  have H1 := Lib.hid (ofOk_any y m d n w hi hn hn1 (by omega) ht)
  clear ht hc hi hi2 hn hnn
  unfold dt at H1
  go_enter Tryd.func6, Tryd.ntmps6
  go_wp2_with fail
  refine H1.out.mono ?_
  rintro e w1 ⟨rfl, hb1⟩
  have HB1 := Lib.hid hb1
  have HT1 := Lib.hid ((HT.out.below hb1).below ((Below.refl _ _).alloc (Nat.le_refl _) (.cells #[.int .i64 y, .int .i64 m, .int .i64 d] 28)))
  clear hb1 H1 HT
  go_wp2_with fail
  have H2 := Lib.hid (ofOk_any y2 m2 d2 (n + 1) _ HI2.out.1 HI2.out.2 (by omega) (by omega) HT1.out)
  unfold dt at H2
  refine H2.out.mono ?_
  rintro e w2 ⟨rfl, hb2⟩
  have ga : w2.heap[w1.heap.size]? = _ := (hb2.block _ (by simp)).trans (heap_alloc_new _ _)
  have HB2 := Lib.hid (HB1.out.trans (((Below.refl _ _).alloc (Nat.le_refl _) _).trans (hb2.mono (by simp)) |>.mono HB1.out.size))
  have HT2 := Lib.hid ((HT1.out.below hb2).below ((Below.refl _ _).alloc (Nat.le_refl _) (.cells #[.int .i64 y2, .int .i64 m2, .int .i64 d2] 28)))
  have hs1 : w1.heap.size < w2.heap.size := by have := hb2.size; simp at this; omega
  clear H2 hb2 HT1
  have a0 := cell_blk ga 0 (v := .int .i64 y) rfl
  have a1 := cell_blk ga 1 (v := .int .i64 m) rfl
  have a2 := cell_blk ga 2 (v := .int .i64 d) rfl
  have GA := Lib.hid ga
  clear ga
  go_wp2_with fail
  have H3 := Lib.hid (daysOk_any y m d _ HI.out.1 hy.1 (by omega) HT2.out)
  rw [HI.out.2] at H3
  unfold dt at H3
  refine H3.out.mono ?_
  rintro e w3 ⟨rfl, hb3⟩
  have ga : w3.heap[w1.heap.size]? = _ := (hb3.block _ (by simp; omega)).trans ((Below.heap_alloc _ _ _ hs1).trans GA.out)
  have gb : w3.heap[w2.heap.size]? = _ := (hb3.block _ (by simp)).trans (heap_alloc_new _ _)
  have HB3 := Lib.hid (HB2.out.trans ((((Below.refl _ _).alloc (Nat.le_refl _) _).trans (hb3.mono (by simp))).mono HB2.out.size))
  have HT3 := Lib.hid (HT2.out.below hb3)
  have hs2 : w2.heap.size < w3.heap.size := by have := hb3.size; simp at this; omega
  have hs3 : w1.heap.size < w3.heap.size := by omega
  clear H3 hb3 HT2 a0 a1 a2 GA
  have a0 := cell_blk ga 0 (v := .int .i64 y) rfl
  have a1 := cell_blk ga 1 (v := .int .i64 m) rfl
  have a2 := cell_blk ga 2 (v := .int .i64 d) rfl
  have b0 := cell_blk gb 0 (v := .int .i64 y2) rfl
  have b1 := cell_blk gb 1 (v := .int .i64 m2) rfl
  have b2 := cell_blk gb 2 (v := .int .i64 d2) rfl
  clear ga gb
  go_wp2_with fail
  have H4 := Lib.hid (lengthOk_any y m w3 hm1 hm2 hy.1 (by omega) HT3.out)
  refine H4.out.mono ?_
  rintro e w4 ⟨rfl, rfl⟩
  clear H4
  have W1 := Lib.hid (weekday_any (n + 1) w3)
  have W0 := Lib.hid (weekday_any n w3)
  rw [wd_1] at W1
  obtain ⟨x1, x2⟩ := wd_bd n
  generalize wd n = x at *
  generalize mlen y m = L at *
  go_wp2_with fail
  refine W1.out.mono ?_
  rintro e w4 ⟨rfl, rfl⟩
  go_wp2_with fail
  refine W0.out.mono ?_
  rintro e w4 ⟨rfl, rfl⟩
  rcases HC.out with ⟨hd, rfl, rfl, rfl⟩ | ⟨hd, hm, rfl, rfl, rfl⟩ | ⟨hd, rfl, rfl, rfl, rfl⟩
  · have q1 : (d == L) = false := beq_eq_false_iff_ne.2 (by omega)
    have q2 : ((m2 : Int) == 13) = false := beq_eq_false_iff_ne.2 (by omega)
    clear HC HI HI2
    go_wp2_with fail
    refine (sure_any _ (HT3.out.below ((Below.refl _ _).alloc (Nat.le_refl _) _))).mono ?_
    rintro e w5 ⟨rfl, hb5⟩
    have HB5 := Lib.hid ((HB3.out.alloc HB3.out.size _).trans (hb5.mono (by have := HB3.out.size; simp; omega)))
    clear hb5
    go_wp2_with fail
    go_ret
    exact ⟨rfl, HB5.out⟩
  · subst hd
    have q2 : ((m : Int) + 1 == 13) = false := beq_eq_false_iff_ne.2 (by omega)
    clear HC HI HI2
    go_wp2_with fail
    refine (sure_any _ (HT3.out.below ((Below.refl _ _).alloc (Nat.le_refl _) _))).mono ?_
    rintro e w5 ⟨rfl, hb5⟩
    have HB5 := Lib.hid ((HB3.out.alloc HB3.out.size _).trans (hb5.mono (by have := HB3.out.size; simp; omega)))
    clear hb5
    go_wp2_with fail
    go_ret
    exact ⟨rfl, HB5.out⟩
  · subst hd
    clear HC HI HI2
    go_wp2_with fail
    refine (sure_any _ (HT3.out.below ((Below.refl _ _).alloc (Nat.le_refl _) _))).mono ?_
    rintro e w5 ⟨rfl, hb5⟩
    have HB5 := Lib.hid ((HB3.out.alloc HB3.out.size _).trans (hb5.mono (by have := HB3.out.size; simp; omega)))
    clear hb5
    go_wp2_with fail
    go_ret
    exact ⟨rfl, HB5.out⟩
theorem next_any (n : Int) (w : World) (ht : Tab w) (_ : -9223372036854775808 ≤ n ∧ n ≤ 9223372036854775807) :
    Calls Tryd.prog 6 #[.int .i64 n] w fun e w' => e = .returned (.bool true) ∧ Below w.heap.size w w' := by
  by_cases h : -70368744177664 ≤ n ∧ n < 70368744177664
  · exact next_in n w ht h.1 h.2
  · exact next_out n w ht (by omega)
end Go.Proofs.YtgndhhoajacfbaaDoor

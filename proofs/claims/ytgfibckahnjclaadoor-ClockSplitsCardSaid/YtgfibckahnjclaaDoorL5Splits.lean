/- ClockSplits' walk. -/
import Derived.Test.YtgfibckahnjclaaDoorL5Sure
import Derived.Test.YtgfibckahnjclaaDoorL5Num
namespace Go.Proofs.YtgfibckahnjclaaDoor
open Go.RowKit

theorem split_both (t o : Int) : ∃ d s k : Int,
    (∀ W, Calls Tryd.prog 9 #[.int .i64 t, .int .i64 o] W fun e w' => e = .returned (.tuple #[mo d s, errE k]) ∧ Below W.heap.size W w') ∧
    (∀ W, Calls Tryd.prog 10 #[.int .i64 t, .int .i64 o] W fun e w' => e = .returned (.tuple #[.int .i64 d, .int .i64 s, .int .i64 k]) ∧ W = w') := by
  by_cases h : (t < 0 ∨ 4611686018427387904 < t) ∨ (o < -50400 ∨ 50400 < o)
  · refine ⟨0, 0, 1, fun W => ?_, fun W => refSplit_no t o W h⟩
    rw [errE_one]
    exact split_no t o W h
  · refine ⟨(t + o) / 86400, (t + o) % 86400, 0, fun W => ?_, fun W => refSplit_ok t o _ _ W (by omega) (by omega) (by omega) (by omega) rfl rfl⟩
    rw [errE_zero]
    exact split_ok t o _ _ W (by omega) (by omega) (by omega) (by omega) rfl rfl
theorem join_both (d s o : Int) : ∃ t k : Int,
    (∀ W, Tab W → Calls Tryd.prog 11 #[mo d s, .int .i64 o] W fun e w' => e = .returned (.tuple #[.int .i64 t, errE k]) ∧ Below W.heap.size W w') ∧
    (∀ W, Calls Tryd.prog 12 #[.int .i64 d, .int .i64 s, .int .i64 o] W fun e w' => e = .returned (.tuple #[.int .i64 t, .int .i64 k]) ∧ W = w') := by
  by_cases hm : MayJoin d s o
  · by_cases hr : 0 ≤ d * 86400 + s - o ∧ d * 86400 + s - o ≤ 4611686018427387904
    · refine ⟨d * 86400 + s - o, 0, fun W hT => ?_, fun W => ?_⟩
      · rw [errE_zero]
        exact (join_yes d s o _ W hm rfl hT).mono fun e w' h => ⟨h.1 hr, h.2.2⟩
      · exact (refJoin_yes d s o _ W hm rfl).mono fun e w' h => ⟨h.1 hr, h.2.2⟩
    · have hr' : d * 86400 + s - o < 0 ∨ 4611686018427387904 < d * 86400 + s - o := by omega
      refine ⟨0, 5, fun W hT => ?_, fun W => ?_⟩
      · rw [errE_five]
        exact (join_yes d s o _ W hm rfl hT).mono fun e w' h => ⟨h.2.1 hr', h.2.2⟩
      · exact (refJoin_yes d s o _ W hm rfl).mono fun e w' h => ⟨h.2.1 hr', h.2.2⟩
  · refine ⟨0, 1, fun W hT => ?_, fun W => refJoin_no d s o W hm⟩
    rw [errE_one]
    exact join_no d s o W hm hT
set_option maxRecDepth 100000 in
set_option maxHeartbeats 2000000 in
theorem splits_any (t o m0 m1 : Int) (w : World) (ht : Tab w) (hp : Pow w) (he : ErrT w) (_ : -9223372036854775808 ≤ t ∧ t ≤ 9223372036854775807) (_ : -9223372036854775808 ≤ o ∧ o ≤ 9223372036854775807) :
    Calls Tryd.prog 3 #[.int .i64 t, .int .i64 o, .agg #[.int .i64 m0, .int .i64 m1]] w fun e w' => e = .returned (.bool true) ∧ Below w.heap.size w w' := by
  obtain ⟨d, s, k, h1, h2⟩ := split_both t o
  obtain ⟨z, l, h3, h4⟩ := join_both m0 m1 o
  unfold mo at h1 h3
  have H1 := Lib.hid h1
  have H2 := Lib.hid h2
  have H3 := Lib.hid h3
  have H4 := Lib.hid h4
  have HK := Lib.hid (fun W (hW : ErrT W) => num_E k W hW)
  have HL := Lib.hid (fun W (hW : ErrT W) => num_E l W hW)
  obtain ⟨ek, hek⟩ : ∃ ek, errE k = ek := ⟨_, rfl⟩
  obtain ⟨el, hel⟩ : ∃ el, errE l = el := ⟨_, rfl⟩
  rw [hek] at H1 HK
  rw [hel] at H3 HL
  have HT := Lib.hid ht
  have HP := Lib.hid hp
  have HE := Lib.hid he
  have HB0 := Lib.hid ((Below.refl w.heap.size w).alloc (Nat.le_refl _) (.cells #[.int .i64 m0, .int .i64 m1] 22))
  have G0 := Lib.hid (heap_alloc_new w (.cells #[.int .i64 m0, .int .i64 m1] 22))
  clear h1 h2 h3 h4 hek hel ht hp he
  go_enter Tryd.func3, Tryd.ntmps3
  go_wp2_with fail
  refine (H1.out _).mono ?_
  rintro e w1 ⟨rfl, hb1⟩
  have hB1 := HB0.out.trans (hb1.mono (by simp))
  have HB2 := Lib.hid (hB1.alloc hB1.size (.cells #[.int .i64 d, .int .i64 s] 24))
  have g0 := (hb1.block w.heap.size (by simp)).trans G0.out
  have hlt : w.heap.size < w1.heap.size := (Array.getElem?_eq_some_iff.1 g0).1
  obtain ⟨w2, hw2⟩ : ∃ w2, w1.alloc (.cells #[.int .i64 d, .int .i64 s] 24) = w2 := ⟨_, rfl⟩
  rw [hw2] at HB2
  have gm : w2.heap[w1.heap.size]? = some (.cells #[.int .i64 d, .int .i64 s] 24) := by rw [← hw2]; exact heap_alloc_new w1 _
  have ga : w2.heap[w.heap.size]? = some (.cells #[.int .i64 m0, .int .i64 m1] 22) := by rw [← hw2]; exact (Below.heap_alloc w1 _ _ hlt).trans g0
  have HW := Lib.hid hw2
  clear hb1 hB1 hw2 g0 G0 HB0
  go_wp2_with fail
  rw [HW.out]
  refine (H2.out _).mono ?_
  rintro e w' ⟨rfl, rfl⟩
  have a0 := cell_blk ga 0 (v := .int .i64 m0) rfl
  have a1 := cell_blk ga 1 (v := .int .i64 m1) rfl
  have GA := Lib.hid ga
  have GM := Lib.hid gm
  have hltm : w1.heap.size < w2.heap.size := (Array.getElem?_eq_some_iff.1 gm).1
  have hlta : w.heap.size < w2.heap.size := (Array.getElem?_eq_some_iff.1 ga).1
  clear ga gm hlt
  go_wp2_with fail
  refine (H3.out _ (HT.out.below HB2.out)).mono ?_
  rintro e w3 ⟨rfl, hb3⟩
  have HB3 := Lib.hid (HB2.out.trans (hb3.mono HB2.out.size))
  have ga := (hb3.block _ hlta).trans GA.out
  have gm := (hb3.block _ hltm).trans GM.out
  clear a0 a1
  have a0 := cell_blk ga 0 (v := .int .i64 m0) rfl
  have a1 := cell_blk ga 1 (v := .int .i64 m1) rfl
  have c0 := cell_blk gm 0 (v := .int .i64 d) rfl
  have c1 := cell_blk gm 1 (v := .int .i64 s) rfl
  clear hb3 ga gm
  go_wp2_with fail
  refine (H4.out _).mono ?_
  rintro e w' ⟨rfl, rfl⟩
  go_wp2_with fail
  refine (HK.out _ (HE.out.below HB3.out)).mono ?_
  rintro e w4 ⟨rfl, hb4⟩
  have HB4 := Lib.hid (HB3.out.trans (hb4.mono HB3.out.size))
  clear hb4 a0 a1 c0 c1
  go_wp2_with fail
  refine (HL.out _ (HE.out.below HB4.out)).mono ?_
  rintro e w5 ⟨rfl, hb5⟩
  have HB5 := Lib.hid (HB4.out.trans (hb5.mono HB4.out.size))
  clear hb5
  go_wp2_with fail
  refine (sure_any _ (HT.out.below HB5.out) (HP.out.below HB5.out)).mono ?_
  rintro e w6 ⟨rfl, hb6⟩
  have HB6 := Lib.hid (HB5.out.trans (hb6.mono HB5.out.size))
  clear hb6
  go_wp2_with fail
  go_ret
  exact ⟨rfl, HB6.out⟩
end Go.Proofs.YtgfibckahnjclaaDoor

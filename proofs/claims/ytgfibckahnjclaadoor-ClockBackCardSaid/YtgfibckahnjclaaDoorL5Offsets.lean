/- ClockOffsets' walk. -/
import Derived.Test.YtgfibckahnjclaaDoorL5Sure
namespace Go.Proofs.YtgfibckahnjclaaDoor
open Go.RowKit

theorem u64_nn (k : Int) : 0 ≤ IntKind.u64.wrap k := by
  unfold IntKind.wrap
  simp [IntKind.signed, IntKind.bits]
  omega
theorem tmod61 (t : Int) : 0 ≤ (IntKind.u64.wrap t).tmod 2305843009213693952 ∧ (IntKind.u64.wrap t).tmod 2305843009213693952 < 2305843009213693952 := by
  have := u64_nn t
  rw [Int.tmod_eq_emod_of_nonneg this]
  omega
set_option maxRecDepth 100000 in
theorem offsets_any (t o : Int) (w : World) (ht : Tab w) (hp : Pow w) (_ : -9223372036854775808 ≤ t ∧ t ≤ 9223372036854775807) (_ : -9223372036854775808 ≤ o ∧ o ≤ 9223372036854775807) :
    Calls Tryd.prog 8 #[.int .i64 t, .int .i64 o] w fun e w' => e = .returned (.bool true) ∧ Below w.heap.size w w' := by
  have h1 := tmod61 t
  have h2 : -50401 < o.tmod 50401 ∧ o.tmod 50401 < 50401 := ⟨Int.lt_tmod_of_pos o (by omega), Int.tmod_lt_of_pos o (by omega)⟩
  obtain ⟨a, ha⟩ : ∃ a, (IntKind.u64.wrap t).tmod 2305843009213693952 = a := ⟨_, rfl⟩
  obtain ⟨x, hx⟩ : ∃ x, o.tmod 50401 = x := ⟨_, rfl⟩
  rw [ha] at h1
  rw [hx] at h2
  obtain ⟨a1, a2⟩ := h1
  obtain ⟨x1, x2⟩ := h2
  obtain ⟨d, hd⟩ : ∃ d, (a + x) / 86400 = d := ⟨_, rfl⟩
  obtain ⟨s, hs⟩ : ∃ s, (a + x) % 86400 = s := ⟨_, rfl⟩
  have H1 := Lib.hid (fun W => split_ok a x d s W a1 (by omega) (by omega) (by omega) hd hs)
  unfold mo at H1
  have HT := Lib.hid ht
  have HP := Lib.hid hp
  have s1 : 0 ≤ s := by omega
  have s2 : s < 86400 := by omega
  have d1 : -1 ≤ d := by omega
  have d2 : d ≤ 30000000000000 := by omega
  have HE := Lib.hid (show d * 86400 + s = a + x by omega)
  have HD := Lib.hid (And.intro hd hs)
  clear ht hp hd hs
  rcases Int.lt_or_le (a + x) 0 with hc | hc
  · go_enter Tryd.func8, Tryd.ntmps8
    go_wp2_with fail
    refine (H1.out _).mono ?_
    rintro e w1 ⟨rfl, hb1⟩
    have HB1 := Lib.hid (hb1.alloc hb1.size (.cells #[.int .i64 d, .int .i64 s] 24))
    clear hb1
    have heq : (d * 86400 + s == a + x) = true := by rw [HE.out]; exact beq_self_eq_true _
    go_wp2_with fail
    refine (sure_any _ (HT.out.below HB1.out) (HP.out.below HB1.out)).mono ?_
    rintro e w2 ⟨rfl, hb2⟩
    have HB2 := Lib.hid (HB1.out.trans (hb2.mono HB1.out.size))
    clear hb2
    go_wp2_with fail
    go_ret
    exact ⟨rfl, HB2.out⟩
  · have H2 := Lib.hid (fun W => split_ok (a + x) 0 d s W hc (by omega) (by omega) (by omega) (by rw [Int.add_zero]; exact HD.out.1) (by rw [Int.add_zero]; exact HD.out.2))
    unfold mo at H2
    go_enter Tryd.func8, Tryd.ntmps8
    go_wp2_with fail
    refine (H1.out _).mono ?_
    rintro e w1 ⟨rfl, hb1⟩
    have HB1 := Lib.hid (hb1.alloc hb1.size (.cells #[.int .i64 d, .int .i64 s] 24))
    have G1 := Lib.hid (heap_alloc_new w1 (.cells #[.int .i64 d, .int .i64 s] 24))
    clear hb1
    go_wp2_with fail
    refine (H2.out _).mono ?_
    rintro e w2 ⟨rfl, hb2⟩
    have HB2 := Lib.hid (HB1.out.trans (hb2.mono HB1.out.size))
    have g1 := (hb2.block w1.heap.size (by simp)).trans G1.out
    have hs1 : w1.heap.size < w2.heap.size := (Array.getElem?_eq_some_iff.1 g1).1
    have HB3 := Lib.hid (HB2.out.alloc HB2.out.size (.cells #[.int .i64 d, .int .i64 s] 24))
    have g2 := heap_alloc_new w2 (.cells #[.int .i64 d, .int .i64 s] 24)
    have c0 := cell_blk g1 0 (v := .int .i64 d) rfl
    have c1 := cell_blk g1 1 (v := .int .i64 s) rfl
    have heq : (d * 86400 + s == a + x) = true := by rw [HE.out]; exact beq_self_eq_true _
    clear hb2 HB2 g1 g2
    go_wp2_with fail
    refine (sure_any _ (HT.out.below HB3.out) (HP.out.below HB3.out)).mono ?_
    rintro e w3 ⟨rfl, hb4⟩
    have HB4 := Lib.hid (HB3.out.trans (hb4.mono HB3.out.size))
    clear hb4
    go_wp2_with fail
    go_ret
    exact ⟨rfl, HB4.out⟩
end Go.Proofs.YtgfibckahnjclaaDoor

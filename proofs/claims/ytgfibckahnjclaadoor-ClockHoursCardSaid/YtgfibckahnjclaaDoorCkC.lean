/- Contracts: clock's isDay, Join; the document's Join. -/
import Derived.Test.YtgfibckahnjclaaDoorCkB
namespace Go.Proofs.YtgfibckahnjclaaDoor
open Go.RowKit

set_option maxRecDepth 100000 in
theorem isDay_yes (n : Int) (w : World) (h1 : -70368744177664 ≤ n) (h2 : n ≤ 70368744177664) (ht : Tab w) :
    Calls Tryd.prog 25 #[.int .i64 n] w fun e w' => e = .returned (.bool true) ∧ Below w.heap.size w w' := by
  obtain ⟨y, m, d, hi, hn⟩ := date_ex n
  have HO := Lib.hid (ofOk_any y m d n w hi hn h1 h2 ht)
  unfold dt at HO
  clear hi hn ht
  go_enter Tryd.func25, Tryd.ntmps25
  go_wp2_with fail
  refine HO.out.mono ?_
  rintro e w1 ⟨rfl, hb⟩
  have HB := Lib.hid hb
  clear hb HO
  go_wp2_with fail
  go_ret
  exact ⟨rfl, HB.out.alloc HB.out.size _⟩
set_option maxRecDepth 100000 in
theorem isDay_no (n : Int) (w : World) (h : n < -70368744177664 ∨ 70368744177664 < n) :
    Calls Tryd.prog 25 #[.int .i64 n] w fun e w' => e = .returned (.bool false) ∧ Below w.heap.size w w' := by
  have HO := Lib.hid (ofNo_any n w h)
  unfold dt errNo at HO
  clear h
  go_enter Tryd.func25, Tryd.ntmps25
  go_wp2_with fail
  refine HO.out.mono ?_
  rintro e w1 ⟨rfl, hb⟩
  have HB := Lib.hid hb
  clear hb HO
  go_wp2_with fail
  go_ret
  exact ⟨rfl, HB.out.alloc HB.out.size _⟩

theorem cell_blk' {w : World} {g : Nat} {cs : Array Value} {t : TypeId} {fr : Nat × Nat} (h : w.heap[g]? = some (.cells cs t fr)) (k : Nat) {v : Value} (hv : cs[k]? = some v) : w.cell? ⟨g, k, none⟩ = some v := by
  simp [World.cell?, h, hv]
/-- A moment with an offset, and its time. -/
structure MayJoin (d s o : Int) : Prop where
  s0 : 0 ≤ s
  s1 : s < 86400
  d0 : -70368744177664 ≤ d
  d1 : d ≤ 70368744177664
  o0 : -50400 ≤ o
  o1 : o ≤ 50400
set_option maxRecDepth 100000 in
theorem join_yes (d s o t : Int) (w : World) (hm : MayJoin d s o) (ht : d * 86400 + s - o = t) (htab : Tab w) :
    Calls Tryd.prog 11 #[mo d s, .int .i64 o] w fun e w' => (0 ≤ t ∧ t ≤ 4611686018427387904 → e = .returned (.tuple #[.int .i64 t, .nilIface])) ∧ (t < 0 ∨ 4611686018427387904 < t → e = .returned (.tuple #[.int .i64 0, errK 5])) ∧ Below w.heap.size w w' := by
  obtain ⟨s0, s1, d0, d1, o0, o1⟩ := hm
  have HT := Lib.hid ht
  have hB0 := (Below.refl w.heap.size w).alloc (Nat.le_refl _) (.cells #[.int .i64 d, .int .i64 s] 24)
  have HD := Lib.hid (isDay_yes d (w.alloc (.cells #[.int .i64 d, .int .i64 s] 24)) d0 d1 (htab.below hB0))
  have G0 := Lib.hid (heap_alloc_new w (.cells #[.int .i64 d, .int .i64 s] 24))
  have HB0 := Lib.hid hB0
  clear ht htab hB0
  unfold mo errK
  go_enter Tryd.func11, Tryd.ntmps11
  go_wp2_with fail
  refine HD.out.mono ?_
  rintro e w1 ⟨rfl, hb⟩
  have HB := Lib.hid (HB0.out.trans (hb.mono (by simp)))
  have hg := (hb.block w.heap.size (by simp)).trans G0.out
  have c0 := cell_blk' hg 0 (v := .int .i64 d) rfl
  have c1 := cell_blk' hg 1 (v := .int .i64 s) rfl
  clear hb hg G0 HD HB0
  go_wp2_with fail
  refine (isOffset_yes o _ o0 o1).mono ?_
  rintro e w' ⟨rfl, rfl⟩
  go_wp2_with fail
  have hcase : (0 ≤ d * 86400 + s - o ∧ d * 86400 + s - o ≤ 4611686018427387904) ∨ (d * 86400 + s - o < 0 ∨ 4611686018427387904 < d * 86400 + s - o) := by omega
  rcases hcase with ⟨ha, hb⟩ | ha
  · refine (isTime_yes _ _ ha hb).mono ?_
    rintro e w' ⟨rfl, rfl⟩
    go_wp2_with fail
    go_ret2
    exact ⟨fun _ => ret_one HT.out, fun h => by have := HT.out; omega, HB.out⟩
  · refine (isTime_no _ _ ha).mono ?_
    rintro e w' ⟨rfl, rfl⟩
    go_wp2_with fail
    go_ret2
    exact ⟨fun h => by have := HT.out; omega, fun _ => rfl, HB.out⟩
set_option maxRecDepth 100000 in
theorem join_no (d s o : Int) (w : World) (hm : ¬ MayJoin d s o) (htab : Tab w) :
    Calls Tryd.prog 11 #[mo d s, .int .i64 o] w fun e w' => e = .returned (.tuple #[.int .i64 0, errK 1]) ∧ Below w.heap.size w w' := by
  have key : s < 0 ∨ (0 ≤ s ∧ 86400 ≤ s) ∨ (0 ≤ s ∧ s < 86400 ∧ Hid (d < -70368744177664 ∨ 70368744177664 < d)) ∨ (0 ≤ s ∧ s < 86400 ∧ -70368744177664 ≤ d ∧ d ≤ 70368744177664 ∧ Hid (o < -50400 ∨ 50400 < o)) := by
    by_cases h0 : s < 0
    · exact .inl h0
    · by_cases h1 : 86400 ≤ s
      · exact .inr (.inl ⟨by omega, h1⟩)
      · by_cases h2 : d < -70368744177664 ∨ 70368744177664 < d
        · exact .inr (.inr (.inl ⟨by omega, by omega, h2⟩))
        · refine .inr (.inr (.inr ⟨by omega, by omega, by omega, by omega, ?_⟩))
          show o < -50400 ∨ 50400 < o
          by_cases h3 : o < -50400 ∨ 50400 < o
          · exact h3
          · exact absurd ⟨by omega, by omega, by omega, by omega, by omega, by omega⟩ hm
  clear hm
  have hB0 := (Below.refl w.heap.size w).alloc (Nat.le_refl _) (.cells #[.int .i64 d, .int .i64 s] 24)
  have HTab := Lib.hid (htab.below hB0)
  have HB0 := Lib.hid hB0
  clear htab hB0
  unfold mo errK
  rcases key with h | ⟨h, h'⟩ | ⟨h, h', hd⟩ | ⟨h, h', d0, d1, ho⟩
  · go_enter Tryd.func11, Tryd.ntmps11
    go_wp2_with fail
    go_ret2
    exact ⟨rfl, HB0.out⟩
  · go_enter Tryd.func11, Tryd.ntmps11
    go_wp2_with fail
    go_ret2
    exact ⟨rfl, HB0.out⟩
  · have HD := Lib.hid (isDay_no d (w.alloc (.cells #[.int .i64 d, .int .i64 s] 24)) hd.out)
    go_enter Tryd.func11, Tryd.ntmps11
    go_wp2_with fail
    refine HD.out.mono ?_
    rintro e w1 ⟨rfl, hb⟩
    have HB := Lib.hid (HB0.out.trans (hb.mono (by simp)))
    clear hb HD HB0
    go_wp2_with fail
    go_ret2
    exact ⟨rfl, HB.out⟩
  · have HD := Lib.hid (isDay_yes d (w.alloc (.cells #[.int .i64 d, .int .i64 s] 24)) d0 d1 HTab.out)
    go_enter Tryd.func11, Tryd.ntmps11
    go_wp2_with fail
    refine HD.out.mono ?_
    rintro e w1 ⟨rfl, hb⟩
    have HB := Lib.hid (HB0.out.trans (hb.mono (by simp)))
    clear hb HD HB0
    go_wp2_with fail
    refine (isOffset_no o _ ho.out).mono ?_
    rintro e w' ⟨rfl, rfl⟩
    go_wp2_with fail
    go_ret2
    exact ⟨rfl, HB.out⟩
theorem refJoin_yes (d s o t : Int) (w : World) (hm : MayJoin d s o) (ht : d * 86400 + s - o = t) :
    Calls Tryd.prog 12 #[.int .i64 d, .int .i64 s, .int .i64 o] w fun e w' => (0 ≤ t ∧ t ≤ 4611686018427387904 → e = .returned (.tuple #[.int .i64 t, .int .i64 0])) ∧ (t < 0 ∨ 4611686018427387904 < t → e = .returned (.tuple #[.int .i64 0, .int .i64 5])) ∧ w = w' := by
  obtain ⟨s0, s1, d0, d1, o0, o1⟩ := hm
  have s1' : s ≤ 86399 := by omega
  obtain ⟨x, hx⟩ : ∃ x, 86400 * d = x := ⟨_, rfl⟩
  have hcase : (0 ≤ 86400 * d + s - o ∧ 86400 * d + s - o ≤ 4611686018427387904) ∨ (86400 * d + s - o < 0 ∨ 0 ≤ 86400 * d + s - o ∧ 4611686018427387904 < 86400 * d + s - o) := by omega
  have HT := Lib.hid ht
  have HX := Lib.hid hx
  clear ht hx
  rcases hcase with ⟨ha, hb⟩ | ha | ⟨ha, hb⟩
  · go_enter Tryd.func12, Tryd.ntmps12
    go_wp2
    go_ret2
    exact ⟨fun _ => ret_pair (by have := HT.out; omega) rfl, fun h => by have := HT.out; omega, rfl⟩
  all_goals
    go_enter Tryd.func12, Tryd.ntmps12
    go_wp2
    go_ret2
    exact ⟨fun h => by have := HT.out; omega, fun _ => rfl, rfl⟩
theorem refJoin_no (d s o : Int) (w : World) (hm : ¬ MayJoin d s o) :
    Calls Tryd.prog 12 #[.int .i64 d, .int .i64 s, .int .i64 o] w fun e w' => e = .returned (.tuple #[.int .i64 0, .int .i64 1]) ∧ w = w' := by
  have key : d < -70368744177664 ∨ (-70368744177664 ≤ d ∧ 70368744177664 < d) ∨ (-70368744177664 ≤ d ∧ d ≤ 70368744177664 ∧ s < 0) ∨ (-70368744177664 ≤ d ∧ d ≤ 70368744177664 ∧ 0 ≤ s ∧ 86399 < s) ∨ (-70368744177664 ≤ d ∧ d ≤ 70368744177664 ∧ 0 ≤ s ∧ s ≤ 86399 ∧ o < -50400) ∨ (-70368744177664 ≤ d ∧ d ≤ 70368744177664 ∧ 0 ≤ s ∧ s ≤ 86399 ∧ -50400 ≤ o ∧ 50400 < o) := by
    by_cases h3 : -70368744177664 ≤ d ∧ d ≤ 70368744177664 ∧ 0 ≤ s ∧ s ≤ 86399 ∧ -50400 ≤ o ∧ o ≤ 50400
    · obtain ⟨a, b, c, d, e, f⟩ := h3
      exact absurd ⟨c, by omega, a, b, e, f⟩ hm
    · omega
  clear hm
  rcases key with h | ⟨h, h'⟩ | ⟨h, h', h2⟩ | ⟨h, h', h2, h3⟩ | ⟨h, h', h2, h3, h4⟩ | ⟨h, h', h2, h3, h4, h5⟩
  all_goals
    go_enter Tryd.func12, Tryd.ntmps12
    go_wp2
    go_ret2
    exact ⟨rfl, rfl⟩
end Go.Proofs.YtgfibckahnjclaaDoor

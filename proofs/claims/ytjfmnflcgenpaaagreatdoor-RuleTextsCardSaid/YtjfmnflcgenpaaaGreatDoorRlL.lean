/- Contract: rule's Parse. -/
import Derived.Test.YtjfmnflcgenpaaaGreatDoorRlK
namespace Go.Proofs.YtjfmnflcgenpaaaGreatDoor
open Go.RowKit

/-- What comes of a text. -/
def ansR : Option Rl → Rl × Int
  | none => (Rl.nil, 3)
  | some y => (y, 0)
theorem pr_cases (s : List UInt8) : (mayR (rd s) = false ∧ pr s = none) ∨ (mayR (rd s) = true ∧ tx (rd s) = s ∧ pr s = some (rd s)) ∨ (mayR (rd s) = true ∧ tx (rd s) ≠ s ∧ pr s = none) := by
  cases h : pr s with
  | some y =>
    obtain ⟨h1, h2, h3⟩ := rd_some h
    rw [h1]
    exact .inr (.inl ⟨h2, h3, rfl⟩)
  | none =>
    cases hm : mayR (rd s)
    · exact .inl ⟨rfl, rfl⟩
    · exact .inr (.inr ⟨rfl, rd_none h hm, rfl⟩)
set_option maxRecDepth 100000 in
set_option maxHeartbeats 1000000 in
theorem parse_no (s : List UInt8) (w : World) (hs : s.length ≤ 1000) (hE : En w) (hm : mayR (rd s) = false) :
    Calls Tryz.prog 14 #[.string (str s)] w fun e w' => e = .returned (.tuple #[rv Rl.nil, errK 3]) ∧ Below w.heap.size w w' := by
  have hb0 := (Below.refl w.heap.size w).alloc (Nat.le_refl _) (.cells #[.int .i64 0, .int .i64 0, .int .i64 0, .int .i64 0, .int .i64 0, .int .i64 0, .int .i64 0, .int .i64 0, .int .i64 0, .int .i64 0] 32)
  have G0 := Lib.hid (heap_alloc_new w (.cells #[.int .i64 0, .int .i64 0, .int .i64 0, .int .i64 0, .int .i64 0, .int .i64 0, .int .i64 0, .int .i64 0, .int .i64 0, .int .i64 0] 32))
  have HR := Lib.hid (read_any s _ hs (hE.below hb0))
  have HT := Lib.hid (fun W (hW : En W) => text_no (rd s) W hW.tab hm)
  have HE := Lib.hid (fun W (hW : Below w.heap.size w W) => hE.below hW)
  have HB0 := Lib.hid hb0
  clear hE hb0 hs hm
  generalize str s = S at *
  unfold errK at *
  generalize rd s = R at *
  obtain ⟨k, mo, n, wk, fy, fm, fd, ty, tm, td⟩ := R
  unfold rv Rl.nil at *
  simp only at *
  go_enter Tryz.func14, Tryz.ntmps14
  go_wp2_with fail
  refine HR.out.mono ?_
  rintro e w2 ⟨rfl, hb2⟩
  have hb3 := HB0.out.trans (hb2.mono HB0.out.size)
  have hg2 := (hb2.block w.heap.size (by simp)).trans G0.out
  have hlt2 := (Array.getElem?_eq_some_iff.1 hg2).1
  have hb4 := hb3.alloc hb3.size (.cells #[.int .i64 k, .int .i64 mo, .int .i64 n, .int .i64 wk, .int .i64 fy, .int .i64 fm, .int .i64 fd, .int .i64 ty, .int .i64 tm, .int .i64 td] 32)
  have HB4 := Lib.hid hb4
  have HG4 := Lib.hid (heap_alloc_new w2 (.cells #[.int .i64 k, .int .i64 mo, .int .i64 n, .int .i64 wk, .int .i64 fy, .int .i64 fm, .int .i64 fd, .int .i64 ty, .int .i64 tm, .int .i64 td] 32))
  have HK4 := Lib.hid ((Below.heap_alloc w2 (.cells #[.int .i64 k, .int .i64 mo, .int .i64 n, .int .i64 wk, .int .i64 fy, .int .i64 fm, .int .i64 fd, .int .i64 ty, .int .i64 tm, .int .i64 td] 32) w.heap.size hlt2).trans hg2)
  have HL2 := Lib.hid hlt2
  clear hb2 hb3 hg2 hlt2 hb4 HR HB0 G0
  go_wp2_with fail
  refine (HT.out _ (HE.out _ HB4.out)).mono ?_
  rintro e w4 ⟨rfl, hb5⟩
  have hb6 := HB4.out.trans (hb5.mono HB4.out.size)
  have g04 := (hb5.block w.heap.size (by simp; have := HL2.out; omega)).trans HK4.out
  have hg4 := (hb5.block w2.heap.size (by simp)).trans HG4.out
  have Z0 := cell_blk g04 0 (v := .int .i64 0) rfl
  have F0 := frz_blk g04 0
  have Z1 := cell_blk g04 1 (v := .int .i64 0) rfl
  have F1 := frz_blk g04 1
  have Z2 := cell_blk g04 2 (v := .int .i64 0) rfl
  have F2 := frz_blk g04 2
  have Z3 := cell_blk g04 3 (v := .int .i64 0) rfl
  have F3 := frz_blk g04 3
  have Z4 := cell_blk g04 4 (v := .int .i64 0) rfl
  have F4 := frz_blk g04 4
  have Z5 := cell_blk g04 5 (v := .int .i64 0) rfl
  have F5 := frz_blk g04 5
  have Z6 := cell_blk g04 6 (v := .int .i64 0) rfl
  have F6 := frz_blk g04 6
  have Z7 := cell_blk g04 7 (v := .int .i64 0) rfl
  have F7 := frz_blk g04 7
  have Z8 := cell_blk g04 8 (v := .int .i64 0) rfl
  have F8 := frz_blk g04 8
  have Z9 := cell_blk g04 9 (v := .int .i64 0) rfl
  have F9 := frz_blk g04 9
  clear hg4
  have HB6 := Lib.hid hb6
  have HK6 := Lib.hid g04
  clear hb5 hb6 g04 HT HB4 HG4 HK4
  go_wp2_with fail
  refine bodyPost_ret (results_cell2 rfl _ _ w.heap.size _ _ (0, 0) _ rfl (set10 HK6.out) Tryz.underlying32 rfl (by kernel_rfl)) rfl ?_
  exact ⟨rfl, below_set10 HB6.out (Nat.le_refl _)⟩
set_option maxRecDepth 100000 in
set_option maxHeartbeats 1000000 in
theorem parse_ok (s : List UInt8) (w : World) (hs : s.length ≤ 1000) (hE : En w) (hm : mayR (rd s) = true) (ht : tx (rd s) = s) :
    Calls Tryz.prog 14 #[.string (str s)] w fun e w' => e = .returned (.tuple #[rv (rd s), .nilIface]) ∧ Below w.heap.size w w' := by
  have hb0 := (Below.refl w.heap.size w).alloc (Nat.le_refl _) (.cells #[.int .i64 0, .int .i64 0, .int .i64 0, .int .i64 0, .int .i64 0, .int .i64 0, .int .i64 0, .int .i64 0, .int .i64 0, .int .i64 0] 32)
  have G0 := Lib.hid (heap_alloc_new w (.cells #[.int .i64 0, .int .i64 0, .int .i64 0, .int .i64 0, .int .i64 0, .int .i64 0, .int .i64 0, .int .i64 0, .int .i64 0, .int .i64 0] 32))
  have HR := Lib.hid (read_any s _ hs (hE.below hb0))
  have HT := Lib.hid (fun W (hW : En W) => text_yes (rd s) W hW hm)
  have HE := Lib.hid (fun W (hW : Below w.heap.size w W) => hE.below hW)
  have HB0 := Lib.hid hb0
  have hx : ((str (tx (rd s))).toList == (str s).toList) = true := by
    rw [str_toList, str_toList]
    simp [ht]
  have hx' : ((str (tx (rd s))).toList != (str s).toList) = false := by
    rw [str_toList, str_toList]
    simp [ht]
  generalize str (tx (rd s)) = X at *
  clear hE hb0 hs hm ht
  generalize str s = S at *
  unfold errK at *
  generalize rd s = R at *
  obtain ⟨k, mo, n, wk, fy, fm, fd, ty, tm, td⟩ := R
  unfold rv at *
  simp only at *
  go_enter Tryz.func14, Tryz.ntmps14
  go_wp2_with fail
  refine HR.out.mono ?_
  rintro e w2 ⟨rfl, hb2⟩
  have hb3 := HB0.out.trans (hb2.mono HB0.out.size)
  have hg2 := (hb2.block w.heap.size (by simp)).trans G0.out
  have hlt2 := (Array.getElem?_eq_some_iff.1 hg2).1
  have hb4 := hb3.alloc hb3.size (.cells #[.int .i64 k, .int .i64 mo, .int .i64 n, .int .i64 wk, .int .i64 fy, .int .i64 fm, .int .i64 fd, .int .i64 ty, .int .i64 tm, .int .i64 td] 32)
  have HB4 := Lib.hid hb4
  have HG4 := Lib.hid (heap_alloc_new w2 (.cells #[.int .i64 k, .int .i64 mo, .int .i64 n, .int .i64 wk, .int .i64 fy, .int .i64 fm, .int .i64 fd, .int .i64 ty, .int .i64 tm, .int .i64 td] 32))
  have HK4 := Lib.hid ((Below.heap_alloc w2 (.cells #[.int .i64 k, .int .i64 mo, .int .i64 n, .int .i64 wk, .int .i64 fy, .int .i64 fm, .int .i64 fd, .int .i64 ty, .int .i64 tm, .int .i64 td] 32) w.heap.size hlt2).trans hg2)
  have HL2 := Lib.hid hlt2
  clear hb2 hb3 hg2 hlt2 hb4 HR HB0 G0
  go_wp2_with fail
  refine (HT.out _ (HE.out _ HB4.out)).mono ?_
  rintro e w4 ⟨rfl, hb5⟩
  have hb6 := HB4.out.trans (hb5.mono HB4.out.size)
  have g04 := (hb5.block w.heap.size (by simp; have := HL2.out; omega)).trans HK4.out
  have hg4 := (hb5.block w2.heap.size (by simp)).trans HG4.out
  have Z0 := cell_blk g04 0 (v := .int .i64 0) rfl
  have F0 := frz_blk g04 0
  have Z1 := cell_blk g04 1 (v := .int .i64 0) rfl
  have F1 := frz_blk g04 1
  have Z2 := cell_blk g04 2 (v := .int .i64 0) rfl
  have F2 := frz_blk g04 2
  have Z3 := cell_blk g04 3 (v := .int .i64 0) rfl
  have F3 := frz_blk g04 3
  have Z4 := cell_blk g04 4 (v := .int .i64 0) rfl
  have F4 := frz_blk g04 4
  have Z5 := cell_blk g04 5 (v := .int .i64 0) rfl
  have F5 := frz_blk g04 5
  have Z6 := cell_blk g04 6 (v := .int .i64 0) rfl
  have F6 := frz_blk g04 6
  have Z7 := cell_blk g04 7 (v := .int .i64 0) rfl
  have F7 := frz_blk g04 7
  have Z8 := cell_blk g04 8 (v := .int .i64 0) rfl
  have F8 := frz_blk g04 8
  have Z9 := cell_blk g04 9 (v := .int .i64 0) rfl
  have F9 := frz_blk g04 9
  have K0 := cell_blk hg4 0 (v := .int .i64 k) rfl
  have K1 := cell_blk hg4 1 (v := .int .i64 mo) rfl
  have K2 := cell_blk hg4 2 (v := .int .i64 n) rfl
  have K3 := cell_blk hg4 3 (v := .int .i64 wk) rfl
  have K4 := cell_blk hg4 4 (v := .int .i64 fy) rfl
  have K5 := cell_blk hg4 5 (v := .int .i64 fm) rfl
  have K6 := cell_blk hg4 6 (v := .int .i64 fd) rfl
  have K7 := cell_blk hg4 7 (v := .int .i64 ty) rfl
  have K8 := cell_blk hg4 8 (v := .int .i64 tm) rfl
  have K9 := cell_blk hg4 9 (v := .int .i64 td) rfl
  have HB6 := Lib.hid hb6
  have HK6 := Lib.hid g04
  clear hb5 hb6 g04 HT HB4 HG4 HK4 hg4
  go_wp2_with fail
  refine bodyPost_ret (results_cell2 rfl _ _ w.heap.size _ _ (0, 0) _ rfl (set10 HK6.out) Tryz.underlying32 rfl (by kernel_rfl)) rfl ?_
  exact ⟨rfl, below_set10 HB6.out (Nat.le_refl _)⟩
set_option maxRecDepth 100000 in
set_option maxHeartbeats 1000000 in
theorem parse_ne (s : List UInt8) (w : World) (hs : s.length ≤ 1000) (hE : En w) (hm : mayR (rd s) = true) (ht : tx (rd s) ≠ s) :
    Calls Tryz.prog 14 #[.string (str s)] w fun e w' => e = .returned (.tuple #[rv Rl.nil, errK 3]) ∧ Below w.heap.size w w' := by
  have hb0 := (Below.refl w.heap.size w).alloc (Nat.le_refl _) (.cells #[.int .i64 0, .int .i64 0, .int .i64 0, .int .i64 0, .int .i64 0, .int .i64 0, .int .i64 0, .int .i64 0, .int .i64 0, .int .i64 0] 32)
  have G0 := Lib.hid (heap_alloc_new w (.cells #[.int .i64 0, .int .i64 0, .int .i64 0, .int .i64 0, .int .i64 0, .int .i64 0, .int .i64 0, .int .i64 0, .int .i64 0, .int .i64 0] 32))
  have HR := Lib.hid (read_any s _ hs (hE.below hb0))
  have HT := Lib.hid (fun W (hW : En W) => text_yes (rd s) W hW hm)
  have HE := Lib.hid (fun W (hW : Below w.heap.size w W) => hE.below hW)
  have HB0 := Lib.hid hb0
  have hx : ((str (tx (rd s))).toList == (str s).toList) = false := by
    rw [str_toList, str_toList]
    simpa using ht
  have hx' : ((str (tx (rd s))).toList != (str s).toList) = true := by
    rw [str_toList, str_toList]
    simpa using ht
  generalize str (tx (rd s)) = X at *
  clear hE hb0 hs hm ht
  generalize str s = S at *
  unfold errK at *
  generalize rd s = R at *
  obtain ⟨k, mo, n, wk, fy, fm, fd, ty, tm, td⟩ := R
  unfold rv Rl.nil at *
  simp only at *
  go_enter Tryz.func14, Tryz.ntmps14
  go_wp2_with fail
  refine HR.out.mono ?_
  rintro e w2 ⟨rfl, hb2⟩
  have hb3 := HB0.out.trans (hb2.mono HB0.out.size)
  have hg2 := (hb2.block w.heap.size (by simp)).trans G0.out
  have hlt2 := (Array.getElem?_eq_some_iff.1 hg2).1
  have hb4 := hb3.alloc hb3.size (.cells #[.int .i64 k, .int .i64 mo, .int .i64 n, .int .i64 wk, .int .i64 fy, .int .i64 fm, .int .i64 fd, .int .i64 ty, .int .i64 tm, .int .i64 td] 32)
  have HB4 := Lib.hid hb4
  have HG4 := Lib.hid (heap_alloc_new w2 (.cells #[.int .i64 k, .int .i64 mo, .int .i64 n, .int .i64 wk, .int .i64 fy, .int .i64 fm, .int .i64 fd, .int .i64 ty, .int .i64 tm, .int .i64 td] 32))
  have HK4 := Lib.hid ((Below.heap_alloc w2 (.cells #[.int .i64 k, .int .i64 mo, .int .i64 n, .int .i64 wk, .int .i64 fy, .int .i64 fm, .int .i64 fd, .int .i64 ty, .int .i64 tm, .int .i64 td] 32) w.heap.size hlt2).trans hg2)
  have HL2 := Lib.hid hlt2
  clear hb2 hb3 hg2 hlt2 hb4 HR HB0 G0
  go_wp2_with fail
  refine (HT.out _ (HE.out _ HB4.out)).mono ?_
  rintro e w4 ⟨rfl, hb5⟩
  have hb6 := HB4.out.trans (hb5.mono HB4.out.size)
  have g04 := (hb5.block w.heap.size (by simp; have := HL2.out; omega)).trans HK4.out
  have hg4 := (hb5.block w2.heap.size (by simp)).trans HG4.out
  have Z0 := cell_blk g04 0 (v := .int .i64 0) rfl
  have F0 := frz_blk g04 0
  have Z1 := cell_blk g04 1 (v := .int .i64 0) rfl
  have F1 := frz_blk g04 1
  have Z2 := cell_blk g04 2 (v := .int .i64 0) rfl
  have F2 := frz_blk g04 2
  have Z3 := cell_blk g04 3 (v := .int .i64 0) rfl
  have F3 := frz_blk g04 3
  have Z4 := cell_blk g04 4 (v := .int .i64 0) rfl
  have F4 := frz_blk g04 4
  have Z5 := cell_blk g04 5 (v := .int .i64 0) rfl
  have F5 := frz_blk g04 5
  have Z6 := cell_blk g04 6 (v := .int .i64 0) rfl
  have F6 := frz_blk g04 6
  have Z7 := cell_blk g04 7 (v := .int .i64 0) rfl
  have F7 := frz_blk g04 7
  have Z8 := cell_blk g04 8 (v := .int .i64 0) rfl
  have F8 := frz_blk g04 8
  have Z9 := cell_blk g04 9 (v := .int .i64 0) rfl
  have F9 := frz_blk g04 9
  clear hg4
  have HB6 := Lib.hid hb6
  have HK6 := Lib.hid g04
  clear hb5 hb6 g04 HT HB4 HG4 HK4
  go_wp2_with fail
  refine bodyPost_ret (results_cell2 rfl _ _ w.heap.size _ _ (0, 0) _ rfl (set10 HK6.out) Tryz.underlying32 rfl (by kernel_rfl)) rfl ?_
  exact ⟨rfl, below_set10 HB6.out (Nat.le_refl _)⟩
theorem parse_any (s : List UInt8) (w : World) (hs : s.length ≤ 1000) (hE : En w) :
    Calls Tryz.prog 14 #[.string (str s)] w fun e w' => e = .returned (.tuple #[rv (ansR (pr s)).1, errE (ansR (pr s)).2]) ∧ Below w.heap.size w w' := by
  rcases pr_cases s with ⟨h1, h2⟩ | ⟨h1, h2, h3⟩ | ⟨h1, h2, h3⟩
  · rw [h2]
    have := parse_no s w hs hE h1
    rwa [← errE_three] at this
  · rw [h3]
    have := parse_ok s w hs hE h1 h2
    rwa [← errE_zero] at this
  · rw [h3]
    have := parse_ne s w hs hE h1 h2
    rwa [← errE_three] at this
end Go.Proofs.YtjfmnflcgenpaaaGreatDoor

/- Contract: the document's Match. -/
import Derived.Test.YtjfmnflcgenpaaaGreatDoorRlO
import Derived.Test.YtjfmnflcgenpaaaGreatDoorRlG
import Derived.Test.YtjfmnflcgenpaaaGreatDoorRlN
import Derived.IntWalk
namespace Go.Proofs.YtjfmnflcgenpaaaGreatDoor
open Go.RowKit

theorem elInt : Elem Tryz.prog 62 3 (.int .i64 0) 8 := ⟨Tryz.underlying62, by kernel_rfl, rfl⟩
theorem owns_below {w w' : World} {base s : Nat} {e : TypeId} {v : Value} {n : Nat} {xs : List Value} (h : w.ownsRow base e s v n xs) (hb : Below w.heap.size w w') : w'.ownsRow base e s v n xs := by
  rcases h with ⟨h1, h2 | ⟨g, cap, cur, rfl, h3, hh, r⟩⟩
  · exact ⟨h1, .inl h2⟩
  · exact ⟨h1, .inr ⟨g, cap, cur, rfl, h3, (hb.block g (Array.getElem?_eq_some_iff.1 hh).1).trans hh, r⟩⟩
theorem intL_append (a b : List Int) : intL (a ++ b) = intL a ++ intL b := by simp [intL]
theorem intL_one (l : List Int) : ∀ u ∈ intL l, u.oneCell' = true := by
  intro u hu
  obtain ⟨n, _, rfl⟩ := List.mem_map.1 hu
  rfl

set_option maxRecDepth 100000 in
set_option maxHeartbeats 1000000 in
theorem refMatch0 (wk : Int) (y : Int) (m : Nat) (d a : Int) (w : World) (hi : Is y m d) (hn : nr y m d = a) (ha1 : -70368744177664 ≤ a) (ha2 : a ≤ 70368744177664) :
    Calls Tryz.prog 12 #[rv ⟨0, 0, 0, wk, 0, 0, 0, 0, 0, 0⟩, .int .i64 a] w fun e w' => e = .returned (.bool (decide (wd a = wk))) ∧ Below w.heap.size w w' := by
  have hb0 := (Below.refl w.heap.size w).alloc (Nat.le_refl _) (.cells #[.int .i64 0, .int .i64 0, .int .i64 0, .int .i64 wk, .int .i64 0, .int .i64 0, .int .i64 0, .int .i64 0, .int .i64 0, .int .i64 0] 25)
  have G0 := Lib.hid (heap_alloc_new w (.cells #[.int .i64 0, .int .i64 0, .int .i64 0, .int .i64 wk, .int .i64 0, .int .i64 0, .int .i64 0, .int .i64 0, .int .i64 0, .int .i64 0] 25))
  have HB0 := Lib.hid hb0
  have HO := Lib.hid (fun W => refOf_any y m d a W hi hn ha1 ha2)
  have HWd := Lib.hid (fun W => refWeekday_any a W (by omega) (by omega))
  have HR : Hid ((wd a == wk) = decide (wd a = wk)) := rfl
  generalize decide (wd a = wk) = res at *
  generalize wd a = q at *
  unfold dt at HO
  unfold rv
  simp only
  clear hb0 hi hn
  go_enter Tryz.func12, Tryz.ntmps12
  go_wp2_with fail
  refine (HO.out _).mono ?_
  rintro e w1 ⟨rfl, hb1⟩
  have hb2 := HB0.out.trans (hb1.mono HB0.out.size)
  have hg1 := (hb1.block w.heap.size (by simp)).trans G0.out
  have hlt1 := (Array.getElem?_eq_some_iff.1 hg1).1
  have hb3 := hb2.alloc hb2.size (.cells #[.int .i64 y, .int .i64 m, .int .i64 d] 23)
  have hgr := (Below.heap_alloc w1 (.cells #[.int .i64 y, .int .i64 m, .int .i64 d] 23) w.heap.size hlt1).trans hg1
  have hgd := heap_alloc_new w1 (.cells #[.int .i64 y, .int .i64 m, .int .i64 d] 23)
  obtain ⟨w2, hw2⟩ : ∃ w2, w1.alloc (.cells #[.int .i64 y, .int .i64 m, .int .i64 d] 23) = w2 := ⟨_, rfl⟩
  have HBE := Lib.hid hb3
  have hgr2 := hgr
  have hgd2 := hgd
  rw [hw2] at hb3 hgr2 hgd2
  have HB2 := Lib.hid hb3
  have HW2 := Lib.hid hw2
  have GR := Lib.hid hgr2
  have GD := Lib.hid hgd2
  have K0 := cell_blk hgr 0 (v := .int .i64 0) rfl
  have K3 := cell_blk hgr 3 (v := .int .i64 wk) rfl
  have hlt2 := (Array.getElem?_eq_some_iff.1 hgr2).1
  have HSS := Lib.hid (show ∀ W, Below w2.heap.size w2 W → W.cell? ⟨w.heap.size, 3, none⟩ = some (.int .i64 wk) from fun W hb => cell_blk ((hb.block _ hlt2).trans GR.out) 3 rfl)
  have hbd := below_dr w2
  clear hb1 hb2 hg1 hlt1 hb3 hgr hgd hgr2 hgd2 hw2 hlt2
  go_wp2_with fail
  rw [HW2.out]
  go_region_held3 (fun W => W.cell? ⟨w.heap.size, 3, none⟩ = some (.int .i64 wk)) (exact HSS.out _ (by assumption))
    (first
      | (go_at_call 28
         refine (HWd.out _).mono ?_
         rintro e w3 ⟨rfl, hb3⟩
         have hb3' : Below w2.heap.size w2 w3 := hbd.trans (hb3.mono hbd.size)
         clear hb3))
  all_goals
    go_wp2_with fail
    go_ret
    exact ⟨ret_bool HR.out, HB2.out.trans (hb3'.mono HB2.out.size)⟩

set_option maxRecDepth 100000 in
set_option maxHeartbeats 1000000 in
theorem refMatch3 (fy fm fd ty tm td : Int) (y : Int) (m : Nat) (d a : Int) (w : World) (hi : Is y m d) (hn : nr y m d = a) (ha1 : -70368744177664 ≤ a) (ha2 : a ≤ 70368744177664) (h1 : okD fy fm fd = true) (h2 : okD ty tm td = true) :
    Calls Tryz.prog 12 #[rv ⟨3, 0, 0, 0, fy, fm, fd, ty, tm, td⟩, .int .i64 a] w fun e w' => e = .returned (.bool (decide (dnr fy fm fd ≤ a ∧ a ≤ dnr ty tm td))) ∧ Below w.heap.size w w' := by
  have hb0 := (Below.refl w.heap.size w).alloc (Nat.le_refl _) (.cells #[.int .i64 3, .int .i64 0, .int .i64 0, .int .i64 0, .int .i64 fy, .int .i64 fm, .int .i64 fd, .int .i64 ty, .int .i64 tm, .int .i64 td] 25)
  have G0 := Lib.hid (heap_alloc_new w (.cells #[.int .i64 3, .int .i64 0, .int .i64 0, .int .i64 0, .int .i64 fy, .int .i64 fm, .int .i64 fd, .int .i64 ty, .int .i64 tm, .int .i64 td] 25))
  have HB0 := Lib.hid hb0
  have HO := Lib.hid (fun W => refOf_any y m d a W hi hn ha1 ha2)
  have HF := Lib.hid (fun W => refDnr_any fy fm fd W h1)
  have HT := Lib.hid (fun W => refDnr_any ty tm td W h2)
  unfold dt at HF HT
  clear h1 h2
  generalize dnr fy fm fd = p at *
  generalize dnr ty tm td = q at *
  have hq : (¬ p ≤ a) ∨ (p ≤ a ∧ ¬ a ≤ q) ∨ (p ≤ a ∧ a ≤ q) := by omega
  obtain ⟨res, hres⟩ : ∃ r, decide (p ≤ a ∧ a ≤ q) = r := ⟨_, rfl⟩
  rw [hres]
  have HR : Hid (res = decide (p ≤ a ∧ a ≤ q)) := hres.symm
  clear hres
  unfold dt at HO
  unfold rv
  simp only
  clear hb0 hi hn
  go_enter Tryz.func12, Tryz.ntmps12
  go_wp2_with fail
  refine (HO.out _).mono ?_
  rintro e w1 ⟨rfl, hb1⟩
  have hb2 := HB0.out.trans (hb1.mono HB0.out.size)
  have hg1 := (hb1.block w.heap.size (by simp)).trans G0.out
  have hlt1 := (Array.getElem?_eq_some_iff.1 hg1).1
  have hb3 := hb2.alloc hb2.size (.cells #[.int .i64 y, .int .i64 m, .int .i64 d] 23)
  have hgr := (Below.heap_alloc w1 (.cells #[.int .i64 y, .int .i64 m, .int .i64 d] 23) w.heap.size hlt1).trans hg1
  have hgd := heap_alloc_new w1 (.cells #[.int .i64 y, .int .i64 m, .int .i64 d] 23)
  obtain ⟨w2, hw2⟩ : ∃ w2, w1.alloc (.cells #[.int .i64 y, .int .i64 m, .int .i64 d] 23) = w2 := ⟨_, rfl⟩
  have HBE := Lib.hid hb3
  have hgr2 := hgr
  have hgd2 := hgd
  rw [hw2] at hb3 hgr2 hgd2
  have HB2 := Lib.hid hb3
  have HW2 := Lib.hid hw2
  have GR := Lib.hid hgr2
  have GD := Lib.hid hgd2
  have K0 := cell_blk hgr 0 (v := .int .i64 3) rfl
  have K4 := cell_blk hgr 4 (v := .int .i64 fy) rfl
  have K5 := cell_blk hgr 5 (v := .int .i64 fm) rfl
  have K6 := cell_blk hgr 6 (v := .int .i64 fd) rfl
  have hlt2 := (Array.getElem?_eq_some_iff.1 hgr2).1
  have HSS := Lib.hid (show ∀ W, Below w2.heap.size w2 W → W.cell? ⟨w.heap.size, 7, none⟩ = some (.int .i64 ty) ∧ W.cell? ⟨w.heap.size, 8, none⟩ = some (.int .i64 tm) ∧ W.cell? ⟨w.heap.size, 9, none⟩ = some (.int .i64 td) from fun W hb => ⟨cell_blk ((hb.block _ hlt2).trans GR.out) 7 rfl, cell_blk ((hb.block _ hlt2).trans GR.out) 8 rfl, cell_blk ((hb.block _ hlt2).trans GR.out) 9 rfl⟩)
  clear hb1 hb2 hg1 hlt1 hb3 hgr hgd hgr2 hgd2 hw2 hlt2
  go_wp2_with fail
  rw [HW2.out]
  refine (HF.out _).mono ?_
  rintro e w3 ⟨rfl, hb3⟩
  have HB3 := Lib.hid hb3
  obtain ⟨K7, K8, K9⟩ := HSS.out w3 hb3
  clear hb3 K0 K4 K5 K6
  rcases hq with hq | ⟨hq, hq'⟩ | ⟨hq, hq'⟩
  · go_wp2_with fail
    go_ret
    exact ⟨ret_bool (by rw [HR.out]; exact (decide_eq_false (by omega)).symm), HB2.out.trans (HB3.out.mono HB2.out.size)⟩
  all_goals
    go_wp2_with fail
    refine (HT.out _).mono ?_
    rintro e w4 ⟨rfl, hb4⟩
    have HB4 := Lib.hid (HB3.out.trans (hb4.mono HB3.out.size))
    clear hb4
    go_wp2_with fail
    go_ret
    exact ⟨ret_bool (by
      rw [HR.out]
      first
      | exact (decide_eq_true (by omega)).symm
      | exact (decide_eq_false (by omega)).symm
      | (rw [Bool.eq_iff_iff]
         simp only [decide_eq_true_eq]
         omega)), HB2.out.trans (HB4.out.mono HB2.out.size)⟩

set_option maxRecDepth 100000 in
set_option maxHeartbeats 1000000 in
theorem refMatch1n (mo N : Int) (y : Int) (m : Nat) (d a : Int) (w : World) (hi : Is y m d) (hn : nr y m d = a) (ha1 : -70368744177664 ≤ a) (ha2 : a ≤ 70368744177664) (hm : ¬ (mo = 0 ∨ mo = m)) :
    Calls Tryz.prog 12 #[rv ⟨1, mo, N, 0, 0, 0, 0, 0, 0, 0⟩, .int .i64 a] w fun e w' => e = .returned (.bool false) ∧ Below w.heap.size w w' := by
  have hb0 := (Below.refl w.heap.size w).alloc (Nat.le_refl _) (.cells #[.int .i64 1, .int .i64 mo, .int .i64 N, .int .i64 0, .int .i64 0, .int .i64 0, .int .i64 0, .int .i64 0, .int .i64 0, .int .i64 0] 25)
  have G0 := Lib.hid (heap_alloc_new w (.cells #[.int .i64 1, .int .i64 mo, .int .i64 N, .int .i64 0, .int .i64 0, .int .i64 0, .int .i64 0, .int .i64 0, .int .i64 0, .int .i64 0] 25))
  have HB0 := Lib.hid hb0
  have HO := Lib.hid (fun W => refOf_any y m d a W hi hn ha1 ha2)
  have c1 : (mo != 0) = true := by simp; omega
  have c2 : (mo != m) = true := by simp; omega
  clear hm
  unfold dt at HO
  unfold rv
  simp only
  clear hb0 hi hn
  go_enter Tryz.func12, Tryz.ntmps12
  go_wp2_with fail
  refine (HO.out _).mono ?_
  rintro e w1 ⟨rfl, hb1⟩
  have hb2 := HB0.out.trans (hb1.mono HB0.out.size)
  have hg1 := (hb1.block w.heap.size (by simp)).trans G0.out
  have hlt1 := (Array.getElem?_eq_some_iff.1 hg1).1
  have hb3 := hb2.alloc hb2.size (.cells #[.int .i64 y, .int .i64 m, .int .i64 d] 23)
  have hgr := (Below.heap_alloc w1 (.cells #[.int .i64 y, .int .i64 m, .int .i64 d] 23) w.heap.size hlt1).trans hg1
  have hgd := heap_alloc_new w1 (.cells #[.int .i64 y, .int .i64 m, .int .i64 d] 23)
  obtain ⟨w2, hw2⟩ : ∃ w2, w1.alloc (.cells #[.int .i64 y, .int .i64 m, .int .i64 d] 23) = w2 := ⟨_, rfl⟩
  have HBE := Lib.hid hb3
  have hgr2 := hgr
  have hgd2 := hgd
  rw [hw2] at hb3 hgr2 hgd2
  have HB2 := Lib.hid hb3
  have HW2 := Lib.hid hw2
  have GR := Lib.hid hgr2
  have GD := Lib.hid hgd2
  have K0 := cell_blk hgr 0 (v := .int .i64 1) rfl
  have K1 := cell_blk hgr 1 (v := .int .i64 mo) rfl
  have X1 := cell_blk hgd 1 (v := .int .i64 m) rfl
  clear hb1 hb2 hg1 hlt1 hb3 hgr hgd hgr2 hgd2 hw2 HW2 GR GD HB2
  go_wp2_with fail
  go_ret
  exact ⟨rfl, HBE.out⟩

set_option maxRecDepth 100000 in
set_option maxHeartbeats 4000000 in
theorem refMatch1y (mo N : Int) (y : Int) (m : Nat) (d a : Int) (n : Nat) (w : World) (hi : Is y m d) (hn : nr y m d = a) (ha1 : -70368744177664 ≤ a) (ha2 : a ≤ 70368744177664) (hm : mo = 0 ∨ mo = m) (hl : mlen y m = n) (hN1 : -31 ≤ N) (hN2 : N ≤ 31) :
    Calls Tryz.prog 12 #[rv ⟨1, mo, N, 0, 0, 0, 0, 0, 0, 0⟩, .int .i64 a] w fun e w' => e = .returned (.bool (pick (a - d + 1) 1 n N a)) ∧ Below w.heap.size w w' := by
  have hb0 := (Below.refl w.heap.size w).alloc (Nat.le_refl _) (.cells #[.int .i64 1, .int .i64 mo, .int .i64 N, .int .i64 0, .int .i64 0, .int .i64 0, .int .i64 0, .int .i64 0, .int .i64 0, .int .i64 0] 25)
  have G0 := Lib.hid (heap_alloc_new w (.cells #[.int .i64 1, .int .i64 mo, .int .i64 N, .int .i64 0, .int .i64 0, .int .i64 0, .int .i64 0, .int .i64 0, .int .i64 0, .int .i64 0] 25))
  have HB0 := Lib.hid hb0
  have HO := Lib.hid (fun W => refOf_any y m d a W hi hn ha1 ha2)
  have hd1 := hi.d1
  have hd2 := hi.dl
  have hm1 := hi.m1
  have hm2 := hi.m12
  have hml := mlen_le (y := y) hm1 hm2
  have HL := Lib.hid (fun W => refLength_any y m W hm1 hm2)
  rw [hl] at hd2 hml HL
  have hn31 : n ≤ 31 := by omega
  have hd31 : d ≤ 31 := by omega
  obtain ⟨res, hres⟩ : ∃ r, pick (a - d + 1) 1 n N a = r := ⟨_, rfl⟩
  rw [hres]
  have HR : Hid (decide (0 ≤ atR N n ∧ atR N n < (n : Nat) ∧ (a - d + 1) + 1 * atR N n = a) = res) := hres
  have c1 : (mo != 0) = false ∨ ((mo != 0) = true ∧ (mo != m) = false) := by
    rcases hm with h | h
    · left; simp [h]
    · right; simp; omega

  clear hm hl hml hres hm2 hd2
  unfold dt at HO
  unfold rv
  simp only
  clear hb0 hi hn
  go_enter Tryz.func12, Tryz.ntmps12
  go_wp2_with fail
  refine (HO.out _).mono ?_
  rintro e w1 ⟨rfl, hb1⟩
  have hb2 := HB0.out.trans (hb1.mono HB0.out.size)
  have hg1 := (hb1.block w.heap.size (by simp)).trans G0.out
  have hlt1 := (Array.getElem?_eq_some_iff.1 hg1).1
  have hb3 := hb2.alloc hb2.size (.cells #[.int .i64 y, .int .i64 m, .int .i64 d] 23)
  have hgr := (Below.heap_alloc w1 (.cells #[.int .i64 y, .int .i64 m, .int .i64 d] 23) w.heap.size hlt1).trans hg1
  have hgd := heap_alloc_new w1 (.cells #[.int .i64 y, .int .i64 m, .int .i64 d] 23)
  obtain ⟨w2, hw2⟩ : ∃ w2, w1.alloc (.cells #[.int .i64 y, .int .i64 m, .int .i64 d] 23) = w2 := ⟨_, rfl⟩
  have HBE := Lib.hid hb3
  have hgr2 := hgr
  have hgd2 := hgd
  rw [hw2] at hb3 hgr2 hgd2
  have HB2 := Lib.hid hb3
  have HW2 := Lib.hid hw2
  have GR := Lib.hid hgr2
  have GD := Lib.hid hgd2
  have hlr := (Array.getElem?_eq_some_iff.1 hgr2).1
  have hld := (Array.getElem?_eq_some_iff.1 hgd2).1
  have HSR := Lib.hid (show ∀ W, Below w2.heap.size w2 W → W.heap[w.heap.size]? = some (.cells #[.int .i64 1, .int .i64 mo, .int .i64 N, .int .i64 0, .int .i64 0, .int .i64 0, .int .i64 0, .int .i64 0, .int .i64 0, .int .i64 0] 25 (0, 0)) from fun W hb => (hb.block _ hlr).trans GR.out)
  have HSD := Lib.hid (show ∀ W, Below w2.heap.size w2 W → W.heap[w1.heap.size]? = some (.cells #[.int .i64 y, .int .i64 m, .int .i64 d] 23 (0, 0)) from fun W hb => (hb.block _ hld).trans GD.out)
  have K0 := cell_blk hgr 0 (v := .int .i64 1) rfl
  have K1 := cell_blk hgr 1 (v := .int .i64 mo) rfl
  have X1 := cell_blk hgd 1 (v := .int .i64 m) rfl
  have X2 := cell_blk hgd 2 (v := .int .i64 d) rfl
  have HD := Lib.hid (And.intro hd1 hm1)
  clear hb1 hb2 hg1 hlt1 hb3 hgr hgd hgr2 hgd2 hw2 hlr hld GR GD HB0 G0 HO hm1
  rcases c1 with c1 | ⟨c1, c2⟩
  case' inl => go_wp2_with fail
  case' inr => go_wp2_with fail
  all_goals
    rw [HW2.out]
    clear K0 K1 X1 X2 HW2 c1
    go_loopw [7, 8] (fun l v wr => ∃ i : Nat, v = .int .i64 i ∧ i ≤ n ∧ Below w2.heap.size w2 wr ∧ wr.ownsRow w2.heap.size 3 1 l i (intL (apr (a - d + 1) 1 i))) (fun _ v _ => n - (intOf v).toNat)
    case atStart =>

      exact ⟨0, rfl, Nat.zero_le _, Below.refl _ _, World.ownsRow_nil _ _ _ _⟩

    case round =>
      obtain ⟨i, rfl, hi, hb, hown⟩ := hrel
      have HBi := Lib.hid hb
      have HOi := Lib.hid hown
      have X0 := cell_blk (HSD.out _ hb) 0 (v := .int .i64 y) rfl
      have X1 := cell_blk (HSD.out _ hb) 1 (v := .int .i64 m) rfl
      clear hb
      by_cases hin : i < n
      · clear hown
        go_wp2_with fail
        refine (HL.out _).mono ?_
        rintro e w4 ⟨rfl, hb4⟩
        have hb5 := HBi.out.trans (hb4.mono HBi.out.size)
        have hown4 := owns_below HOi.out hb4
        have HB4 := Lib.hid hb5
        have HO4 := Lib.hid hown4
        have K0 := cell_blk (HSR.out _ hb5) 0 (v := .int .i64 1) rfl

        clear hb4 hown4 X0 X1
        go_wp2_with fail
        go_quiet (fail)
        obtain ⟨w6, hw6⟩ : ∃ w6, w4.drewN nq = w6 := ⟨_, rfl⟩
        rw [hw6]
        have hb6 := below_drewN w4 nq
        rw [hw6] at hb6
        have HO6 := Lib.hid (owns_below HO4.out hb6)
        have HB6 := Lib.hid (HB4.out.trans (hb6.mono HB4.out.size))
        have hz6 := HB6.out.size
        clear hw6 hb6
        go_wp2_with (first
            | (at_builtin
               refine wpList_app rfl (.tmp 71) (.tmp 75) _ rfl elInt w2.heap.size _ i (intL (apr (a - d + 1) 1 i)) rfl (HO6.out.alloc _) _ 1 1 (intL [a - d + 1 + i]) rfl rfl ?rd (intL_one _) (by unfold maxLen; omega) (by omega) (by simp; omega) ?_
               case rd => exact Rd.block (cs := #[.int .i64 (a - d + 1 + i)]) (heap_alloc_new _ _)
               intro v5 w5 hown5 hg5 hat5
               have HO5 := Lib.hid hown5
               have HB5 := Lib.hid ((HB6.out.alloc HB6.out.size (.cells #[.int .i64 (a - d + 1 + i)] 3)).grown hg5 (by simp; omega) (fun j hj => owns_block HO6.out j hj))
               clear hown5 hg5 hat5))
        go_roundw
        case rel =>
          refine ⟨i + 1, by go_num, hin, HB5.out, ?_⟩
          have := HO5.out
          rw [apr_succ, intL_append, show (1 : Int) * i = i by omega]
          exact this
        case measure => simp [intOf]; omega

      · obtain rfl : i = n := by omega
        obtain ⟨A, cp, rfl, hcp1, hcp2, hcp3, hrd, hlo⟩ := owns_form hown
        have HRd := Lib.hid hrd
        clear hown hcp3 hrd hlo hcp2
        go_wp2_with fail
        refine (HL.out _).mono ?_
        rintro e w4 ⟨rfl, hb4⟩
        have hb5 := HBi.out.trans (hb4.mono HBi.out.size)
        have HB4 := Lib.hid hb5
        have HR4 := Lib.hid (HRd.out.below hb4)
        have K2 := cell_blk (HSR.out _ hb5) 2 (v := .int .i64 N) rfl
        clear hb4 hb5 X0 X1
        have HK := Lib.hid (show ∀ k : Nat, i = k → k ≤ 31 → 0 = 0 from fun _ _ _ => rfl)
        obtain ⟨k, hk⟩ : ∃ k, i = k := ⟨_, rfl⟩
        have hk31 : k ≤ 31 := by omega
        rw [hk] at HR HR4 hcp1 ⊢
        have hlen := apr_length (a - d + 1) 1 k
        have hget := apr_get (a - d + 1) 1 k
        clear hk HK
        generalize apr (a - d + 1) 1 k = L at *
        unfold atR at HR
        by_cases hneg : N < 0
        · rw [if_pos hneg] at HR
          rcases (show (k : Int) + N < 0 ∨ 0 ≤ (k : Int) + N by omega) with h | h
          · have d1 : decide (0 ≤ (k : Int) + N) = false := decide_eq_false (by omega)
            go_wp2_with fail
            go_ret
            exact ⟨ret_bool (by rw [← HR.out]; exact (decide_eq_false (by omega)).symm), HB2.out.trans (HB4.out.mono HB2.out.size)⟩
          · obtain ⟨j, hj⟩ : ∃ j : Nat, (k : Int) + N = j := ⟨((k : Int) + N).toNat, by omega⟩
            have hjk : j < k := by omega
            obtain ⟨ad, rfl, hcell⟩ := HR4.out (by rw [intL_length, hlen]; omega)
            have hc0 := hcell j (.int .i64 ((a - d + 1) + 1 * (j : Int))) (by unfold intL; rw [List.getElem?_map, hget j hjk]; rfl)
            rw [hj] at HR
            have HH := Lib.hid (And.intro hjk h)
            clear hcell h
            go_wp2_with fail
            go_ret
            refine ⟨ret_bool ?_, HB2.out.trans (HB4.out.mono HB2.out.size)⟩
            rw [← HR.out, Bool.eq_iff_iff]
            simp
            have := HH.out.1
            omega
        · rw [if_neg hneg] at HR
          rcases (show N - 1 < 0 ∨ (0 ≤ N - 1 ∧ (k : Int) ≤ N - 1) ∨ (0 ≤ N - 1 ∧ N - 1 < (k : Int)) by omega) with h | ⟨h, h'⟩ | ⟨h, h'⟩
          · have d1 : decide (0 ≤ N - 1) = false := decide_eq_false (by omega)
            go_wp2_with fail
            go_ret
            exact ⟨ret_bool (by rw [← HR.out]; exact (decide_eq_false (by omega)).symm), HB2.out.trans (HB4.out.mono HB2.out.size)⟩
          · have d1 : decide (0 ≤ N - 1) = true := decide_eq_true (by omega)
            have d2 : decide (N - 1 < (k : Int)) = false := decide_eq_false (by omega)
            go_wp2_with fail
            go_ret
            exact ⟨ret_bool (by rw [← HR.out]; exact (decide_eq_false (by omega)).symm), HB2.out.trans (HB4.out.mono HB2.out.size)⟩
          · obtain ⟨j, hj⟩ : ∃ j : Nat, N - 1 = j := ⟨(N - 1).toNat, by omega⟩
            have hjk : j < k := by omega
            obtain ⟨ad, rfl, hcell⟩ := HR4.out (by rw [intL_length, hlen]; omega)
            have hc0 := hcell j (.int .i64 ((a - d + 1) + 1 * (j : Int))) (by unfold intL; rw [List.getElem?_map, hget j hjk]; rfl)
            rw [hj] at HR
            have HH := Lib.hid (And.intro hjk h)
            clear hcell h h'
            go_wp2_with fail
            go_ret
            refine ⟨ret_bool ?_, HB2.out.trans (HB4.out.mono HB2.out.size)⟩
            rw [← HR.out, Bool.eq_iff_iff]
            simp
            have := HH.out.1
            omega

end Go.Proofs.YtjfmnflcgenpaaaGreatDoor

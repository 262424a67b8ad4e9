/- RuleDates' walk. -/
import Derived.Test.YtjfmnflcgenpaaaDoorL6Sure
import Derived.Test.YtjfmnflcgenpaaaDoorRlM
namespace Go.Proofs.YtjfmnflcgenpaaaDoor
open Go.RowKit

/-- How many of the days from three ahead on were meant. -/
def cntD (n j : Nat) : Nat := if j ≤ 3 then 0 else min (j - 3) (n + 1)
/-- How many of seven days were meant: one of each weekday gone through. -/
def cntW (q c i : Nat) : Nat := q + if c < i then 1 else 0
theorem u64_rem (t : Int) (b : Nat) (hb : 0 < b) : ∃ a : Nat, (IntKind.u64.wrap t).tmod b = a ∧ a < b := by
  have h : 0 ≤ IntKind.u64.wrap t := by
    unfold IntKind.wrap
    simp [IntKind.signed, IntKind.bits]
    omega
  have h1 := Int.emod_nonneg (IntKind.u64.wrap t) (show (b : Int) ≠ 0 by omega)
  have h2 := Int.emod_lt_of_pos (IntKind.u64.wrap t) (show (0 : Int) < b by omega)
  exact ⟨((IntKind.u64.wrap t) % b).toNat, by rw [Int.tmod_eq_emod_of_nonneg h]; omega, by omega⟩
set_option maxRecDepth 100000 in
set_option maxHeartbeats 4000000 in
theorem dates_walk (of many : Int) (w : World) (hE : En w) (_ : -9223372036854775808 ≤ of ∧ of ≤ 9223372036854775807) (_ : -9223372036854775808 ≤ many ∧ many ≤ 9223372036854775807) :
    Calls Tryd.prog 4 #[.int .i64 of, .int .i64 many] w fun e w' => e = .returned (.bool true) ∧ Below w.heap.size w w' := by
  obtain ⟨a, ha, ha2⟩ := u64_rem of 2900000 (by omega)
  obtain ⟨n, hn, hn2⟩ := u64_rem many 60 (by omega)
  have HA := Lib.hid ha
  have HNn := Lib.hid hn
  clear ha hn
  obtain ⟨fy, fm, fd, hi, hx⟩ := date_ex (a : Int)
  obtain ⟨ty, tm, td, hi', hx'⟩ := date_ex ((a : Int) + n)
  have hy := year_in hi hx (by omega) (by omega)
  have hy' := year_in hi' hx' (by omega) (by omega)
  have HO1 := Lib.hid (fun W (hT : Tab W) => ofOk_any fy fm fd a W hi hx (by omega) (by omega) hT)
  have HO2 := Lib.hid (fun W (hT : Tab W) => ofOk_any ty tm td (a + n) W hi' hx' (by omega) (by omega) hT)
  have e1 : dnr fy fm fd = a := by unfold dnr; rw [show ((fm : Int)).toNat = fm by omega]; exact hx
  have e2 : dnr ty tm td = a + n := by unfold dnr; rw [show ((tm : Int)).toNat = tm by omega]; exact hx'
  have hmay := may_3 (okD_of hi (by omega) (by omega)) (okD_of hi' (by omega) (by omega)) (by rw [e1, e2]; omega) hy.1 hy.2 hy'.1 hy'.2
  have HM := Lib.hid (show ∀ (j : Int) W, -3 ≤ j → j ≤ 63 → Tab W → Calls Tryd.prog 7 #[rv ⟨3, 0, 0, 0, fy, fm, fd, ty, tm, td⟩, .int .i64 (a + j)] W fun e w' => e = .returned (.tuple #[.bool (decide (0 ≤ j ∧ j ≤ n)), .nilIface]) ∧ Below W.heap.size W w' from by
    intro j W h1 h2 hT
    obtain ⟨y, m, d, hi2, hx2⟩ := date_ex ((a : Int) + j)
    have := match_yes _ y m d (a + j) W hT hi2 hx2 (by omega) (by omega) hmay
    have e3 : hitsR ⟨3, 0, 0, 0, fy, fm, fd, ty, tm, td⟩ y m d (a + j) = decide (0 ≤ j ∧ j ≤ n) := by
      show decide (dnr fy fm fd ≤ (a : Int) + j ∧ (a : Int) + j ≤ dnr ty tm td) = _
      rw [e1, e2, Bool.eq_iff_iff]
      simp only [decide_eq_true_eq]
      omega
    rw [e3] at this
    exact this)
  have HK := Lib.hid (show ∀ (q c i : Nat) W, i < 7 → c < 7 → q < 7 → wd ((a : Int) + c) = q → Tab W → Calls Tryd.prog 7 #[rv ⟨0, 0, 0, q, 0, 0, 0, 0, 0, 0⟩, .int .i64 ((a : Int) + i)] W fun e w' => e = .returned (.tuple #[.bool (decide (i = c)), .nilIface]) ∧ Below W.heap.size W w' from by
    intro q c i W h1 h2 h3 h4 hT
    obtain ⟨y, m, d, hi2, hx2⟩ := date_ex ((a : Int) + i)
    have := match_yes ⟨0, 0, 0, q, 0, 0, 0, 0, 0, 0⟩ y m d (a + i) W hT hi2 hx2 (by omega) (by omega) (may_0 _ (by omega) (by omega))
    rw [hits_0 i c y m d a q h1 h2 h4] at this
    exact this)
  have HS := Lib.hid (fun W (hW : En W) => sure_any W hW)
  have HE := Lib.hid (fun W (hW : Below w.heap.size w W) => hE.below hW)
  have HT0 := Lib.hid hE.tab
  clear hE hi hx hi' hx' hy hy' e1 e2 hmay
  unfold rv at HM HK
  unfold dt at HO1 HO2
  simp only at HM HK
  have ha : (IntKind.u64.wrap of).tmod 2900000 = a := HA.out
  have hn : (IntKind.u64.wrap many).tmod 60 = n := HNn.out
  go_enter Tryd.func4, Tryd.ntmps4
  go_wp2_with fail
  refine (HO1.out _ HT0.out).mono ?_
  rintro e w1 ⟨rfl, hb1⟩
  have hb2 := hb1.alloc hb1.size (.cells #[.int .i64 fy, .int .i64 fm, .int .i64 fd] 24)
  have G1 := Lib.hid (heap_alloc_new w1 (.cells #[.int .i64 fy, .int .i64 fm, .int .i64 fd] 24))
  have HB1 := Lib.hid hb2
  clear hb1 hb2 HO1 ha hn HA HNn
  go_wp2_with fail
  refine (HO2.out _ (HE.out _ HB1.out).tab).mono ?_
  rintro e w2 ⟨rfl, hb2⟩
  have hb3 := HB1.out.trans (hb2.mono HB1.out.size)
  have hb4 := hb3.alloc hb3.size (.cells #[.int .i64 ty, .int .i64 tm, .int .i64 td] 24)
  have hg1 := (hb2.block w1.heap.size (by simp)).trans G1.out
  have hlt1 := (Array.getElem?_eq_some_iff.1 hg1).1
  have hg2 := (Below.heap_alloc w2 (.cells #[.int .i64 ty, .int .i64 tm, .int .i64 td] 24) w1.heap.size hlt1).trans hg1
  have X0 := cell_blk hg2 0 (v := .int .i64 fy) rfl
  have X1 := cell_blk hg2 1 (v := .int .i64 fm) rfl
  have X2 := cell_blk hg2 2 (v := .int .i64 fd) rfl
  have hb5 := hb4.alloc hb4.size (.cells #[.int .i64 3, .int .i64 0, .int .i64 0, .int .i64 0, .int .i64 fy, .int .i64 fm, .int .i64 fd, .int .i64 ty, .int .i64 tm, .int .i64 td] 34)
  have G3 := Lib.hid (heap_new2 w2 (.cells #[.int .i64 ty, .int .i64 tm, .int .i64 td] 24) (.cells #[.int .i64 3, .int .i64 0, .int .i64 0, .int .i64 0, .int .i64 fy, .int .i64 fm, .int .i64 fd, .int .i64 ty, .int .i64 tm, .int .i64 td] 34))
  have HB3 := Lib.hid hb5
  obtain ⟨w3, hw3⟩ : ∃ w3, (w2.alloc (.cells #[.int .i64 ty, .int .i64 tm, .int .i64 td] 24)).alloc (.cells #[.int .i64 3, .int .i64 0, .int .i64 0, .int .i64 0, .int .i64 fy, .int .i64 fm, .int .i64 fd, .int .i64 ty, .int .i64 tm, .int .i64 td] 34) = w3 := ⟨_, rfl⟩
  rw [hw3] at G3 HB3
  have HW3 := Lib.hid hw3
  clear hb2 hb3 hb4 hb5 hg1 hlt1 hg2 hw3 G1 HB1 HO2
  go_wp2_with fail
  rw [HW3.out]
  go_loopw [14, 12] (fun i c wr => ∃ j : Nat, i = .int .i64 ((j : Int) - 3) ∧ j ≤ n + 7 ∧ c = .int .i64 (cntD n j : Nat) ∧ Below w3.heap.size w3 wr) (fun i _ _ => n + 7 - (intOf i + 3).toNat)
  case atStart => exact ⟨0, rfl, Nat.zero_le _, rfl, Below.refl _ _⟩
  case round =>
    obtain ⟨j, rfl, hj, rfl, hb⟩ := hrel
    have HB := Lib.hid hb
    have hlt3 := (Array.getElem?_eq_some_iff.1 G3.out).1
    have hg := (hb.block _ hlt3).trans G3.out
    have K0 := cell_blk hg 0 (v := .int .i64 3) rfl
    have K1 := cell_blk hg 1 (v := .int .i64 0) rfl
    have K2 := cell_blk hg 2 (v := .int .i64 0) rfl
    have K3 := cell_blk hg 3 (v := .int .i64 0) rfl
    have K4 := cell_blk hg 4 (v := .int .i64 fy) rfl
    have K5 := cell_blk hg 5 (v := .int .i64 fm) rfl
    have K6 := cell_blk hg 6 (v := .int .i64 fd) rfl
    have K7 := cell_blk hg 7 (v := .int .i64 ty) rfl
    have K8 := cell_blk hg 8 (v := .int .i64 tm) rfl
    have K9 := cell_blk hg 9 (v := .int .i64 td) rfl
    clear hb hg hlt3
    by_cases hlt : j < n + 7
    · have HM1 := Lib.hid (HM.out ((j : Int) - 3) wr (by omega) (by omega) (HE.out _ (HB3.out.trans (HB.out.mono HB3.out.size))).tab)
      rcases (show j < 3 ∨ (3 ≤ j ∧ j ≤ n + 3) ∨ n + 3 < j by omega) with h | ⟨h, h'⟩ | h
      · have HD := Lib.hid (show cntD n (j + 1) = cntD n j by unfold cntD; rw [if_pos (by omega), if_pos (by omega)])
        rw [decide_eq_false (show ¬ (0 ≤ (j : Int) - 3 ∧ (j : Int) - 3 ≤ n) by omega)] at HM1
        generalize cntD n j = cn at *
        go_wp2_with fail
        refine HM1.out.mono ?_
        rintro e w4 ⟨rfl, hb4⟩
        have HB4 := Lib.hid (HB.out.trans (hb4.mono HB.out.size))
        clear hb4 K0 K1 K2 K3 K4 K5 K6 K7 K8 K9
        go_wp2_with fail
        go_roundw
        case rel => exact ⟨j + 1, by go_num, by omega, by rw [HD.out], HB4.out⟩
        case measure => simp [intOf]; omega
      · have HD := Lib.hid (show cntD n (j + 1) = cntD n j + 1 by unfold cntD; rw [if_neg (by omega)]; split <;> omega)
        have hcn : cntD n j ≤ 70 := by unfold cntD; split <;> omega
        have d1 : decide ((j : Int) - 3 ≤ n) = true := decide_eq_true (by omega)
        rw [decide_eq_true (show 0 ≤ (j : Int) - 3 ∧ (j : Int) - 3 ≤ n by omega)] at HM1
        generalize cntD n j = cn at *
        go_wp2_with fail
        refine HM1.out.mono ?_
        rintro e w4 ⟨rfl, hb4⟩
        have HB4 := Lib.hid (HB.out.trans (hb4.mono HB.out.size))
        clear hb4 K0 K1 K2 K3 K4 K5 K6 K7 K8 K9
        go_wp2_with fail
        go_roundw
        case rel => exact ⟨j + 1, by go_num, by omega, by rw [HD.out]; go_num, HB4.out⟩
        case measure => simp [intOf]; omega
      · have HD := Lib.hid (show cntD n (j + 1) = cntD n j by unfold cntD; rw [if_neg (by omega), if_neg (by omega)]; omega)
        have d1 : decide ((j : Int) - 3 ≤ n) = false := decide_eq_false (by omega)
        rw [decide_eq_false (show ¬ (0 ≤ (j : Int) - 3 ∧ (j : Int) - 3 ≤ n) by omega)] at HM1
        generalize cntD n j = cn at *
        go_wp2_with fail
        refine HM1.out.mono ?_
        rintro e w4 ⟨rfl, hb4⟩
        have HB4 := Lib.hid (HB.out.trans (hb4.mono HB.out.size))
        clear hb4 K0 K1 K2 K3 K4 K5 K6 K7 K8 K9
        go_wp2_with fail
        go_roundw
        case rel => exact ⟨j + 1, by go_num, by omega, by rw [HD.out], HB4.out⟩
        case measure => simp [intOf]; omega
    · have hcn : cntD n j = n + 1 := by unfold cntD; rw [if_neg (by omega)]; omega
      have d1 : decide ((j : Int) - 3 ≤ (n : Int) + 3) = false := decide_eq_false (by omega)
      generalize cntD n j = N1 at *
      have d2 : ((N1 : Int) == (n : Int) + 1) = true := by rw [hcn]; simp
      have b1 : N1 ≤ 100 := by omega
      clear hcn K0 K1 K2 K3 K4 K5 K6 K7 K8 K9 HM
      go_wp2_with fail
      go_loopw [17, 13] (fun v c wq => ∃ q : Nat, v = .int .i64 q ∧ q ≤ 7 ∧ c = .int .i64 q ∧ Below w3.heap.size w3 wq) (fun v _ _ => 7 - (intOf v).toNat)
      case atStart => exact ⟨0, rfl, by omega, rfl, HB.out⟩
      case round =>
        obtain ⟨q, rfl, hq, rfl, hb⟩ := hrel
        have HBq := Lib.hid hb
        clear hb
        by_cases hlt : q < 7
        · obtain ⟨c0, hc0, hwc⟩ := first_ex a q (by omega) (by omega)
          have HK1 := Lib.hid (fun i W hi hT => HK.out q c0 i W hi hc0 hlt hwc hT)
          have d3 : decide ((q : Int) < 7) = true := decide_eq_true (by omega)
          clear hwc
          go_wp2_with fail
          go_loopw [18, 13] (fun v c wi => ∃ i : Nat, v = .int .i64 i ∧ i ≤ 7 ∧ c = .int .i64 (cntW q c0 i : Nat) ∧ Below w3.heap.size w3 wi) (fun v _ _ => 7 - (intOf v).toNat)
          case atStart => exact ⟨0, rfl, by omega, rfl, HBq.out⟩
          case round =>
            obtain ⟨i, rfl, hi, rfl, hb⟩ := hrel
            have HBi := Lib.hid hb
            clear hb
            by_cases hli : i < 7
            · have HM1 := Lib.hid (HK1.out i wr hli (HE.out _ (HB3.out.trans (HBi.out.mono HB3.out.size))).tab)
              by_cases hic : i = c0
              · have HD := Lib.hid (show cntW q c0 (i + 1) = cntW q c0 i + 1 by unfold cntW; rw [if_pos (by omega), if_neg (by omega)])
                have hcn : cntW q c0 i ≤ 70 := by unfold cntW; split <;> omega
                rw [decide_eq_true hic] at HM1
                generalize cntW q c0 i = cn at *
                clear hic hc0
                go_wp2_with fail
                refine HM1.out.mono ?_
                rintro e w4 ⟨rfl, hb4⟩
                have HB4 := Lib.hid (HBi.out.trans (hb4.mono HBi.out.size))
                clear hb4
                go_wp2_with fail
                go_roundw
                case rel => exact ⟨i + 1, by go_num, by omega, by rw [HD.out]; go_num, HB4.out⟩
                case measure => simp [intOf]; omega
              · have HD := Lib.hid (show cntW q c0 (i + 1) = cntW q c0 i by unfold cntW; split <;> split <;> omega)
                rw [decide_eq_false hic] at HM1
                generalize cntW q c0 i = cn at *
                clear hic hc0
                go_wp2_with fail
                refine HM1.out.mono ?_
                rintro e w4 ⟨rfl, hb4⟩
                have HB4 := Lib.hid (HBi.out.trans (hb4.mono HBi.out.size))
                clear hb4
                go_wp2_with fail
                go_roundw
                case rel => exact ⟨i + 1, by go_num, by omega, by rw [HD.out], HB4.out⟩
                case measure => simp [intOf]; omega
            · have hcn := Lib.hid (show cntW q c0 i = q + 1 by unfold cntW; rw [if_pos (by omega)])
              generalize cntW q c0 i = cn at *
              clear hc0
              go_wp2_with fail
              go_roundw
              case rel => exact ⟨q + 1, by go_num, by omega, by rw [hcn.out], HBi.out⟩
              case measure => simp [intOf]; omega
        · have d4 : ((q : Int) == 7) = true := by rw [show (q : Int) = 7 by omega]; rfl
          go_wp2_with fail
          refine (HS.out _ (HE.out _ (HB3.out.trans (HBq.out.mono HB3.out.size)))).mono ?_
          rintro e w5 ⟨rfl, hb5⟩
          have HB5 := Lib.hid (HB3.out.trans ((HBq.out.trans (hb5.mono HBq.out.size)).mono HB3.out.size))
          clear hb5
          go_wp2_with fail
          go_ret
          exact ⟨rfl, HB5.out⟩
end Go.Proofs.YtjfmnflcgenpaaaDoor

/- RuleMonths' walk. -/
import Derived.Test.YtjfmnflcgenpaaaDoorL6Dates
import Derived.Test.YtjfmnflcgenpaaaDoorRlN
namespace Go.Proofs.YtjfmnflcgenpaaaDoor
open Go.RowKit

/-- How many of the first i days were meant: from the begin; from the end; of a weekday. -/
def mA (k i : Nat) : Nat := if k ≤ i then 1 else 0
def mB (k n i : Nat) : Nat := if n < i + k ∧ k ≤ n then 1 else 0
def mC (c k i : Nat) : Nat := k - 1 + if c + 7 * (k - 1) < i then 1 else 0
/-- The last day that was meant. -/
def lastV (c t : Nat) : Int := if t = 0 then -1 else c + 7 * t - 7
theorem mA_succ (k i : Nat) (_h1 : 1 ≤ k) (x : Bool) (hx : decide ((i : Int) = k - 1) = x) : mA k (i + 1) = mA k i + x.toNat := by
  unfold mA
  cases x
  · have := of_decide_eq_false hx
    simp only [Bool.toNat_false]
    split <;> split <;> omega
  · have := of_decide_eq_true hx
    simp only [Bool.toNat_true]
    split <;> split <;> omega
theorem mB_succ (k n i : Nat) (_hi : i < n) (y : Bool) (hy : decide ((i : Int) = n - k) = y) : mB k n (i + 1) = mB k n i + y.toNat := by
  unfold mB
  cases y
  · have := of_decide_eq_false hy
    simp only [Bool.toNat_false]
    split <;> split <;> omega
  · have := of_decide_eq_true hy
    simp only [Bool.toNat_true]
    split <;> split <;> omega
theorem mC_hit (c k i : Nat) (h : i = c + 7 * (k - 1)) : mC c k (i + 1) = k ∨ k = 0 := by
  unfold mC
  rw [if_pos (by omega)]
  omega
theorem mC_at (c k i : Nat) (h : i = c + 7 * (k - 1)) : mC c k i = k - 1 := by
  unfold mC
  rw [if_neg (by omega)]
  rfl
theorem mC_miss (c k i : Nat) (h : i ≠ c + 7 * (k - 1)) : mC c k (i + 1) = mC c k i := by
  unfold mC
  split <;> split <;> omega
theorem mC_zero (c k : Nat) : mC c k 0 = k - 1 := by
  unfold mC
  rw [if_neg (by omega)]
  rfl
set_option maxRecDepth 100000 in
set_option maxHeartbeats 4000000 in
theorem months_walk (of wk : Int) (w : World) (hE : En w) (_ : -9223372036854775808 ≤ of ∧ of ≤ 9223372036854775807) (_ : -9223372036854775808 ≤ wk ∧ wk ≤ 9223372036854775807) :
    Calls Tryd.prog 3 #[.int .i64 of, .int .i64 wk] w fun e w' => e = .returned (.bool true) ∧ Below w.heap.size w w' := by
  obtain ⟨a, ha, ha2⟩ := u64_rem of 3000000 (by omega)
  obtain ⟨q, hq, hq2⟩ := u64_rem wk 7 (by omega)
  have HA := Lib.hid ha
  have HQ := Lib.hid hq
  clear ha hq
  obtain ⟨y, m, d, hi, hx⟩ := date_ex (a : Int)
  have hyb : -274877906944 ≤ y ∧ y < 274877906944 := by
    have h := nr_in hi
    rw [hx] at h
    exact year_bd h.1 h.2 (by omega) (by omega)
  have hm1 := hi.m1
  have hm2 := hi.m12
  have hd1 := hi.d1
  have hdl := hi.dl
  have hl := mlen_le (y := y) hm1 hm2
  obtain ⟨n, hn⟩ : ∃ n : Nat, mlen y m = n := ⟨(mlen y m).toNat, by omega⟩
  rw [hn] at hl hdl
  obtain ⟨c, hc, hcw⟩ := first_ex ((a : Int) - d + 1) q (by omega) (by omega)
  have HO := Lib.hid (fun W (hT : Tab W) => ofOk_any y m d a W hi hx (by omega) (by omega) hT)
  have HL := Lib.hid (fun W (hT : Tab W) => lengthOk_any y m W hm1 hm2 (by omega) (by omega) hT)
  rw [hn] at HL
  have HM1 := Lib.hid (show ∀ (k i : Nat) W, 1 ≤ k → k ≤ 31 → i < n → Tab W → Calls Tryd.prog 7 #[rv ⟨1, 0, k, 0, 0, 0, 0, 0, 0, 0⟩, .int .i64 ((a : Int) - d + 1 + i)] W fun e w' => e = .returned (.tuple #[.bool (decide ((i : Int) = k - 1)), .nilIface]) ∧ Below W.heap.size W w' from by
    intro k i W h1 h2 h3 hT
    obtain ⟨hi2, hx2⟩ := is_day hi hx i n hn h3
    have := match_yes _ y m (i + 1) _ W hT hi2 hx2 (by omega) (by omega) (may_1 0 k (by omega) (by omega) (by omega) (by omega) (by omega))
    rw [hits_1 k i y m n _ hn h1 h3] at this
    exact this)
  have HM2 := Lib.hid (show ∀ (k i : Nat) W, 1 ≤ k → k ≤ 31 → i < n → Tab W → Calls Tryd.prog 7 #[rv ⟨1, m, -(k : Int), 0, 0, 0, 0, 0, 0, 0⟩, .int .i64 ((a : Int) - d + 1 + i)] W fun e w' => e = .returned (.tuple #[.bool (decide ((i : Int) = n - k)), .nilIface]) ∧ Below W.heap.size W w' from by
    intro k i W h1 h2 h3 hT
    obtain ⟨hi2, hx2⟩ := is_day hi hx i n hn h3
    have := match_yes _ y m (i + 1) _ W hT hi2 hx2 (by omega) (by omega) (may_1 m (-(k : Int)) (by omega) (by omega) (by omega) (by omega) (by omega))
    rw [hits_1n k i y m n _ hn h1 h3] at this
    exact this)
  have HM3 := Lib.hid (show ∀ (k i : Nat) W, 1 ≤ k → k ≤ 5 → i < n → Tab W → Calls Tryd.prog 7 #[rv ⟨2, 0, k, q, 0, 0, 0, 0, 0, 0⟩, .int .i64 ((a : Int) - d + 1 + i)] W fun e w' => e = .returned (.tuple #[.bool (decide ((i : Int) = c + 7 * (k - 1))), .nilIface]) ∧ Below W.heap.size W w' from by
    intro k i W h1 h2 h3 hT
    obtain ⟨hi2, hx2⟩ := is_day hi hx i n hn h3
    have := match_yes _ y m (i + 1) _ W hT hi2 hx2 (by omega) (by omega) (may_2 0 k q (by omega) (by omega) (by omega) (by omega) (by omega) (by omega) (by omega))
    rw [hits_2 k i c y m n _ q hn h1 h3 hc hcw] at this
    exact this)
  have HWd := Lib.hid (show ∀ (k i : Nat) W, 1 ≤ k → (i : Int) = c + 7 * (k - 1) → Calls Tryd.prog 8 #[.int .i64 ((a : Int) - d + 1 + i)] W fun e w' => e = .returned (.int .i64 q) ∧ W = w' from by
    intro k i W h1 h2
    have := weekday_any ((a : Int) - d + 1 + i) W
    rw [show wd ((a : Int) - d + 1 + i) = q by rw [← hcw]; unfold wd; omega] at this
    exact this)
  have HS := Lib.hid (fun W (hW : En W) => sure_any W hW)
  have HE := Lib.hid (fun W (hW : Below w.heap.size w W) => hE.below hW)
  have HT0 := Lib.hid hE.tab
  have HCN := Lib.hid (show c < 7 ∧ 28 ≤ n ∧ n ≤ 31 from ⟨hc, by omega, by omega⟩)
  have HDB := Lib.hid (show 1 ≤ d ∧ d ≤ 31 from ⟨hd1, by omega⟩)
  have hn28 : 28 ≤ n := by omega
  have hn31 : n ≤ 31 := by omega
  have hd31 : d ≤ 31 := by omega
  clear hE hi hx hyb hm2 hcw hn hl hc
  unfold rv at HM1 HM2 HM3
  unfold dt at HO
  simp only at HM1 HM2 HM3
  have ha : (IntKind.u64.wrap of).tmod 3000000 = a := HA.out
  have hq : (IntKind.u64.wrap wk).tmod 7 = q := HQ.out
  go_enter Tryd.func3, Tryd.ntmps3
  go_wp2_with fail
  refine (HO.out _ HT0.out).mono ?_
  rintro e w1 ⟨rfl, hb1⟩
  have hb2 := hb1.alloc hb1.size (.cells #[.int .i64 y, .int .i64 m, .int .i64 d] 24)
  have G1 := Lib.hid (heap_alloc_new w1 (.cells #[.int .i64 y, .int .i64 m, .int .i64 d] 24))
  have HB1 := Lib.hid hb2
  clear hb1 hb2 HO ha hq HA HQ
  go_wp2_with fail
  refine (HL.out _ (HE.out _ HB1.out).tab).mono ?_
  rintro e w2 ⟨rfl, rfl⟩
  obtain ⟨w3, hw3⟩ : ∃ w3, w1.alloc (.cells #[.int .i64 y, .int .i64 m, .int .i64 d] 24) = w3 := ⟨_, rfl⟩
  rw [hw3] at G1 HB1
  have HW3 := Lib.hid hw3
  clear hw3
  go_wp2_with fail
  rw [HW3.out]
  go_loopw [13] (fun v wr => ∃ k : Nat, v = .int .i64 k ∧ 1 ≤ k ∧ k ≤ 32 ∧ Below w3.heap.size w3 wr) (fun v _ => 32 - (intOf v).toNat)
  case atStart => exact ⟨1, rfl, Nat.le_refl _, by omega, Below.refl _ _⟩
  case round =>
    obtain ⟨k, rfl, hk1, hk2, hb⟩ := hrel
    have HB := Lib.hid hb
    clear hb
    by_cases hlt : k < 32
    · have d0 : decide ((k : Int) ≤ 31) = true := decide_eq_true (by omega)
      go_wp2_with fail
      go_loopw [16, 14, 15] (fun v a b wi => ∃ i : Nat, v = .int .i64 i ∧ i ≤ n ∧ a = .int .i64 (mA k i : Nat) ∧ b = .int .i64 (mB k n i : Nat) ∧ Below w3.heap.size w3 wi) (fun v _ _ _ => n - (intOf v).toNat)
      case atStart => exact ⟨0, rfl, Nat.zero_le _, by unfold mA; rw [if_neg (by omega)]; rfl, by unfold mB; rw [if_neg (by omega)]; rfl, HB.out⟩
      case round =>
        obtain ⟨i, rfl, hi, rfl, rfl, hb⟩ := hrel
        have HBi := Lib.hid hb
        have hlt3 := (Array.getElem?_eq_some_iff.1 G1.out).1
        clear hb
        by_cases hin : i < n
        · have HX := Lib.hid (HM1.out k i wr hk1 (by omega) hin (HE.out _ (HB1.out.trans (HBi.out.mono HB1.out.size))).tab)
          have HY := Lib.hid (fun W hT => HM2.out k i W hk1 (by omega) hin hT)
          obtain ⟨x, hx⟩ : ∃ x, decide ((i : Int) = k - 1) = x := ⟨_, rfl⟩
          obtain ⟨y', hy⟩ : ∃ x, decide ((i : Int) = n - k) = x := ⟨_, rfl⟩
          have HA := Lib.hid (mA_succ k i hk1 x hx)
          have HBB := Lib.hid (mB_succ k n i hin y' hy)
          have hA1 : mA k i ≤ 1 := by unfold mA; split <;> omega
          have hB1 : mB k n i ≤ 1 := by unfold mB; split <;> omega
          have q1 : ((i : Int) == k - 1) = x := hx
          have q2 : ((i : Int) == n - k) = y' := hy
          rw [hx] at HX
          rw [hy] at HY
          clear hx hy HM1 HM2 HM3
          generalize mA k i = ca at *
          generalize mB k n i = cb at *
          cases x <;> cases y'
          all_goals
            go_wp2_with fail
            refine HX.out.mono ?_
            rintro e w4 ⟨rfl, hb4⟩
            have HB4 := Lib.hid (HBi.out.trans (hb4.mono HBi.out.size))
            have hg := ((HBi.out.trans (hb4.mono HBi.out.size)).block _ hlt3).trans G1.out
            have K1 := cell_blk hg 1 (v := .int .i64 m) rfl
            clear hb4 hg
            go_wp2_with fail
            refine (HY.out w4 (HE.out _ (HB1.out.trans (HB4.out.mono HB1.out.size))).tab).mono ?_
            rintro e w5 ⟨rfl, hb5⟩
            have HB5 := Lib.hid (HB4.out.trans (hb5.mono HB4.out.size))
            clear hb5 K1
            go_wp2_with fail
            go_roundw
            case rel => exact ⟨i + 1, by go_num, hin, by rw [HA.out]; go_num, by rw [HBB.out]; go_num, HB5.out⟩
            case measure => simp [intOf]; omega
        · obtain rfl : i = n := by omega
          by_cases hkn : k ≤ i
          · have eA : mA k i = 1 := if_pos hkn
            have eB : mB k i i = 1 := if_pos ⟨by omega, hkn⟩
            have d1 : decide ((k : Int) ≤ i) = true := decide_eq_true (by omega)
            rw [eA, eB]
            go_wp2_with fail
            go_roundw
            case rel => exact ⟨k + 1, by go_num, by omega, hlt, HBi.out⟩
            case measure => simp [intOf]; omega
          · have eA : mA k i = 0 := if_neg hkn
            have eB : mB k i i = 0 := if_neg (by omega)
            have d1 : decide ((k : Int) ≤ i) = false := decide_eq_false (by omega)
            rw [eA, eB]
            go_wp2_with fail
            go_roundw
            case rel => exact ⟨k + 1, by go_num, by omega, hlt, HBi.out⟩
            case measure => simp [intOf]; omega
    · have d0 : decide ((k : Int) ≤ 31) = false := decide_eq_false (by omega)
      clear HM1 HM2
      go_wp2_with fail
      go_loopw [22, 21, 12] (fun v l t wq => ∃ z : Nat, v = .int .i64 z ∧ 1 ≤ z ∧ z ≤ 6 ∧ l = .int .i64 (lastV c (min (z - 1) (cn7 c n))) ∧ t = .int .i64 (min (z - 1) (cn7 c n) : Nat) ∧ Below w3.heap.size w3 wq) (fun v _ _ _ => 6 - (intOf v).toNat)
      case atStart => exact ⟨1, rfl, Nat.le_refl _, by omega, by rw [show min (1 - 1) (cn7 c n) = 0 by omega]; rfl, by rw [show min (1 - 1) (cn7 c n) = 0 by omega]; rfl, HB.out⟩
      case round =>
        obtain ⟨z, rfl, hz1, hz2, rfl, rfl, hb⟩ := hrel
        have HBz := Lib.hid hb
        have hcn : 4 ≤ cn7 c n ∧ cn7 c n ≤ 5 ∧ n ≤ c + 7 * cn7 c n := by
          have := HCN.out
          unfold cn7
          omega
        obtain ⟨hcn1, hcn2, hcn3⟩ := hcn
        clear hb
        by_cases hlz : z < 6
        · have d5 : decide ((z : Int) ≤ 5) = true := decide_eq_true (by omega)
          have em : min (z - 1) (cn7 c n) = z - 1 := by omega
          rw [em]
          have e0 := mC_zero c z
          rw [← e0]
          have HEND := Lib.hid (show mC c z n = min z (cn7 c n) from by
            have := HCN.out
            unfold mC cn7
            split <;> omega)
          clear em e0 hcn1 hcn2 hcn3
          go_wp2_with fail
          go_loopw [23, 21, 12] (fun v l t wi => ∃ i : Nat, v = .int .i64 i ∧ i ≤ n ∧ l = .int .i64 (lastV c (mC c z i)) ∧ t = .int .i64 (mC c z i : Nat) ∧ Below w3.heap.size w3 wi) (fun v _ _ _ => n - (intOf v).toNat)
          case atStart => exact ⟨0, rfl, Nat.zero_le _, rfl, rfl, HBz.out⟩
          case round =>
            obtain ⟨i, rfl, hi, rfl, rfl, hb⟩ := hrel
            have HBi := Lib.hid hb
            clear hb
            by_cases hin : i < n
            · have HX := Lib.hid (HM3.out z i wr hz1 (by omega) hin (HE.out _ (HB1.out.trans (HBi.out.mono HB1.out.size))).tab)
              by_cases hic : i = c + 7 * (z - 1)
              · have HW := Lib.hid (fun W => HWd.out z i W hz1 (by omega))
                rw [decide_eq_true (show (i : Int) = c + 7 * ((z : Int) - 1) by omega)] at HX
                have e1 := mC_at c z i hic
                have HS1 := Lib.hid (show mC c z (i + 1) = z by have := mC_hit c z i hic; omega)
                have HLV := Lib.hid (show lastV c z = i by unfold lastV; rw [if_neg (by omega)]; omega)
                rw [e1]
                have hzz : ((z - 1 : Nat) : Int) = (z : Int) - 1 := by omega
                rcases (show z = 1 ∨ 2 ≤ z by omega) with hz | hz
                · have d6 : decide ((6 : Int) < i) = false := decide_eq_false (by have := HCN.out; omega)
                  have e2 : lastV c (z - 1) = -1 := by rw [hz]; rfl
                  rw [e2, hzz]
                  clear hic e1 e2 hzz hz
                  go_wp2_with fail
                  refine HX.out.mono ?_
                  rintro e w4 ⟨rfl, hb4⟩
                  have HB4 := Lib.hid (HBi.out.trans (hb4.mono HBi.out.size))
                  clear hb4
                  go_wp2_with fail
                  refine (HW.out w4).mono ?_
                  rintro e w5 ⟨rfl, rfl⟩
                  go_wp2_with fail
                  go_roundw
                  case rel => exact ⟨i + 1, by go_num, hin, by rw [HS1.out, HLV.out], by rw [HS1.out], HB4.out⟩
                  case measure => simp [intOf]; omega
                · obtain ⟨L, hL⟩ : ∃ L : Nat, lastV c (z - 1) = L := ⟨c + 7 * (z - 1) - 7, by unfold lastV; rw [if_neg (by omega)]; omega⟩
                  have hLi : L + 7 = i := by
                    unfold lastV at hL
                    rw [if_neg (by omega)] at hL
                    omega
                  rw [hL, hzz]
                  have hL99 : L ≤ 99 := by omega
                  have d7 : decide ((L : Int) < 0) = false := decide_eq_false (by omega)
                  have d8 : decide ((0 : Int) ≤ L) = true := decide_eq_true (by omega)
                  have d9 : ((i : Int) == (L : Int) + 7) = true := by rw [← hLi]; simp
                  have d10 : ((i : Int) != (L : Int) + 7) = false := by rw [← hLi]; simp
                  clear hic e1 hL hLi hzz hz
                  go_wp2_with fail
                  refine HX.out.mono ?_
                  rintro e w4 ⟨rfl, hb4⟩
                  have HB4 := Lib.hid (HBi.out.trans (hb4.mono HBi.out.size))
                  clear hb4
                  go_wp2_with fail
                  refine (HW.out w4).mono ?_
                  rintro e w5 ⟨rfl, rfl⟩
                  go_wp2_with fail
                  go_roundw
                  case rel => exact ⟨i + 1, by go_num, hin, by rw [HS1.out, HLV.out], by rw [HS1.out], HB4.out⟩
                  case measure => simp [intOf]; omega
              · rw [decide_eq_false (show ¬ (i : Int) = c + 7 * ((z : Int) - 1) by omega)] at HX
                have HMS := Lib.hid (mC_miss c z i hic)
                generalize mC c z i = t at *
                obtain ⟨l, hl⟩ : ∃ l, lastV c t = l := ⟨_, rfl⟩
                rw [hl]
                have HLE := Lib.hid hl
                clear hl
                clear hic
                go_wp2_with fail
                refine HX.out.mono ?_
                rintro e w4 ⟨rfl, hb4⟩
                have HB4 := Lib.hid (HBi.out.trans (hb4.mono HBi.out.size))
                clear hb4
                go_wp2_with fail
                go_roundw
                case rel => exact ⟨i + 1, by go_num, hin, by rw [HMS.out, HLE.out], by rw [HMS.out], HB4.out⟩
                case measure => simp [intOf]; omega
            · obtain rfl : i = n := by omega
              rw [HEND.out]
              obtain ⟨l, hl⟩ : ∃ l, lastV c (min z (cn7 c i)) = l := ⟨_, rfl⟩
              rw [hl]
              have HLE : Hid (lastV c (min (z + 1 - 1) (cn7 c i)) = l) := hl
              clear hl
              go_wp2_with fail
              go_roundw
              case rel => exact ⟨z + 1, by go_num, by omega, hlz, by rw [HLE.out], rfl, HBi.out⟩
              case measure => simp [intOf]; omega
        · have d5 : decide ((z : Int) ≤ 5) = false := decide_eq_false (by omega)
          have em : min (z - 1) (cn7 c n) = cn7 c n := by omega
          rw [em]
          have eL : lastV c (cn7 c n) = (c : Int) + 7 * (cn7 c n : Nat) - 7 := by unfold lastV; rw [if_neg (by omega)]
          rw [eL]
          have hc6 : c < 7 := HCN.out.1
          have hge : (n : Int) ≤ (c : Int) + 7 * (cn7 c n : Nat) - 7 + 7 := by omega
          rcases (show cn7 c n = 4 ∨ cn7 c n = 5 by omega) with h45 | h45
          all_goals
            rw [h45] at hge ⊢
            clear em eL hcn1 hcn2 hcn3 h45
            go_wp2_with fail
            refine (HS.out _ (HE.out _ (HB1.out.trans (HBz.out.mono HB1.out.size)))).mono ?_
            rintro e w5 ⟨rfl, hb5⟩
            have HB5 := Lib.hid (HB1.out.trans ((HBz.out.trans (hb5.mono HBz.out.size)).mono HB1.out.size))
            clear hb5
            go_wp2_with fail
            go_ret
            exact ⟨rfl, HB5.out⟩
end Go.Proofs.YtjfmnflcgenpaaaDoor

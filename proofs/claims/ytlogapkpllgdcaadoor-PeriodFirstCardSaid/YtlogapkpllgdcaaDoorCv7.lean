/- CvA, CvB, CvC, CvD, CvE, CvR, CvF, CvG, CvH, in one text. -/
import Derived.Test.YtlogapkpllgdcaaDoorCvMath
import Derived.Deep.QuietTactic
import Derived.BigQuiet
import Derived.Laws.Rows
import Derived.Laws.ResultCell
import Derived.Deep.RegionHeld3
/- Contracts of civil's floor, Leap, begin, length, Length, year, Weekday. -/
namespace Go.Proofs.YtlogapkpllgdcaaDoor
open Go.RowKit

theorem ret_int {k : IntKind} {a b : Int} (h : a = b) : Ending.returned (.int k a) = .returned (.int k b) := by rw [h]
theorem ret_bool {a b : Bool} (h : a = b) : Ending.returned (.bool a) = .returned (.bool b) := by rw [h]
theorem ret_pair {a b c d : Int} (h : a = c) (h2 : b = d) : Ending.returned (.tuple #[.int .i64 a, .int .i64 b]) = .returned (.tuple #[.int .i64 c, .int .i64 d]) := by rw [h, h2]
theorem below_drewN (w : World) (n : Nat) : Below w.heap.size w (w.drewN n) := ⟨rfl, rfl, rfl, Nat.le_refl _, fun _ _ => rfl⟩
theorem floor_any (a b : Int) (w : World) (ha : -4611686018427387904 ≤ a) (ha2 : a ≤ 4611686018427387904) (hb : 2 ≤ b) :
    Calls Tryd.prog 70 #[.int .i64 a, .int .i64 b] w fun e w' => e = .returned (.int .i64 (a / b)) ∧ w = w' := by
  rcases Int.lt_or_le a 0 with h | h
  · obtain ⟨h1, h2, h3, h4, h5⟩ := floor_neg a b h (by omega)
    rcases Int.lt_or_le (a.tmod b) 0 with hr | hr
    · have H2 := Lib.hid (h2 hr)
      clear h2 h3
      go_enter Tryd.func70, Tryd.ntmps70
      go_wp2
      go_ret
      exact ⟨ret_int H2.out, rfl⟩
    · have H2 := Lib.hid (h3 hr)
      clear h2 h3
      go_enter Tryd.func70, Tryd.ntmps70
      go_wp2
      go_ret
      exact ⟨ret_int H2.out, rfl⟩
  · have h0 := Int.emod_nonneg a (show b ≠ 0 by omega)
    go_enter Tryd.func70, Tryd.ntmps70
    go_wp2
    go_ret
    exact ⟨rfl, rfl⟩

theorem leap_any (y : Int) (w : World) :
    Calls Tryd.prog 71 #[.int .i64 y] w fun e w' => e = .returned (.bool (leapB y)) ∧ w = w' := by
  have h4 := Lib.hid (tmod_zero y 4)
  have h100 := Lib.hid (tmod_zero y 100)
  have h400 := Lib.hid (tmod_zero y 400)
  have H := Lib.hid (leapB_iff y)
  generalize leapB y = L at *
  go_enter Tryd.func71, Tryd.ntmps71
  go_wp2
  all_goals
    go_ret
    refine ⟨ret_bool ?_, rfl⟩
    have e4 := h4.out
    have e100 := h100.out
    have e400 := h400.out
    have e := H.out
    rw [Bool.eq_iff_iff, e]
    simp only [beq_iff_eq, true_iff]
    omega
theorem weekday_any (n : Int) (w : World) :
    Calls Tryd.prog 39 #[.int .i64 n] w fun e w' => e = .returned (.int .i64 (wd n)) ∧ w = w' := by
  obtain ⟨h1, h2, h3, _, _⟩ := tmod7 n
  obtain ⟨r, hr⟩ : ∃ r, n.tmod 7 = r := ⟨_, rfl⟩
  rw [hr] at h1 h2 h3
  have H := Lib.hid h3
  clear h3
  generalize wd n = W at *
  go_enter Tryd.func39, Tryd.ntmps39
  go_wp2
  go_ret
  exact ⟨ret_int H.out, rfl⟩
end Go.Proofs.YtlogapkpllgdcaaDoor
/- Contracts of civil's length, Length, begin, year. -/
namespace Go.Proofs.YtlogapkpllgdcaaDoor
open Go.RowKit

/-- civil's table is there. -/
def Tab (w : World) : Prop := ∀ i, i < 12 → w.cell? ⟨1, i, none⟩ = some (.int .i64 (mtab (i + 1)))
theorem Tab.below {w w' : World} (h : Tab w) (hb : Below w.heap.size w w') : Tab w' := fun i hi =>
  (World.cell?_of_block (a := ⟨1, i, none⟩) (hb.block _ (World.block_lt_of_cell? w _ (h i hi)))).trans (h i hi)
theorem Tab.drewN {w : World} (h : Tab w) (n : Nat) : Tab (w.drewN n) := h

theorem length_any (y : Int) (m : Nat) (w : World) (h1 : 1 ≤ m) (h2 : m ≤ 12) (ht : Tab w) :
    Calls Tryd.prog 59 #[.int .i64 y, .int .i64 m] w fun e w' => e = .returned (.int .i64 (mlen y m)) ∧ w = w' := by
  have hc := ht (m - 1) (by omega)
  rw [show m - 1 + 1 = m by omega] at hc
  clear ht
  have hm := mtab_le h1 h2
  obtain ⟨hm1, hm2⟩ := hm
  by_cases he : m = 2
  · subst he
    have hl := leap_any y w
    cases hL : leapB y with
    | true =>
      have H : Hid (mtab 2 + 1 = mlen y 2) := by unfold Hid mlen; rw [if_pos rfl, leapN_true hL]
      rw [hL] at hl
      generalize mtab 2 = t at *
      generalize mlen y 2 = r at *
      have HL := Lib.hid hl
      clear hl hL
      go_enter Tryd.func59, Tryd.ntmps59
      go_wp2_with fail
      refine HL.out.mono ?_
      rintro e w' ⟨rfl, rfl⟩
      go_wp2_with fail
      go_ret
      exact ⟨ret_int H.out, rfl⟩
    | false =>
      have H : Hid (mtab 2 = mlen y 2) := by unfold Hid mlen; rw [if_pos rfl, leapN_false hL]; omega
      rw [hL] at hl
      generalize mtab 2 = t at *
      generalize mlen y 2 = r at *
      have HL := Lib.hid hl
      clear hl hL
      go_enter Tryd.func59, Tryd.ntmps59
      go_wp2_with fail
      refine HL.out.mono ?_
      rintro e w' ⟨rfl, rfl⟩
      go_wp2_with fail
      go_ret
      exact ⟨ret_int H.out, rfl⟩
  · have H : Hid (mtab m = mlen y m) := by unfold Hid mlen; rw [if_neg he]; omega
    generalize mtab m = t at *
    generalize mlen y m = r at *
    have hne : ((m : Int) == 2) = false := beq_eq_false_iff_ne.2 (by omega)
    go_enter Tryd.func59, Tryd.ntmps59
    go_wp2
    go_ret
    exact ⟨ret_int H.out, rfl⟩
theorem begin_any (y : Int) (w : World) (h1 : -1099511627776 ≤ y) (h2 : y ≤ 1099511627776) :
    Calls Tryd.prog 58 #[.int .i64 y] w fun e w' => e = .returned (.int .i64 (bgn y)) ∧ w = w' := by
  have H : Hid ((y - 1) * 365 + ((y - 1) / 4 - (y - 1) / 100 + (y - 1) / 400) - 719162 = bgn y) := rfl
  generalize bgn y = r at *
  go_enter Tryd.func58, Tryd.ntmps58
  go_wp2_with fail
  refine (floor_any _ _ _ (by omega) (by omega) (by omega)).mono ?_
  rintro e w' ⟨rfl, rfl⟩
  go_wp2_with fail
  refine (floor_any _ _ _ (by omega) (by omega) (by omega)).mono ?_
  rintro e w' ⟨rfl, rfl⟩
  go_wp2_with fail
  refine (floor_any _ _ _ (by omega) (by omega) (by omega)).mono ?_
  rintro e w' ⟨rfl, rfl⟩
  go_wp2_with fail
  go_ret
  exact ⟨ret_int H.out, rfl⟩
def errNo : Value := .iface 69 (.int .i64 1)
theorem lengthOk_any (y : Int) (m : Nat) (w : World) (h1 : 1 ≤ m) (h2 : m ≤ 12) (hy1 : -274877906944 ≤ y) (hy2 : y ≤ 274877906944) (ht : Tab w) :
    Calls Tryd.prog 60 #[.int .i64 y, .int .i64 m] w fun e w' => e = .returned (.tuple #[.int .i64 (mlen y m), .nilIface]) ∧ w = w' := by
  have HT := Lib.hid ht
  clear ht
  go_enter Tryd.func60, Tryd.ntmps60
  go_wp2_with fail
  refine (length_any y m _ h1 h2 HT.out).mono ?_
  rintro e w' ⟨rfl, rfl⟩
  go_wp2_with fail
  go_ret2
  exact ⟨rfl, rfl⟩
theorem lengthNo_any (y m : Int) (w : World) (h : m < 1 ∨ 12 < m ∨ y < -274877906944 ∨ 274877906944 < y) :
    Calls Tryd.prog 60 #[.int .i64 y, .int .i64 m] w fun e w' => e = .returned (.tuple #[.int .i64 0, errNo]) ∧ w = w' := by
  have HH := Lib.hid h
  clear h
  go_enter Tryd.func60, Tryd.ntmps60
  go_wp2_with fail
  all_goals
    first
    | (go_ret2
       exact ⟨rfl, rfl⟩)
    | (exfalso
       have := HH.out
       omega)

end Go.Proofs.YtlogapkpllgdcaaDoor
/- Contracts: civil's year, Days, Of. -/
namespace Go.Proofs.YtlogapkpllgdcaaDoor
open Go.RowKit

theorem year_any (n Y : Int) (w : World) (h1 : bgn Y ≤ n) (h2 : n < bgn (Y + 1)) (hn1 : -70368744177664 ≤ n) (hn2 : n ≤ 70368744177664) :
    Calls Tryd.prog 57 #[.int .i64 n] w fun e w' => e = .returned (.int .i64 Y) ∧ w = w' := by
  have hbd := year_bd h1 h2 hn1 hn2
  have H1 := Lib.hid h1
  have H2 := Lib.hid h2
  clear h1 h2
  go_enter Tryd.func57, Tryd.ntmps57
  go_wp2_with fail
  refine (floor_any _ _ _ (by omega) (by omega) (by omega)).mono ?_
  rintro e w' ⟨rfl, rfl⟩
  go_wp2_with fail
  go_loop [3] (fun y => ∃ z : Int, y = .int .i64 z ∧ -549755813888 ≤ z ∧ z ≤ 549755813888) (fun y => (intOf y - Y).toNat)
  case atStart => exact ⟨_, rfl, by omega, by omega⟩
  case round =>
    obtain ⟨z, rfl, hz1, hz2⟩ := hrel
    have hb := Lib.hid (And.intro (bgn_le (a := z) (b := Y)) (bgn_le (a := Y + 1) (b := z)))
    by_cases hlt : n < bgn z
    · have hY : Y < z := by
        have := hb.out
        have := H1.out
        omega
      have hbg := begin_any z w (by omega) (by omega)
      have HBG := Lib.hid hbg
      clear hbg hb
      generalize bgn z = bz at *
      go_wp2_with fail
      refine HBG.out.mono ?_
      rintro e w' ⟨rfl, rfl⟩
      go_wp2_with fail
      go_round
      case rel => exact ⟨z - 1, rfl, by omega, by omega⟩
      case measure => simp [intOf]; omega
    · have hY : z ≤ Y := by
        have := hb.out
        have := H2.out
        omega
      have hbg := begin_any z w (by omega) (by omega)
      have HBG := Lib.hid hbg
      clear hbg hb
      generalize bgn z = bz at *
      go_wp2_with fail
      refine HBG.out.mono ?_
      rintro e w' ⟨rfl, rfl⟩
      go_wp2_with fail
      clear HBG hlt
      go_loop [3] (fun y => ∃ z : Int, y = .int .i64 z ∧ -549755813888 ≤ z ∧ z ≤ Y) (fun y => (Y - intOf y).toNat)
      case atStart => exact ⟨_, rfl, by omega, by omega⟩
      case round =>
        obtain ⟨x, rfl, hx1, hx2⟩ := hrel
        have hb := Lib.hid (And.intro (bgn_le (a := x + 1) (b := Y)) (bgn_le (a := Y + 1) (b := x + 1)))
        have hbg := begin_any (x + 1) w (by omega) (by omega)
        have HBG := Lib.hid hbg
        clear hbg
        by_cases hle : bgn (x + 1) ≤ n
        · have hY : x + 1 ≤ Y := by
            have := hb.out
            have := H2.out
            omega
          clear hb
          generalize bgn (x + 1) = bz at *
          go_wp2_with fail
          refine HBG.out.mono ?_
          rintro e w' ⟨rfl, rfl⟩
          go_wp2_with fail
          go_round
          case rel => exact ⟨x + 1, rfl, by omega, by omega⟩
          case measure => simp [intOf]; omega
        · obtain rfl : x = Y := by
            have := hb.out
            have := H1.out
            omega
          clear hb H2
          generalize bgn (x + 1) = bz at *
          go_wp2_with fail
          refine HBG.out.mono ?_
          rintro e w' ⟨rfl, rfl⟩
          go_wp2_with fail
          go_ret
          exact ⟨rfl, rfl⟩
end Go.Proofs.YtlogapkpllgdcaaDoor
/- Contract: civil's Days. -/
namespace Go.Proofs.YtlogapkpllgdcaaDoor
open Go.RowKit

theorem ret_one {k : IntKind} {a b : Int} {v : Value} (h : a = b) : Ending.returned (.tuple #[.int k a, v]) = .returned (.tuple #[.int k b, v]) := by rw [h]
/-- A date as a value. -/
def dt (y m d : Int) : Value := .agg #[.int .i64 y, .int .i64 m, .int .i64 d]
set_option maxRecDepth 100000 in
set_option maxHeartbeats 1000000 in
theorem daysOk_any (y : Int) (m : Nat) (d : Int) (w : World) (hi : Is y m d) (hy1 : -274877906944 ≤ y) (hy2 : y ≤ 274877906944) (ht : Tab w) :
    Calls Tryd.prog 62 #[dt y m d] w fun e w' => e = .returned (.tuple #[.int .i64 (nr y m d), .nilIface]) ∧ Below w.heap.size w w' := by
  have hb := bgn_bd hy1 (by omega)
  obtain ⟨hb1, hb2⟩ := hb
  have h1 := hi.m1
  have h2 := hi.m12
  have h3 := hi.d1
  have h4 := hi.dl
  have hl := mlen_le (y := y) h1 h2
  have H : Hid (bgn y + cum y (m - 1) + d - 1 = nr y m d) := rfl
  have HT := Lib.hid (ht.below ((Below.refl _ _).alloc (Nat.le_refl _) (.cells #[.int .i64 y, .int .i64 m, .int .i64 d] 55)))
  have HB := Lib.hid ((Below.refl w.heap.size w).alloc (Nat.le_refl _) (.cells #[.int .i64 y, .int .i64 m, .int .i64 d] 55))
  clear ht hi
  generalize nr y m d = r at *
  obtain ⟨k0, rfl⟩ : ∃ k, m = k + 1 := ⟨m - 1, by omega⟩
  rw [Nat.add_sub_cancel] at H
  generalize hml : mlen y (k0 + 1) = ml at *
  have HML := Lib.hid hml
  clear hml
  unfold dt
  go_enter Tryd.func62, Tryd.ntmps62
  go_wp2_with fail
  refine (lengthOk_any y (k0 + 1) _ h1 h2 hy1 hy2 HT.out).mono ?_
  rintro e w' ⟨he, rfl⟩
  rw [HML.out] at he
  subst he
  go_wp2_with fail
  refine (begin_any y _ (by omega) (by omega)).mono ?_
  rintro e w' ⟨rfl, rfl⟩
  generalize hB : bgn y = B at *
  clear hB
  go_wp2_with fail
  go_loop [6, 35] (fun n i => ∃ k : Nat, i = .int .i64 k ∧ k ≤ k0 ∧ n = .int .i64 (B + cum y k)) (fun _ i => k0 - (intOf i).toNat)
  case atStart => exact ⟨0, rfl, by omega, by simp [cum]⟩
  case round =>
    obtain ⟨k, rfl, hk, rfl⟩ := hrel
    have hcum := cum_nn y k (by omega)
    by_cases hlt : k < k0
    · have HS := Lib.hid (cum_succ y k)
      have hlk := mlen_le (y := y) (m := k + 1) (by omega) (by omega)
      generalize cum y k = c at *
      have HL := Lib.hid (length_any y (k + 1) _ (by omega) (by omega) HT.out)
      generalize hx : mlen y (k + 1) = x at *
      go_wp2_with fail
      refine HL.out.mono ?_
      rintro e w' ⟨rfl, rfl⟩
      go_wp2_with fail
      go_round
      case rel => exact ⟨k + 1, by go_num, by omega, by rw [HS.out]; go_num⟩
      case measure => simp [intOf]; omega
    · obtain rfl : k = k0 := by omega
      generalize cum y k = c at *
      go_wp2_with fail
      go_ret2
      exact ⟨ret_one H.out, HB.out⟩
set_option maxRecDepth 100000 in
set_option maxHeartbeats 1000000 in
theorem daysNoM_any (y m d : Int) (w : World) (h : m < 1 ∨ 12 < m ∨ y < -274877906944 ∨ 274877906944 < y) :
    Calls Tryd.prog 62 #[dt y m d] w fun e w' => e = .returned (.tuple #[.int .i64 0, errNo]) ∧ Below w.heap.size w w' := by
  unfold dt errNo
  have HH := Lib.hid (lengthNo_any y m (w.alloc (.cells #[.int .i64 y, .int .i64 m, .int .i64 d] 55)) h)
  clear h
  unfold errNo at HH
  have HB := Lib.hid ((Below.refl w.heap.size w).alloc (Nat.le_refl _) (.cells #[.int .i64 y, .int .i64 m, .int .i64 d] 55))
  go_enter Tryd.func62, Tryd.ntmps62
  go_wp2_with fail
  refine HH.out.mono ?_
  rintro e w' ⟨rfl, rfl⟩
  go_wp2_with fail
  go_ret2
  exact ⟨rfl, HB.out⟩
set_option maxRecDepth 100000 in
set_option maxHeartbeats 1000000 in
theorem daysNoD_any (y : Int) (m : Nat) (d : Int) (w : World) (h1 : 1 ≤ m) (h2 : m ≤ 12) (hd : d < 1 ∨ mlen y m < d) (hy1 : -274877906944 ≤ y) (hy2 : y ≤ 274877906944) (ht : Tab w) :
    Calls Tryd.prog 62 #[dt y m d] w fun e w' => e = .returned (.tuple #[.int .i64 0, errNo]) ∧ Below w.heap.size w w' := by
  unfold dt errNo
  have HT := Lib.hid (ht.below ((Below.refl _ _).alloc (Nat.le_refl _) (.cells #[.int .i64 y, .int .i64 m, .int .i64 d] 55)))
  have HB := Lib.hid ((Below.refl w.heap.size w).alloc (Nat.le_refl _) (.cells #[.int .i64 y, .int .i64 m, .int .i64 d] 55))
  clear ht
  have HL := Lib.hid (lengthOk_any y m _ h1 h2 hy1 hy2 HT.out)
  clear HT
  generalize mlen y m = ml at *
  rcases Int.lt_or_le d 1 with h | h
  · clear hd
    go_enter Tryd.func62, Tryd.ntmps62
    go_wp2_with fail
    refine HL.out.mono ?_
    rintro e w' ⟨rfl, rfl⟩
    go_wp2_with fail
    go_ret2
    exact ⟨rfl, HB.out⟩
  · have hd2 : ml < d := by omega
    clear hd
    go_enter Tryd.func62, Tryd.ntmps62
    go_wp2_with fail
    refine HL.out.mono ?_
    rintro e w' ⟨rfl, rfl⟩
    go_wp2_with fail
    go_ret2
    exact ⟨rfl, HB.out⟩
end Go.Proofs.YtlogapkpllgdcaaDoor
/- Contract: civil's Of. -/
namespace Go.Proofs.YtlogapkpllgdcaaDoor
open Go.RowKit

/-- Two results, the first of which lies in memory. -/
theorem results_cell2 {P : Program} {fn : Func} {p u : Tmp} {ty : TypeId} (h : fn.results = #[.cell p ty, .tmp u]) (tmps : Array Value) (w : World) (g : Nat) (t : TypeId) (cs : Array Value) (fr : Nat × Nat) (d : TypeDesc)
    (hp : tmps.getD p undef = .pointer (some ⟨g, 0, none⟩)) (hg : w.heap[g]? = some (.cells cs t fr))
    (hu : P.underlying ty = some d) (hd : (match d with | .struct _ | .array _ _ => true | _ => false) = true) (hi : (P.info? ty).map (·.size) = some cs.size) :
    (results fn tmps).run P w = .ok (.tuple #[.agg cs, tmps.getD u undef]) w := by
  rw [results_cell_tmp h, hp]
  simp [asAddr, run_loadVar_row w g t ty cs fr d hg hu hd hi]

set_option maxRecDepth 100000 in
set_option maxHeartbeats 1000000 in
theorem ofOk_any (y : Int) (m : Nat) (d n : Int) (w : World) (hi : Is y m d) (hn : nr y m d = n) (hn1 : -70368744177664 ≤ n) (hn2 : n ≤ 70368744177664) (ht : Tab w) :
    Calls Tryd.prog 38 #[.int .i64 n] w fun e w' => e = .returned (.tuple #[dt y m d, .nilIface]) ∧ Below w.heap.size w w' := by
  obtain ⟨hy1, hy2⟩ := nr_in hi
  rw [hn] at hy1 hy2
  have hbd := year_bd hy1 hy2 hn1 hn2
  have hbb := bgn_bd (y := y) (by omega) (by omega)
  have h1 := hi.m1
  have h2 := hi.m12
  have h3 := hi.d1
  have h4 := hi.dl
  have HT := Lib.hid (ht.below ((Below.refl _ _).alloc (Nat.le_refl _) (.cells #[.int .i64 0, .int .i64 0, .int .i64 0] 55)))
  obtain ⟨k0, rfl⟩ : ∃ k, m = k + 1 := ⟨m - 1, by omega⟩
  have H := Lib.hid (show bgn y + cum y k0 + d - 1 = n from hn)
  clear ht hi hn
  have hyr := Lib.hid (year_any n y (w.alloc (.cells #[.int .i64 0, .int .i64 0, .int .i64 0] 55)) hy1 hy2 hn1 hn2)
  have hbg := Lib.hid (begin_any y (w.alloc (.cells #[.int .i64 0, .int .i64 0, .int .i64 0] 55)) (by omega) (by omega))
  clear hy2
  generalize bgn y = B at *
  unfold dt
  go_enter Tryd.func38, Tryd.ntmps38
  go_wp2_with fail
  refine hyr.out.mono ?_
  rintro e w' ⟨rfl, rfl⟩
  go_wp2_with fail
  refine hbg.out.mono ?_
  rintro e w' ⟨rfl, rfl⟩
  go_wp2_with fail
  clear hyr hbg
  go_loop [5, 6] (fun i l => ∃ k : Nat, i = .int .i64 ((k : Int) + 1) ∧ k ≤ k0 ∧ l = .int .i64 (n - B - cum y k)) (fun i _ => k0 + 1 - (intOf i).toNat)
  case atStart => exact ⟨0, rfl, by omega, by simp [cum]⟩
  case round =>
    obtain ⟨k, rfl, hk, rfl⟩ := hrel
    have hcum := cum_nn y k (by omega)
    by_cases hlt : k < k0
    · have HS := Lib.hid (cum_succ y k)
      have hmo := cum_mono y (k := k + 1) (l := k0) (by omega) (by omega)
      have hlk := mlen_le (y := y) (m := k + 1) (by omega) (by omega)
      have hge : mlen y (k + 1) ≤ n - B - cum y k := by
        have := HS.out
        have := H.out
        omega
      clear hmo
      generalize cum y k = c at *
      have HL := Lib.hid (length_any y (k + 1) _ (by omega) (by omega) HT.out)
      generalize hx : mlen y (k + 1) = x at *
      go_wp2_with fail
      refine HL.out.mono ?_
      rintro e w' ⟨rfl, rfl⟩
      go_wp2_with fail
      refine HL.out.mono ?_
      rintro e w' ⟨rfl, rfl⟩
      go_wp2_with fail
      go_round
      case rel => exact ⟨k + 1, by go_num, by omega, by rw [HS.out]; go_num⟩
      case measure => simp [intOf]; omega
    · obtain rfl : k = k0 := by omega
      have hlk := mlen_le (y := y) (m := k + 1) (by omega) (by omega)
      have hle : n - B - cum y k < mlen y (k + 1) := by
        have := H.out
        omega
      have hd : n - B - cum y k = d - 1 := by
        have := H.out
        omega
      rw [hd] at hle ⊢
      clear hd
      have HL := Lib.hid (length_any y (k + 1) _ (by omega) (by omega) HT.out)
      generalize mlen y (k + 1) = x at *
      go_wp2_with fail
      refine HL.out.mono ?_
      rintro e w' ⟨rfl, rfl⟩
      go_wp2_with fail
      refine bodyPost_ret (results_cell2 rfl _ _ w.heap.size _ _ (0, 0) _ rfl (heap_alloc_new _ _) Tryd.underlying55 rfl (by kernel_rfl)) rfl ?_
      exact ⟨rfl, (Below.refl w.heap.size w).alloc (Nat.le_refl _) _⟩
set_option maxRecDepth 100000 in
theorem ofNo_any (n : Int) (w : World) (h : n < -70368744177664 ∨ 70368744177664 < n) :
    Calls Tryd.prog 38 #[.int .i64 n] w fun e w' => e = .returned (.tuple #[dt 0 0 0, errNo]) ∧ Below w.heap.size w w' := by
  unfold dt errNo
  rcases h with h | h
  all_goals
    go_enter Tryd.func38, Tryd.ntmps38
    go_wp2_with fail
    refine bodyPost_ret (results_cell2 rfl _ _ w.heap.size _ _ (0, 0) _ rfl (heap_alloc_new _ _) Tryd.underlying55 rfl (by kernel_rfl)) rfl ?_
    exact ⟨rfl, (Below.refl w.heap.size w).alloc (Nat.le_refl _) _⟩
/-- Every number is a date's. -/
theorem date_ex (n : Int) : ∃ (y : Int) (m : Nat) (d : Int), Is y m d ∧ nr y m d = n := by
  obtain ⟨y, h1, h2⟩ := year_ex n
  rw [bgn_succ] at h2
  have h12 := cum_12 y
  have key : ∀ k, k ≤ 12 → n - bgn y < cum y k → ∃ m, 1 ≤ m ∧ m ≤ 12 ∧ cum y (m - 1) ≤ n - bgn y ∧ n - bgn y < cum y m := by
    intro k
    induction k with
    | zero => intro _ h; simp [cum] at h; omega
    | succ k ih =>
      intro hk h
      by_cases hlt : n - bgn y < cum y k
      · exact ih (by omega) hlt
      · exact ⟨k + 1, by omega, hk, by simpa using hlt, h⟩
  obtain ⟨m, hm1, hm2, hm3, hm4⟩ := key 12 (Nat.le_refl _) (by omega)
  obtain ⟨k, rfl⟩ : ∃ k, m = k + 1 := ⟨m - 1, by omega⟩
  simp only [Nat.add_sub_cancel] at hm3
  rw [cum_succ] at hm4
  refine ⟨y, k + 1, n - bgn y - cum y k + 1, ⟨hm1, hm2, by omega, by omega⟩, ?_⟩
  unfold nr
  simp only [Nat.add_sub_cancel]
  omega
end Go.Proofs.YtlogapkpllgdcaaDoor
/- Contract of the document's Length. -/
namespace Go.Proofs.YtlogapkpllgdcaaDoor
open Go.RowKit

end Go.Proofs.YtlogapkpllgdcaaDoor
/- Contract: the document's Days. -/
namespace Go.Proofs.YtlogapkpllgdcaaDoor
open Go.RowKit

theorem cell_blk {w : World} {g : Nat} {cs : Array Value} {t : TypeId} {fr : Nat × Nat} (h : w.heap[g]? = some (.cells cs t fr)) (k : Nat) {v : Value} (hv : cs[k]? = some v) : w.cell? ⟨g, k, none⟩ = some v := by
  simp [World.cell?, h, hv]
end Go.Proofs.YtlogapkpllgdcaaDoor
/- Contract: the document's Of. -/
namespace Go.Proofs.YtlogapkpllgdcaaDoor
open Go.RowKit

theorem frz_blk {w : World} {g : Nat} {cs : Array Value} {t : TypeId} (h : w.heap[g]? = some (.cells cs t (0, 0))) (k : Nat) : w.frozen? ⟨g, k, none⟩ = false := by
  simp [World.frozen?, h]
theorem set3 {w : World} {g : Nat} {a b c x y z : Value} {t : TypeId} (h : w.heap[g]? = some (.cells #[a, b, c] t (0, 0))) : (((w.setCell ⟨g, 0, none⟩ x).setCell ⟨g, 1, none⟩ y).setCell ⟨g, 2, none⟩ z).heap[g]? = some (.cells #[x, y, z] t (0, 0)) :=
  heap_setCell_same _ g 2 _ t z (heap_setCell_same _ g 1 _ t y (heap_setCell_same w g 0 _ t x h))
theorem below_set3 {w W : World} {B g : Nat} {x y z : Value} (h : Below B w W) (hg : B ≤ g) : Below B w (((W.setCell ⟨g, 0, none⟩ x).setCell ⟨g, 1, none⟩ y).setCell ⟨g, 2, none⟩ z) :=
  ((h.setCell hg x).setCell hg y).setCell hg z
theorem nr_q (y q n r : Int) (m : Nat) (d : Int) (hi : Is y m d) (hn : nr y m d = n) (hq : n / 146097 = q) (hr : n % 146097 = r) :
    Is (y - 400 * q) m d ∧ nr (y - 400 * q) m d = r ∧ 1970 ≤ y - 400 * q ∧ y - 400 * q ≤ 2370 := by
  have e : y = (y - 400 * q) + 400 * q := by omega
  have h1 : Is (y - 400 * q) m d := ⟨hi.m1, hi.m12, hi.d1, by rw [← mlen_400 _ q, ← e]; exact hi.dl⟩
  have h2 := nr_400 (y - 400 * q) q m d
  rw [← e, hn] at h2
  have hr0 : nr (y - 400 * q) m d = r := by omega
  have hb := nr_in h1
  rw [hr0] at hb
  refine ⟨h1, hr0, ?_, ?_⟩
  · rcases Int.lt_or_le (y - 400 * q) 1970 with h | h
    · have := bgn_le (show y - 400 * q + 1 ≤ 1970 by omega)
      have := bgn_1970
      omega
    · exact h
  · rcases Int.lt_or_le 2370 (y - 400 * q) with h | h
    · have := bgn_le (show 2370 ≤ y - 400 * q by omega)
      have : bgn 2370 = 146097 := by decide
      omega
    · exact h
end Go.Proofs.YtlogapkpllgdcaaDoor
/- Contracts: the laws' give; the document's May. -/
namespace Go.Proofs.YtlogapkpllgdcaaDoor
open Go.RowKit

theorem heap_new2 (w : World) (o p : Obj) : ((w.alloc o).alloc p).heap[w.heap.size + 1]? = some p := by
  have := heap_alloc_new (w.alloc o) p
  rw [World.size_alloc] at this
  exact this
end Go.Proofs.YtlogapkpllgdcaaDoor

/- CvA, CvB, CvC, CvD, CvE, CvR, CvF, CvG, CvH, in one text. -/
import Derived.Test.YtlogapkpllgdcaaGreatDoorMa7
import Derived.Deep.QuietTactic
import Derived.BigQuiet
import Derived.Laws.Rows
import Derived.Laws.ResultCell
import Derived.Deep.RegionHeld3
/- Contracts of civil's floor, Leap, begin, length, Length, year, Weekday. -/
namespace Go.Proofs.YtlogapkpllgdcaaGreatDoor
open Go.RowKit

theorem ret_int {k : IntKind} {a b : Int} (h : a = b) : Ending.returned (.int k a) = .returned (.int k b) := by rw [h]
theorem ret_bool {a b : Bool} (h : a = b) : Ending.returned (.bool a) = .returned (.bool b) := by rw [h]
theorem ret_pair {a b c d : Int} (h : a = c) (h2 : b = d) : Ending.returned (.tuple #[.int .i64 a, .int .i64 b]) = .returned (.tuple #[.int .i64 c, .int .i64 d]) := by rw [h, h2]
theorem below_drewN (w : World) (n : Nat) : Below w.heap.size w (w.drewN n) := ⟨rfl, rfl, rfl, Nat.le_refl _, fun _ _ => rfl⟩
theorem floor_any (a b : Int) (w : World) (ha : -4611686018427387904 ≤ a) (ha2 : a ≤ 4611686018427387904) (hb : 2 ≤ b) :
    Calls Tryz.prog 96 #[.int .i64 a, .int .i64 b] w fun e w' => e = .returned (.int .i64 (a / b)) ∧ w = w' := by
  rcases Int.lt_or_le a 0 with h | h
  · obtain ⟨h1, h2, h3, h4, h5⟩ := floor_neg a b h (by omega)
    rcases Int.lt_or_le (a.tmod b) 0 with hr | hr
    · have H2 := Lib.hid (h2 hr)
      clear h2 h3
      go_enter Tryz.func96, Tryz.ntmps96
      go_wp2
      go_ret
      exact ⟨ret_int H2.out, rfl⟩
    · have H2 := Lib.hid (h3 hr)
      clear h2 h3
      go_enter Tryz.func96, Tryz.ntmps96
      go_wp2
      go_ret
      exact ⟨ret_int H2.out, rfl⟩
  · have h0 := Int.emod_nonneg a (show b ≠ 0 by omega)
    go_enter Tryz.func96, Tryz.ntmps96
    go_wp2
    go_ret
    exact ⟨rfl, rfl⟩

theorem leap_any (y : Int) (w : World) :
    Calls Tryz.prog 97 #[.int .i64 y] w fun e w' => e = .returned (.bool (leapB y)) ∧ w = w' := by
  have h4 := Lib.hid (tmod_zero y 4)
  have h100 := Lib.hid (tmod_zero y 100)
  have h400 := Lib.hid (tmod_zero y 400)
  have H := Lib.hid (leapB_iff y)
  generalize leapB y = L at *
  go_enter Tryz.func97, Tryz.ntmps97
  go_wp2
  all_goals
    go_ret
    refine ⟨ret_bool ?_, rfl⟩
    have e4 := h4.out
    have e100 := h100.out
    have e400 := h400.out
    have e := H.out
    rw [Bool.eq_iff_iff, e]
    simp only [beq_iff_eq, true_iff]
    omega
theorem refLeap_any (y : Int) (w : World) :
    Calls Tryz.prog 86 #[.int .i64 y] w fun e w' => e = .returned (.bool (leapB y)) ∧ w = w' := by
  have h4 := Lib.hid (tmod_zero y 4)
  have h100 := Lib.hid (tmod_zero y 100)
  have h400 := Lib.hid (tmod_zero y 400)
  have H := Lib.hid (leapB_iff y)
  generalize leapB y = L at *
  go_enter Tryz.func86, Tryz.ntmps86
  go_wp2
  all_goals
    go_ret
    refine ⟨ret_bool ?_, rfl⟩
    have e4 := h4.out
    have e100 := h100.out
    have e400 := h400.out
    have e := H.out
    rw [Bool.eq_iff_iff, e]
    simp only [bne_iff_ne, ne_eq, true_iff, Bool.or_eq_true, beq_iff_eq]
    omega

theorem weekday_any (n : Int) (w : World) :
    Calls Tryz.prog 69 #[.int .i64 n] w fun e w' => e = .returned (.int .i64 (wd n)) ∧ w = w' := by
  obtain ⟨h1, h2, h3, _, _⟩ := tmod7 n
  obtain ⟨r, hr⟩ : ∃ r, n.tmod 7 = r := ⟨_, rfl⟩
  rw [hr] at h1 h2 h3
  have H := Lib.hid h3
  clear h3
  generalize wd n = W at *
  go_enter Tryz.func69, Tryz.ntmps69
  go_wp2
  go_ret
  exact ⟨ret_int H.out, rfl⟩
theorem whole_any (n b : Int) (w : World) (hn : -9223372036854775808 ≤ n) (hn2 : n ≤ 9223372036854775807) (hb : 2 ≤ b) (hb2 : b ≤ 1000000) :
    Calls Tryz.prog 85 #[.int .i64 n, .int .i64 b] w fun e w' => e = .returned (.tuple #[.int .i64 (n / b), .int .i64 (n % b)]) ∧ Below w.heap.size w w' := by
  rcases Int.lt_or_le n 0 with h | h
  · obtain ⟨h1, h2, h3, h4, h5⟩ := floor_neg n b h (by omega)
    obtain ⟨g1, g2, g3⟩ := mod_neg n b h (by omega)
    have hh := floor_half n b h hb
    rcases Int.lt_or_le (n.tmod b) 0 with hr | hr
    · have H2 := Lib.hid (h2 hr)
      have G2 := Lib.hid (g2 hr)
      clear h2 h3 g2 g3
      go_enter Tryz.func85, Tryz.ntmps85
      go_wp2
      go_quiet (fail)
      go_wp2
      go_ret2
      exact ⟨ret_pair H2.out G2.out, below_drewN _ _⟩
    · have H2 := Lib.hid (h3 hr)
      have G2 := Lib.hid (g3 hr)
      clear h2 h3 g2 g3
      go_enter Tryz.func85, Tryz.ntmps85
      go_wp2
      go_quiet (fail)
      go_wp2
      go_ret2
      exact ⟨ret_pair H2.out G2.out, below_drewN _ _⟩
  · have h0 := Int.emod_nonneg n (show b ≠ 0 by omega)
    go_enter Tryz.func85, Tryz.ntmps85
    go_wp2
    go_quiet (fail)
    go_wp2
    go_ret2
    exact ⟨rfl, below_drewN _ _⟩
theorem refWeekday_any (n : Int) (w : World) (hn : -9223372036854775808 ≤ n) (hn2 : n ≤ 9223372036854775807) :
    Calls Tryz.prog 78 #[.int .i64 n] w fun e w' => e = .returned (.int .i64 (wd n)) ∧ Below w.heap.size w w' := by
  have H : Hid ((n % 7 + 4) % 7 = wd n) := by unfold Hid wd; omega
  have hb : 0 ≤ n % 7 ∧ n % 7 < 7 := by omega
  obtain ⟨hb1, hb2⟩ := hb
  go_enter Tryz.func78, Tryz.ntmps78
  go_wp2_with fail
  refine (whole_any n 7 _ hn hn2 (by omega) (by omega)).mono ?_
  rintro e w1 ⟨rfl, hb⟩
  have HB := Lib.hid hb
  clear hb
  go_wp2_with fail
  go_ret
  exact ⟨ret_int H.out, HB.out⟩
end Go.Proofs.YtlogapkpllgdcaaGreatDoor
/- Contracts of civil's length, Length, begin, year. -/
namespace Go.Proofs.YtlogapkpllgdcaaGreatDoor
open Go.RowKit

/-- civil's table is there. -/
def Tab (w : World) : Prop := ∀ i, i < 12 → w.cell? ⟨2, i, none⟩ = some (.int .i64 (mtab (i + 1)))
theorem Tab.below {w w' : World} (h : Tab w) (hb : Below w.heap.size w w') : Tab w' := fun i hi =>
  (World.cell?_of_block (a := ⟨2, i, none⟩) (hb.block _ (World.block_lt_of_cell? w _ (h i hi)))).trans (h i hi)
theorem Tab.drewN {w : World} (h : Tab w) (n : Nat) : Tab (w.drewN n) := h

theorem length_any (y : Int) (m : Nat) (w : World) (h1 : 1 ≤ m) (h2 : m ≤ 12) (ht : Tab w) :
    Calls Tryz.prog 90 #[.int .i64 y, .int .i64 m] w fun e w' => e = .returned (.int .i64 (mlen y m)) ∧ w = w' := by
  have hc := ht (m - 1) (by omega)
  rw [show m - 1 + 1 = m by omega] at hc
  clear ht
  have hm := mtab_le h1 h2
  obtain ⟨hm1, hm2⟩ := hm
  by_cases he : m = 2
  · subst he
    have hl := leap_any y w
    cases hL : leapB y with
    | true =>
      have H : Hid (mtab 2 + 1 = mlen y 2) := by unfold Hid mlen; rw [if_pos rfl, leapN_true hL]
      rw [hL] at hl
      generalize mtab 2 = t at *
      generalize mlen y 2 = r at *
      have HL := Lib.hid hl
      clear hl hL
      go_enter Tryz.func90, Tryz.ntmps90
      go_wp2_with fail
      refine HL.out.mono ?_
      rintro e w' ⟨rfl, rfl⟩
      go_wp2_with fail
      go_ret
      exact ⟨ret_int H.out, rfl⟩
    | false =>
      have H : Hid (mtab 2 = mlen y 2) := by unfold Hid mlen; rw [if_pos rfl, leapN_false hL]; omega
      rw [hL] at hl
      generalize mtab 2 = t at *
      generalize mlen y 2 = r at *
      have HL := Lib.hid hl
      clear hl hL
      go_enter Tryz.func90, Tryz.ntmps90
      go_wp2_with fail
      refine HL.out.mono ?_
      rintro e w' ⟨rfl, rfl⟩
      go_wp2_with fail
      go_ret
      exact ⟨ret_int H.out, rfl⟩
  · have H : Hid (mtab m = mlen y m) := by unfold Hid mlen; rw [if_neg he]; omega
    generalize mtab m = t at *
    generalize mlen y m = r at *
    have hne : ((m : Int) == 2) = false := beq_eq_false_iff_ne.2 (by omega)
    go_enter Tryz.func90, Tryz.ntmps90
    go_wp2
    go_ret
    exact ⟨ret_int H.out, rfl⟩
theorem begin_any (y : Int) (w : World) (h1 : -1099511627776 ≤ y) (h2 : y ≤ 1099511627776) :
    Calls Tryz.prog 89 #[.int .i64 y] w fun e w' => e = .returned (.int .i64 (bgn y)) ∧ w = w' := by
  have H : Hid ((y - 1) * 365 + ((y - 1) / 4 - (y - 1) / 100 + (y - 1) / 400) - 719162 = bgn y) := rfl
  generalize bgn y = r at *
  go_enter Tryz.func89, Tryz.ntmps89
  go_wp2_with fail
  refine (floor_any _ _ _ (by omega) (by omega) (by omega)).mono ?_
  rintro e w' ⟨rfl, rfl⟩
  go_wp2_with fail
  refine (floor_any _ _ _ (by omega) (by omega) (by omega)).mono ?_
  rintro e w' ⟨rfl, rfl⟩
  go_wp2_with fail
  refine (floor_any _ _ _ (by omega) (by omega) (by omega)).mono ?_
  rintro e w' ⟨rfl, rfl⟩
  go_wp2_with fail
  go_ret
  exact ⟨ret_int H.out, rfl⟩
def errNo : Value := .iface 81 (.int .i64 1)
theorem lengthOk_any (y : Int) (m : Nat) (w : World) (h1 : 1 ≤ m) (h2 : m ≤ 12) (hy1 : -274877906944 ≤ y) (hy2 : y ≤ 274877906944) (ht : Tab w) :
    Calls Tryz.prog 91 #[.int .i64 y, .int .i64 m] w fun e w' => e = .returned (.tuple #[.int .i64 (mlen y m), .nilIface]) ∧ w = w' := by
  have HT := Lib.hid ht
  clear ht
  go_enter Tryz.func91, Tryz.ntmps91
  go_wp2_with fail
  refine (length_any y m _ h1 h2 HT.out).mono ?_
  rintro e w' ⟨rfl, rfl⟩
  go_wp2_with fail
  go_ret2
  exact ⟨rfl, rfl⟩
theorem lengthNo_any (y m : Int) (w : World) (h : m < 1 ∨ 12 < m ∨ y < -274877906944 ∨ 274877906944 < y) :
    Calls Tryz.prog 91 #[.int .i64 y, .int .i64 m] w fun e w' => e = .returned (.tuple #[.int .i64 0, errNo]) ∧ w = w' := by
  have HH := Lib.hid h
  clear h
  go_enter Tryz.func91, Tryz.ntmps91
  go_wp2_with fail
  all_goals
    first
    | (go_ret2
       exact ⟨rfl, rfl⟩)
    | (exfalso
       have := HH.out
       omega)

end Go.Proofs.YtlogapkpllgdcaaGreatDoor
/- Contracts: civil's year, Days, Of. -/
namespace Go.Proofs.YtlogapkpllgdcaaGreatDoor
open Go.RowKit

theorem year_any (n Y : Int) (w : World) (h1 : bgn Y ≤ n) (h2 : n < bgn (Y + 1)) (hn1 : -70368744177664 ≤ n) (hn2 : n ≤ 70368744177664) :
    Calls Tryz.prog 88 #[.int .i64 n] w fun e w' => e = .returned (.int .i64 Y) ∧ w = w' := by
  have hbd := year_bd h1 h2 hn1 hn2
  have H1 := Lib.hid h1
  have H2 := Lib.hid h2
  clear h1 h2
  go_enter Tryz.func88, Tryz.ntmps88
  go_wp2_with fail
  refine (floor_any _ _ _ (by omega) (by omega) (by omega)).mono ?_
  rintro e w' ⟨rfl, rfl⟩
  go_wp2_with fail
  go_loop [3] (fun y => ∃ z : Int, y = .int .i64 z ∧ -549755813888 ≤ z ∧ z ≤ 549755813888) (fun y => (intOf y - Y).toNat)
  case atStart => exact ⟨_, rfl, by omega, by omega⟩
  case round =>
    obtain ⟨z, rfl, hz1, hz2⟩ := hrel
    have hb := Lib.hid (And.intro (bgn_le (a := z) (b := Y)) (bgn_le (a := Y + 1) (b := z)))
    by_cases hlt : n < bgn z
    · have hY : Y < z := by
        have := hb.out
        have := H1.out
        omega
      have hbg := begin_any z w (by omega) (by omega)
      have HBG := Lib.hid hbg
      clear hbg hb
      generalize bgn z = bz at *
      go_wp2_with fail
      refine HBG.out.mono ?_
      rintro e w' ⟨rfl, rfl⟩
      go_wp2_with fail
      go_round
      case rel => exact ⟨z - 1, rfl, by omega, by omega⟩
      case measure => simp [intOf]; omega
    · have hY : z ≤ Y := by
        have := hb.out
        have := H2.out
        omega
      have hbg := begin_any z w (by omega) (by omega)
      have HBG := Lib.hid hbg
      clear hbg hb
      generalize bgn z = bz at *
      go_wp2_with fail
      refine HBG.out.mono ?_
      rintro e w' ⟨rfl, rfl⟩
      go_wp2_with fail
      clear HBG hlt
      go_loop [3] (fun y => ∃ z : Int, y = .int .i64 z ∧ -549755813888 ≤ z ∧ z ≤ Y) (fun y => (Y - intOf y).toNat)
      case atStart => exact ⟨_, rfl, by omega, by omega⟩
      case round =>
        obtain ⟨x, rfl, hx1, hx2⟩ := hrel
        have hb := Lib.hid (And.intro (bgn_le (a := x + 1) (b := Y)) (bgn_le (a := Y + 1) (b := x + 1)))
        have hbg := begin_any (x + 1) w (by omega) (by omega)
        have HBG := Lib.hid hbg
        clear hbg
        by_cases hle : bgn (x + 1) ≤ n
        · have hY : x + 1 ≤ Y := by
            have := hb.out
            have := H2.out
            omega
          clear hb
          generalize bgn (x + 1) = bz at *
          go_wp2_with fail
          refine HBG.out.mono ?_
          rintro e w' ⟨rfl, rfl⟩
          go_wp2_with fail
          go_round
          case rel => exact ⟨x + 1, rfl, by omega, by omega⟩
          case measure => simp [intOf]; omega
        · obtain rfl : x = Y := by
            have := hb.out
            have := H1.out
            omega
          clear hb H2
          generalize bgn (x + 1) = bz at *
          go_wp2_with fail
          refine HBG.out.mono ?_
          rintro e w' ⟨rfl, rfl⟩
          go_wp2_with fail
          go_ret
          exact ⟨rfl, rfl⟩
end Go.Proofs.YtlogapkpllgdcaaGreatDoor
/- Contract: civil's Days. -/
namespace Go.Proofs.YtlogapkpllgdcaaGreatDoor
open Go.RowKit

theorem ret_one {k : IntKind} {a b : Int} {v : Value} (h : a = b) : Ending.returned (.tuple #[.int k a, v]) = .returned (.tuple #[.int k b, v]) := by rw [h]
/-- A date as a value. -/
def dt (y m d : Int) : Value := .agg #[.int .i64 y, .int .i64 m, .int .i64 d]
set_option maxRecDepth 100000 in
set_option maxHeartbeats 1000000 in
theorem daysOk_any (y : Int) (m : Nat) (d : Int) (w : World) (hi : Is y m d) (hy1 : -274877906944 ≤ y) (hy2 : y ≤ 274877906944) (ht : Tab w) :
    Calls Tryz.prog 93 #[dt y m d] w fun e w' => e = .returned (.tuple #[.int .i64 (nr y m d), .nilIface]) ∧ Below w.heap.size w w' := by
  have hb := bgn_bd hy1 (by omega)
  obtain ⟨hb1, hb2⟩ := hb
  have h1 := hi.m1
  have h2 := hi.m12
  have h3 := hi.d1
  have h4 := hi.dl
  have hl := mlen_le (y := y) h1 h2
  have H : Hid (bgn y + cum y (m - 1) + d - 1 = nr y m d) := rfl
  have HT := Lib.hid (ht.below ((Below.refl _ _).alloc (Nat.le_refl _) (.cells #[.int .i64 y, .int .i64 m, .int .i64 d] 64)))
  have HB := Lib.hid ((Below.refl w.heap.size w).alloc (Nat.le_refl _) (.cells #[.int .i64 y, .int .i64 m, .int .i64 d] 64))
  clear ht hi
  generalize nr y m d = r at *
  obtain ⟨k0, rfl⟩ : ∃ k, m = k + 1 := ⟨m - 1, by omega⟩
  rw [Nat.add_sub_cancel] at H
  generalize hml : mlen y (k0 + 1) = ml at *
  have HML := Lib.hid hml
  clear hml
  unfold dt
  go_enter Tryz.func93, Tryz.ntmps93
  go_wp2_with fail
  refine (lengthOk_any y (k0 + 1) _ h1 h2 hy1 hy2 HT.out).mono ?_
  rintro e w' ⟨he, rfl⟩
  rw [HML.out] at he
  subst he
  go_wp2_with fail
  refine (begin_any y _ (by omega) (by omega)).mono ?_
  rintro e w' ⟨rfl, rfl⟩
  generalize hB : bgn y = B at *
  clear hB
  go_wp2_with fail
  go_loop [6, 35] (fun n i => ∃ k : Nat, i = .int .i64 k ∧ k ≤ k0 ∧ n = .int .i64 (B + cum y k)) (fun _ i => k0 - (intOf i).toNat)
  case atStart => exact ⟨0, rfl, by omega, by simp [cum]⟩
  case round =>
    obtain ⟨k, rfl, hk, rfl⟩ := hrel
    have hcum := cum_nn y k (by omega)
    by_cases hlt : k < k0
    · have HS := Lib.hid (cum_succ y k)
      have hlk := mlen_le (y := y) (m := k + 1) (by omega) (by omega)
      generalize cum y k = c at *
      have HL := Lib.hid (length_any y (k + 1) _ (by omega) (by omega) HT.out)
      generalize hx : mlen y (k + 1) = x at *
      go_wp2_with fail
      refine HL.out.mono ?_
      rintro e w' ⟨rfl, rfl⟩
      go_wp2_with fail
      go_round
      case rel => exact ⟨k + 1, by go_num, by omega, by rw [HS.out]; go_num⟩
      case measure => simp [intOf]; omega
    · obtain rfl : k = k0 := by omega
      generalize cum y k = c at *
      go_wp2_with fail
      go_ret2
      exact ⟨ret_one H.out, HB.out⟩
set_option maxRecDepth 100000 in
set_option maxHeartbeats 1000000 in
theorem daysNoM_any (y m d : Int) (w : World) (h : m < 1 ∨ 12 < m ∨ y < -274877906944 ∨ 274877906944 < y) :
    Calls Tryz.prog 93 #[dt y m d] w fun e w' => e = .returned (.tuple #[.int .i64 0, errNo]) ∧ Below w.heap.size w w' := by
  unfold dt errNo
  have HH := Lib.hid (lengthNo_any y m (w.alloc (.cells #[.int .i64 y, .int .i64 m, .int .i64 d] 64)) h)
  clear h
  unfold errNo at HH
  have HB := Lib.hid ((Below.refl w.heap.size w).alloc (Nat.le_refl _) (.cells #[.int .i64 y, .int .i64 m, .int .i64 d] 64))
  go_enter Tryz.func93, Tryz.ntmps93
  go_wp2_with fail
  refine HH.out.mono ?_
  rintro e w' ⟨rfl, rfl⟩
  go_wp2_with fail
  go_ret2
  exact ⟨rfl, HB.out⟩
set_option maxRecDepth 100000 in
set_option maxHeartbeats 1000000 in
theorem daysNoD_any (y : Int) (m : Nat) (d : Int) (w : World) (h1 : 1 ≤ m) (h2 : m ≤ 12) (hd : d < 1 ∨ mlen y m < d) (hy1 : -274877906944 ≤ y) (hy2 : y ≤ 274877906944) (ht : Tab w) :
    Calls Tryz.prog 93 #[dt y m d] w fun e w' => e = .returned (.tuple #[.int .i64 0, errNo]) ∧ Below w.heap.size w w' := by
  unfold dt errNo
  have HT := Lib.hid (ht.below ((Below.refl _ _).alloc (Nat.le_refl _) (.cells #[.int .i64 y, .int .i64 m, .int .i64 d] 64)))
  have HB := Lib.hid ((Below.refl w.heap.size w).alloc (Nat.le_refl _) (.cells #[.int .i64 y, .int .i64 m, .int .i64 d] 64))
  clear ht
  have HL := Lib.hid (lengthOk_any y m _ h1 h2 hy1 hy2 HT.out)
  clear HT
  generalize mlen y m = ml at *
  rcases Int.lt_or_le d 1 with h | h
  · clear hd
    go_enter Tryz.func93, Tryz.ntmps93
    go_wp2_with fail
    refine HL.out.mono ?_
    rintro e w' ⟨rfl, rfl⟩
    go_wp2_with fail
    go_ret2
    exact ⟨rfl, HB.out⟩
  · have hd2 : ml < d := by omega
    clear hd
    go_enter Tryz.func93, Tryz.ntmps93
    go_wp2_with fail
    refine HL.out.mono ?_
    rintro e w' ⟨rfl, rfl⟩
    go_wp2_with fail
    go_ret2
    exact ⟨rfl, HB.out⟩
end Go.Proofs.YtlogapkpllgdcaaGreatDoor
/- Contract: civil's Of. -/
namespace Go.Proofs.YtlogapkpllgdcaaGreatDoor
open Go.RowKit

/-- Two results, the first of which lies in memory. -/
theorem results_cell2 {P : Program} {fn : Func} {p u : Tmp} {ty : TypeId} (h : fn.results = #[.cell p ty, .tmp u]) (tmps : Array Value) (w : World) (g : Nat) (t : TypeId) (cs : Array Value) (fr : Nat × Nat) (d : TypeDesc)
    (hp : tmps.getD p undef = .pointer (some ⟨g, 0, none⟩)) (hg : w.heap[g]? = some (.cells cs t fr))
    (hu : P.underlying ty = some d) (hd : (match d with | .struct _ | .array _ _ => true | _ => false) = true) (hi : (P.info? ty).map (·.size) = some cs.size) :
    (results fn tmps).run P w = .ok (.tuple #[.agg cs, tmps.getD u undef]) w := by
  rw [results_cell_tmp h, hp]
  simp [asAddr, run_loadVar_row w g t ty cs fr d hg hu hd hi]

set_option maxRecDepth 100000 in
set_option maxHeartbeats 1000000 in
theorem ofOk_any (y : Int) (m : Nat) (d n : Int) (w : World) (hi : Is y m d) (hn : nr y m d = n) (hn1 : -70368744177664 ≤ n) (hn2 : n ≤ 70368744177664) (ht : Tab w) :
    Calls Tryz.prog 68 #[.int .i64 n] w fun e w' => e = .returned (.tuple #[dt y m d, .nilIface]) ∧ Below w.heap.size w w' := by
  obtain ⟨hy1, hy2⟩ := nr_in hi
  rw [hn] at hy1 hy2
  have hbd := year_bd hy1 hy2 hn1 hn2
  have hbb := bgn_bd (y := y) (by omega) (by omega)
  have h1 := hi.m1
  have h2 := hi.m12
  have h3 := hi.d1
  have h4 := hi.dl
  have HT := Lib.hid (ht.below ((Below.refl _ _).alloc (Nat.le_refl _) (.cells #[.int .i64 0, .int .i64 0, .int .i64 0] 64)))
  obtain ⟨k0, rfl⟩ : ∃ k, m = k + 1 := ⟨m - 1, by omega⟩
  have H := Lib.hid (show bgn y + cum y k0 + d - 1 = n from hn)
  clear ht hi hn
  have hyr := Lib.hid (year_any n y (w.alloc (.cells #[.int .i64 0, .int .i64 0, .int .i64 0] 64)) hy1 hy2 hn1 hn2)
  have hbg := Lib.hid (begin_any y (w.alloc (.cells #[.int .i64 0, .int .i64 0, .int .i64 0] 64)) (by omega) (by omega))
  clear hy2
  generalize bgn y = B at *
  unfold dt
  go_enter Tryz.func68, Tryz.ntmps68
  go_wp2_with fail
  refine hyr.out.mono ?_
  rintro e w' ⟨rfl, rfl⟩
  go_wp2_with fail
  refine hbg.out.mono ?_
  rintro e w' ⟨rfl, rfl⟩
  go_wp2_with fail
  clear hyr hbg
  go_loop [5, 6] (fun i l => ∃ k : Nat, i = .int .i64 ((k : Int) + 1) ∧ k ≤ k0 ∧ l = .int .i64 (n - B - cum y k)) (fun i _ => k0 + 1 - (intOf i).toNat)
  case atStart => exact ⟨0, rfl, by omega, by simp [cum]⟩
  case round =>
    obtain ⟨k, rfl, hk, rfl⟩ := hrel
    have hcum := cum_nn y k (by omega)
    by_cases hlt : k < k0
    · have HS := Lib.hid (cum_succ y k)
      have hmo := cum_mono y (k := k + 1) (l := k0) (by omega) (by omega)
      have hlk := mlen_le (y := y) (m := k + 1) (by omega) (by omega)
      have hge : mlen y (k + 1) ≤ n - B - cum y k := by
        have := HS.out
        have := H.out
        omega
      clear hmo
      generalize cum y k = c at *
      have HL := Lib.hid (length_any y (k + 1) _ (by omega) (by omega) HT.out)
      generalize hx : mlen y (k + 1) = x at *
      go_wp2_with fail
      refine HL.out.mono ?_
      rintro e w' ⟨rfl, rfl⟩
      go_wp2_with fail
      refine HL.out.mono ?_
      rintro e w' ⟨rfl, rfl⟩
      go_wp2_with fail
      go_round
      case rel => exact ⟨k + 1, by go_num, by omega, by rw [HS.out]; go_num⟩
      case measure => simp [intOf]; omega
    · obtain rfl : k = k0 := by omega
      have hlk := mlen_le (y := y) (m := k + 1) (by omega) (by omega)
      have hle : n - B - cum y k < mlen y (k + 1) := by
        have := H.out
        omega
      have hd : n - B - cum y k = d - 1 := by
        have := H.out
        omega
      rw [hd] at hle ⊢
      clear hd
      have HL := Lib.hid (length_any y (k + 1) _ (by omega) (by omega) HT.out)
      generalize mlen y (k + 1) = x at *
      go_wp2_with fail
      refine HL.out.mono ?_
      rintro e w' ⟨rfl, rfl⟩
      go_wp2_with fail
      refine bodyPost_ret (results_cell2 rfl _ _ w.heap.size _ _ (0, 0) _ rfl (heap_alloc_new _ _) Tryz.underlying64 rfl (by kernel_rfl)) rfl ?_
      exact ⟨rfl, (Below.refl w.heap.size w).alloc (Nat.le_refl _) _⟩
set_option maxRecDepth 100000 in
theorem ofNo_any (n : Int) (w : World) (h : n < -70368744177664 ∨ 70368744177664 < n) :
    Calls Tryz.prog 68 #[.int .i64 n] w fun e w' => e = .returned (.tuple #[dt 0 0 0, errNo]) ∧ Below w.heap.size w w' := by
  unfold dt errNo
  rcases h with h | h
  all_goals
    go_enter Tryz.func68, Tryz.ntmps68
    go_wp2_with fail
    refine bodyPost_ret (results_cell2 rfl _ _ w.heap.size _ _ (0, 0) _ rfl (heap_alloc_new _ _) Tryz.underlying64 rfl (by kernel_rfl)) rfl ?_
    exact ⟨rfl, (Below.refl w.heap.size w).alloc (Nat.le_refl _) _⟩
/-- Every number is a date's. -/
theorem date_ex (n : Int) : ∃ (y : Int) (m : Nat) (d : Int), Is y m d ∧ nr y m d = n := by
  obtain ⟨y, h1, h2⟩ := year_ex n
  rw [bgn_succ] at h2
  have h12 := cum_12 y
  have key : ∀ k, k ≤ 12 → n - bgn y < cum y k → ∃ m, 1 ≤ m ∧ m ≤ 12 ∧ cum y (m - 1) ≤ n - bgn y ∧ n - bgn y < cum y m := by
    intro k
    induction k with
    | zero => intro _ h; simp [cum] at h; omega
    | succ k ih =>
      intro hk h
      by_cases hlt : n - bgn y < cum y k
      · exact ih (by omega) hlt
      · exact ⟨k + 1, by omega, hk, by simpa using hlt, h⟩
  obtain ⟨m, hm1, hm2, hm3, hm4⟩ := key 12 (Nat.le_refl _) (by omega)
  obtain ⟨k, rfl⟩ : ∃ k, m = k + 1 := ⟨m - 1, by omega⟩
  simp only [Nat.add_sub_cancel] at hm3
  rw [cum_succ] at hm4
  refine ⟨y, k + 1, n - bgn y - cum y k + 1, ⟨hm1, hm2, by omega, by omega⟩, ?_⟩
  unfold nr
  simp only [Nat.add_sub_cancel]
  omega
end Go.Proofs.YtlogapkpllgdcaaGreatDoor
/- Contract of the document's Length. -/
namespace Go.Proofs.YtlogapkpllgdcaaGreatDoor
open Go.RowKit

set_option maxHeartbeats 2000000 in
theorem refLength_any (y : Int) (m : Nat) (w : World) (h1 : 1 ≤ m) (h2 : m ≤ 12) :
    Calls Tryz.prog 79 #[.int .i64 y, .int .i64 m] w fun e w' => e = .returned (.int .i64 (mlen y m)) ∧ Below w.heap.size w w' := by
  by_cases he : m = 2
  · subst he
    have hl := refLeap_any y w
    cases hL : leapB y with
    | true =>
      have H : Hid (29 = mlen y 2) := by unfold Hid mlen mtab; rw [if_pos rfl, leapN_true hL]; rfl
      rw [hL] at hl
      generalize mlen y 2 = r at *
      have HL := Lib.hid hl
      clear hl hL
      go_enter Tryz.func79, Tryz.ntmps79
      go_wp2_with fail
      refine HL.out.mono ?_
      rintro e w' ⟨rfl, rfl⟩
      go_wp2_with fail
      go_ret
      exact ⟨ret_int H.out, Below.refl _ _⟩
    | false =>
      have H : Hid (28 = mlen y 2) := by unfold Hid mlen mtab; rw [if_pos rfl, leapN_false hL]; rfl
      rw [hL] at hl
      generalize mlen y 2 = r at *
      have HL := Lib.hid hl
      clear hl hL
      go_enter Tryz.func79, Tryz.ntmps79
      go_wp2_with fail
      refine HL.out.mono ?_
      rintro e w' ⟨rfl, rfl⟩
      go_wp2_with fail
      go_ret
      exact ⟨ret_int H.out, (Below.refl _ _).alloc (Nat.le_refl _) _⟩
  · rcases (by omega : m = 1 ∨ m = 3 ∨ m = 4 ∨ m = 5 ∨ m = 6 ∨ m = 7 ∨ m = 8 ∨ m = 9 ∨ m = 10 ∨ m = 11 ∨ m = 12) with h | h | h | h | h | h | h | h | h | h | h
    all_goals
      have H := Lib.hid (show mtab m = mlen y m by unfold mlen; rw [if_neg he]; omega)
      subst h
      clear he h1 h2
      go_enter Tryz.func79, Tryz.ntmps79
      go_wp2
      go_ret
      exact ⟨ret_int H.out, (Below.refl _ _).alloc (Nat.le_refl _) _⟩
end Go.Proofs.YtlogapkpllgdcaaGreatDoor
/- Contract: the document's Days. -/
namespace Go.Proofs.YtlogapkpllgdcaaGreatDoor
open Go.RowKit

theorem cell_blk {w : World} {g : Nat} {cs : Array Value} {t : TypeId} {fr : Nat × Nat} (h : w.heap[g]? = some (.cells cs t fr)) (k : Nat) {v : Value} (hv : cs[k]? = some v) : w.cell? ⟨g, k, none⟩ = some v := by
  simp [World.cell?, h, hv]
set_option maxRecDepth 100000 in
set_option maxHeartbeats 2000000 in
theorem refDays_any (y : Int) (m : Nat) (d : Int) (w : World) (hi : Is y m d) (hy1 : -274877906944 ≤ y) (hy2 : y ≤ 274877906944) :
    Calls Tryz.prog 61 #[dt y m d] w fun e w' => e = .returned (.int .i64 (nr y m d)) ∧ Below w.heap.size w w' := by
  have h1 := hi.m1
  have h2 := hi.m12
  have h3 := hi.d1
  have h4 := hi.dl
  have hl := mlen_le (y := y) h1 h2
  have hW := Lib.hid (whole_any (y - 1970) 400 (w.alloc (.cells #[.int .i64 y, .int .i64 m, .int .i64 d] 59)) (by omega) (by omega) (by omega) (by omega))
  obtain ⟨q, hq⟩ : ∃ q, (y - 1970) / 400 = q := ⟨_, rfl⟩
  obtain ⟨R, hR⟩ : ∃ R : Nat, (y - 1970) % 400 = R := ⟨((y - 1970) % 400).toNat, by omega⟩
  have hR4 : R < 400 := by omega
  have hyq : y = 1970 + R + 400 * q := by omega
  have hq1 : -1000000000 ≤ q := by omega
  have hq2 : q ≤ 1000000000 := by omega
  rw [hq, hR] at hW
  obtain ⟨k0, rfl⟩ : ∃ k, m = k + 1 := ⟨m - 1, by omega⟩
  have H : Hid (146097 * q + bgn (1970 + R) + cum (1970 + R) k0 + d - 1 = nr y (k0 + 1) d) := by
    unfold Hid nr
    rw [hyq, bgn_400, cum_400, Nat.add_sub_cancel]
    omega
  generalize nr y (k0 + 1) d = res at *
  have hml : d ≤ 31 := by omega
  clear h4 hl hi hyq hq hR
  unfold dt
  go_enter Tryz.func61, Tryz.ntmps61
  go_wp2_with fail
  refine hW.out.mono ?_
  rintro e w1 ⟨rfl, hb1⟩
  have g1 : w1.heap[w.heap.size]? = _ := (hb1.block w.heap.size (by simp)).trans (heap_alloc_new _ _)
  have HB1 := Lib.hid (((Below.refl w.heap.size w).alloc (Nat.le_refl _) (.cells #[.int .i64 y, .int .i64 ((k0 + 1 : Nat) : Int), .int .i64 d] 59)).trans (hb1.mono (by simp)))
  have G1 := Lib.hid g1
  clear hW hb1 g1
  go_wp2_with fail
  go_loop [5, 6] (fun n i => ∃ k : Nat, i = .int .i64 (1970 + k) ∧ k ≤ R ∧ n = .int .i64 (146097 * q + bgn (1970 + k))) (fun _ i => R + 1970 - (intOf i).toNat)
  case atStart => exact ⟨0, rfl, by omega, by simp [bgn_1970]⟩
  case round =>
    obtain ⟨k, rfl, hk, rfl⟩ := hrel
    have hb0 := bgn_hi (y := 1970 + k) (by omega)
    have hb00 := bgn_nat 1970 k
    rw [bgn_1970] at hb00
    by_cases hlt : k < R
    · have HS := Lib.hid (bgn_succ (1970 + k))
      have hl := refLeap_any (1970 + k) w1
      cases hL : leapB (1970 + k) with
      | true =>
        rw [leapN_true hL] at HS
        rw [hL] at hl
        have HL := Lib.hid hl
        clear hl hL
        generalize bgn (1970 + k) = b at *
        go_wp2_with fail
        refine HL.out.mono ?_
        rintro e w' ⟨rfl, rfl⟩
        go_wp2_with fail
        go_round
        case rel => exact ⟨k + 1, by go_num, by omega, by rw [show (1970 : Int) + ((k + 1 : Nat) : Int) = 1970 + k + 1 by omega, HS.out]; go_num⟩
        case measure => simp [intOf]; omega
      | false =>
        rw [leapN_false hL] at HS
        rw [hL] at hl
        have HL := Lib.hid hl
        clear hl hL
        generalize bgn (1970 + k) = b at *
        go_wp2_with fail
        refine HL.out.mono ?_
        rintro e w' ⟨rfl, rfl⟩
        go_wp2_with fail
        go_round
        case rel => exact ⟨k + 1, by go_num, by omega, by rw [show (1970 : Int) + ((k + 1 : Nat) : Int) = 1970 + k + 1 by omega, HS.out]; go_num⟩
        case measure => simp [intOf]; omega
    · obtain rfl : k = R := by omega
      generalize bgn (1970 + k) = b at *
      go_wp2_with fail
      obtain ⟨C, hC⟩ : ∃ C, 146097 * q + b = C := ⟨_, rfl⟩
      rw [hC] at H ⊢
      have hC1 : -200000000000000 ≤ C := by omega
      have hC2 : C ≤ 200000000000000 := by omega
      clear hC hb0 hb00 hlt hk
      go_loopw [5, 7] (fun n i wr => ∃ j : Nat, i = .int .i64 ((j : Int) + 1) ∧ j ≤ k0 ∧ n = .int .i64 (C + cum (1970 + k) j) ∧ Below w.heap.size w wr ∧ wr.heap[w.heap.size]? = some (.cells #[.int .i64 y, .int .i64 ((k0 + 1 : Nat) : Int), .int .i64 d] 59 (0, 0))) (fun _ i _ => k0 + 1 - (intOf i).toNat)
      case atStart => exact ⟨0, rfl, by omega, by simp [cum], HB1.out, G1.out⟩
      case round =>
        obtain ⟨j, rfl, hj, rfl, hb, hg⟩ := hrel
        clear HB1 G1
        have hcum := cum_nn (1970 + k) j (by omega)
        have c1 := cell_blk hg 1 (v := .int .i64 ((k0 : Int) + 1)) rfl
        have c2 := cell_blk hg 2 (v := .int .i64 d) rfl
        have hlt0 := (Array.getElem?_eq_some_iff.1 hg).1
        have HG := Lib.hid hg
        have HB := Lib.hid hb
        clear hg hb
        by_cases hlt : j < k0
        · have HS := Lib.hid (cum_succ (1970 + k) j)
          have hlk := mlen_le (y := 1970 + k) (m := j + 1) (by omega) (by omega)
          have HL := Lib.hid (refLength_any (1970 + k) (j + 1) wr (by omega) (by omega))
          generalize cum (1970 + k) j = c at *
          generalize mlen (1970 + k) (j + 1) = x at *
          go_wp2_with fail
          refine HL.out.mono ?_
          rintro e w2 ⟨rfl, hb2⟩
          have HB2 := Lib.hid (HB.out.trans (hb2.mono HB.out.size))
          have HG2 := Lib.hid ((hb2.block _ hlt0).trans HG.out)
          clear hb2 c1 c2
          go_wp2_with fail
          go_roundw
          case rel => exact ⟨j + 1, by go_num, by omega, by rw [HS.out]; go_num, HB2.out, HG2.out⟩
          case measure => simp [intOf]; omega
        · obtain rfl : j = k0 := by omega
          generalize cum (1970 + k) j = c at *
          go_wp2_with fail
          go_ret
          exact ⟨ret_int H.out, HB.out⟩
end Go.Proofs.YtlogapkpllgdcaaGreatDoor
/- Contract: the document's Of. -/
namespace Go.Proofs.YtlogapkpllgdcaaGreatDoor
open Go.RowKit

theorem frz_blk {w : World} {g : Nat} {cs : Array Value} {t : TypeId} (h : w.heap[g]? = some (.cells cs t (0, 0))) (k : Nat) : w.frozen? ⟨g, k, none⟩ = false := by
  simp [World.frozen?, h]
theorem set3 {w : World} {g : Nat} {a b c x y z : Value} {t : TypeId} (h : w.heap[g]? = some (.cells #[a, b, c] t (0, 0))) : (((w.setCell ⟨g, 0, none⟩ x).setCell ⟨g, 1, none⟩ y).setCell ⟨g, 2, none⟩ z).heap[g]? = some (.cells #[x, y, z] t (0, 0)) :=
  heap_setCell_same _ g 2 _ t z (heap_setCell_same _ g 1 _ t y (heap_setCell_same w g 0 _ t x h))
theorem below_set3 {w W : World} {B g : Nat} {x y z : Value} (h : Below B w W) (hg : B ≤ g) : Below B w (((W.setCell ⟨g, 0, none⟩ x).setCell ⟨g, 1, none⟩ y).setCell ⟨g, 2, none⟩ z) :=
  ((h.setCell hg x).setCell hg y).setCell hg z
theorem nr_q (y q n r : Int) (m : Nat) (d : Int) (hi : Is y m d) (hn : nr y m d = n) (hq : n / 146097 = q) (hr : n % 146097 = r) :
    Is (y - 400 * q) m d ∧ nr (y - 400 * q) m d = r ∧ 1970 ≤ y - 400 * q ∧ y - 400 * q ≤ 2370 := by
  have e : y = (y - 400 * q) + 400 * q := by omega
  have h1 : Is (y - 400 * q) m d := ⟨hi.m1, hi.m12, hi.d1, by rw [← mlen_400 _ q, ← e]; exact hi.dl⟩
  have h2 := nr_400 (y - 400 * q) q m d
  rw [← e, hn] at h2
  have hr0 : nr (y - 400 * q) m d = r := by omega
  have hb := nr_in h1
  rw [hr0] at hb
  refine ⟨h1, hr0, ?_, ?_⟩
  · rcases Int.lt_or_le (y - 400 * q) 1970 with h | h
    · have := bgn_le (show y - 400 * q + 1 ≤ 1970 by omega)
      have := bgn_1970
      omega
    · exact h
  · rcases Int.lt_or_le 2370 (y - 400 * q) with h | h
    · have := bgn_le (show 2370 ≤ y - 400 * q by omega)
      have : bgn 2370 = 146097 := by decide
      omega
    · exact h
set_option maxRecDepth 100000 in
set_option maxHeartbeats 2000000 in
theorem refOf_any (y : Int) (m : Nat) (d n : Int) (w : World) (hi : Is y m d) (hn : nr y m d = n) (hn1 : -70368744177664 ≤ n) (hn2 : n ≤ 70368744177664) :
    Calls Tryz.prog 77 #[.int .i64 n] w fun e w' => e = .returned (dt y m d) ∧ Below w.heap.size w w' := by
  have hW := Lib.hid (whole_any n 146097 (w.alloc (.cells #[.int .i64 0, .int .i64 0, .int .i64 0] 59)) (by omega) (by omega) (by omega) (by omega))
  obtain ⟨q, hq⟩ : ∃ q, n / 146097 = q := ⟨_, rfl⟩
  obtain ⟨r, hr⟩ : ∃ r, n % 146097 = r := ⟨_, rfl⟩
  have hq1 : -1000000000 ≤ q := by omega
  have hq2 : q ≤ 1000000000 := by omega
  have hr1 : 0 ≤ r := by omega
  have hr2 : r < 146097 := by omega
  rw [hq, hr] at hW
  obtain ⟨hj, hrr, hY1, hY2⟩ := nr_q y q n r m d hi hn hq hr
  clear hi hn hq hr
  obtain ⟨Y, hY⟩ : ∃ Y : Nat, y - 400 * q = 1970 + Y := ⟨(y - 400 * q - 1970).toNat, by omega⟩
  obtain rfl : y = 1970 + Y + 400 * q := by omega
  rw [hY] at hj hrr
  have hYl : Y ≤ 400 := by omega
  clear hY hY1 hY2
  have hin := nr_in hj
  have h1 := hj.m1
  have h2 := hj.m12
  have h3 := hj.d1
  have h4 := hj.dl
  obtain ⟨k0, rfl⟩ : ∃ k, m = k + 1 := ⟨m - 1, by omega⟩
  have H := Lib.hid (show bgn (1970 + Y) + cum (1970 + Y) k0 + d - 1 = r from hrr)
  rw [hrr] at hin
  have HI := Lib.hid hin
  clear hrr hin hj
  unfold dt
  go_enter Tryz.func77, Tryz.ntmps77
  go_wp2_with fail
  refine hW.out.mono ?_
  rintro e w1 ⟨rfl, hb1⟩
  have g1 : w1.heap[w.heap.size]? = _ := (hb1.block w.heap.size (by simp)).trans (heap_alloc_new _ _)
  have HB1 := Lib.hid (((Below.refl w.heap.size w).alloc (Nat.le_refl _) (.cells #[.int .i64 0, .int .i64 0, .int .i64 0] 59)).trans (hb1.mono (by simp)))
  have G1 := Lib.hid g1
  clear hW hb1 g1
  go_wp2_with fail
  go_loop [4, 5] (fun l i => ∃ k : Nat, i = .int .i64 (1970 + k) ∧ k ≤ Y ∧ l = .int .i64 (r - bgn (1970 + k))) (fun _ i => Y + 1970 - (intOf i).toNat)
  case atStart => exact ⟨0, rfl, by omega, by simp [bgn_1970]⟩
  case round =>
    obtain ⟨k, rfl, hk, rfl⟩ := hrel
    have hb0 := bgn_hi (y := 1970 + k) (by omega)
    have hb00 := bgn_nat 1970 k
    rw [bgn_1970] at hb00
    by_cases hlt : k < Y
    · have HS := Lib.hid (bgn_succ (1970 + k))
      have hmo : bgn (1970 + k + 1) ≤ r := by
        have h5 := bgn_le (show (1970 : Int) + k + 1 ≤ 1970 + Y by omega)
        have := HI.out
        omega
      have hl := refLeap_any (1970 + k) w1
      cases hL : leapB (1970 + k) with
      | true =>
        rw [leapN_true hL] at HS
        rw [HS.out] at hmo
        rw [hL] at hl
        have HL := Lib.hid hl
        clear hl hL
        generalize bgn (1970 + k) = b at *
        go_wp2_with fail
        refine HL.out.mono ?_
        rintro e w' ⟨rfl, rfl⟩
        go_wp2_with fail
        go_round
        case rel => exact ⟨k + 1, by go_num, by omega, by rw [show (1970 : Int) + ((k + 1 : Nat) : Int) = 1970 + k + 1 by omega, HS.out]; go_num⟩
        case measure => simp [intOf]; omega
      | false =>
        rw [leapN_false hL] at HS
        rw [HS.out] at hmo
        rw [hL] at hl
        have HL := Lib.hid hl
        clear hl hL
        generalize bgn (1970 + k) = b at *
        go_wp2_with fail
        refine HL.out.mono ?_
        rintro e w' ⟨rfl, rfl⟩
        go_wp2_with fail
        go_round
        case rel => exact ⟨k + 1, by go_num, by omega, by rw [show (1970 : Int) + ((k + 1 : Nat) : Int) = 1970 + k + 1 by omega, HS.out]; go_num⟩
        case measure => simp [intOf]; omega
    · obtain rfl : k = Y := by omega
      have hmo : r < bgn (1970 + k) + 365 + leapN (1970 + k) := by
        have := HI.out
        rw [bgn_succ] at this
        omega
      have hl := refLeap_any (1970 + k) w1
      cases hL : leapB (1970 + k)
      all_goals
        rw [hL] at hl
        first
        | rw [leapN_true hL] at hmo
        | rw [leapN_false hL] at hmo
        have HL := Lib.hid hl
        clear hl hL
        generalize bgn (1970 + k) = b at *
        go_wp2_with fail
        refine HL.out.mono ?_
        rintro e w' ⟨rfl, rfl⟩
        go_wp2_with fail
        obtain ⟨C, hC⟩ : ∃ C, r - b = C := ⟨_, rfl⟩
        have H2 := Lib.hid (show cum (1970 + k) k0 + d - 1 = C by have := H.out; omega)
        rw [hC]
        clear hC hb0 hb00 hlt hk HL hmo HI H
        have hcum0 := cum_nn (1970 + k) k0 (by omega)
        have hmlk := mlen_le (y := 1970 + k) (m := k0 + 1) h1 h2
        have hC1 : 0 ≤ C := by have := H2.out; omega
        have hC2 : C ≤ 1000 := by have := H2.out; omega
        clear hcum0 hmlk
        go_loopw [4, 7] (fun l i wr => ∃ j : Nat, i = .int .i64 ((j : Int) + 1) ∧ j ≤ k0 ∧ l = .int .i64 (C - cum (1970 + k) j) ∧ Below w.heap.size w wr ∧ wr.heap[w.heap.size]? = some (.cells #[.int .i64 0, .int .i64 0, .int .i64 0] 59 (0, 0))) (fun _ i _ => k0 + 1 - (intOf i).toNat)
        case atStart => exact ⟨0, rfl, by omega, by simp [cum], HB1.out, G1.out⟩
        case round =>
          obtain ⟨j, rfl, hj, rfl, hb, hg⟩ := hrel
          clear HB1 G1
          have hcum := cum_nn (1970 + k) j (by omega)
          have hlt0 := (Array.getElem?_eq_some_iff.1 hg).1
          have HG := Lib.hid hg
          have HB := Lib.hid hb
          clear hg hb
          have hlk := mlen_le (y := 1970 + k) (m := j + 1) (by omega) (by omega)
          have HL := Lib.hid (refLength_any (1970 + k) (j + 1) wr (by omega) (by omega))
          by_cases hlt : j < k0
          · have HS := Lib.hid (cum_succ (1970 + k) j)
            have hge : mlen (1970 + k) (j + 1) ≤ C - cum (1970 + k) j := by
              have := cum_mono (1970 + k) (k := j + 1) (l := k0) (by omega) (by omega)
              have := HS.out
              have := H2.out
              omega
            have HL' := Lib.hid (fun wx => refLength_any (1970 + k) (j + 1) wx (by omega) (by omega))
            generalize cum (1970 + k) j = c at *
            generalize mlen (1970 + k) (j + 1) = x at *
            go_wp2_with fail
            refine HL.out.mono ?_
            rintro e w2 ⟨rfl, hb2⟩
            have HB2 := Lib.hid (HB.out.trans (hb2.mono HB.out.size))
            have HG2 := Lib.hid ((hb2.block _ hlt0).trans HG.out)
            have hlt2 := Nat.lt_of_lt_of_le hlt0 hb2.size
            clear hb2
            go_wp2_with fail
            refine (HL'.out w2).mono ?_
            rintro e w3 ⟨rfl, hb3⟩
            have HB3 := Lib.hid (HB2.out.trans (hb3.mono HB2.out.size))
            have HG3 := Lib.hid ((hb3.block _ hlt2).trans HG2.out)
            clear hb3
            go_wp2_with fail
            go_roundw
            case rel => exact ⟨j + 1, by go_num, by omega, by rw [HS.out]; go_num, HB3.out, HG3.out⟩
            case measure => simp [intOf]; omega
          · obtain rfl : j = k0 := by omega
            have hle : C - cum (1970 + k) j = d - 1 := by
              have := H2.out
              omega
            rw [hle]
            clear hle hcum H2
            generalize mlen (1970 + k) (j + 1) = x at *
            go_wp2_with fail
            refine HL.out.mono ?_
            rintro e w2 ⟨rfl, hb2⟩
            have HB2 := Lib.hid (HB.out.trans (hb2.mono HB.out.size))
            have hg2 := (hb2.block _ hlt0).trans HG.out
            have r0 := cell_blk hg2 0 (v := .int .i64 0) rfl
            have r1 := cell_blk hg2 1 (v := .int .i64 0) rfl
            have r2 := cell_blk hg2 2 (v := .int .i64 0) rfl
            have f0 := frz_blk hg2 0
            have f1 := frz_blk hg2 1
            have f2 := frz_blk hg2 2
            have HG2 := Lib.hid hg2
            clear hb2 hg2
            go_wp2_with fail
            refine bodyPost_ret (results_cell_row rfl _ _ w.heap.size _ _ (0, 0) _ rfl (set3 HG2.out) Tryz.underlying59 rfl (by kernel_rfl)) rfl ?_
            exact ⟨rfl, below_set3 HB2.out (Nat.le_refl _)⟩
end Go.Proofs.YtlogapkpllgdcaaGreatDoor
/- Contracts: the laws' give; the document's May. -/
namespace Go.Proofs.YtlogapkpllgdcaaGreatDoor
open Go.RowKit

theorem heap_new2 (w : World) (o p : Obj) : ((w.alloc o).alloc p).heap[w.heap.size + 1]? = some p := by
  have := heap_alloc_new (w.alloc o) p
  rw [World.size_alloc] at this
  exact this
set_option maxRecDepth 100000 in
set_option maxHeartbeats 2000000 in
theorem may_call (y : Int) (m : Nat) (d : Int) (b : Bool) (w : World) (h1 : 1 ≤ m) (h2 : m ≤ 12) (hy1 : -274877906944 ≤ y) (hy2 : y ≤ 274877906944) (hd : 1 ≤ d) (hb : decide (d ≤ mlen y m) = b) :
    Calls Tryz.prog 60 #[dt y m d] w fun e w' => e = .returned (.bool b) ∧ Below w.heap.size w w' := by
  unfold dt
  have hbl := (Below.refl w.heap.size w).alloc (Nat.le_refl _) (.cells #[.int .i64 y, .int .i64 m, .int .i64 d] 59)
  have g0 := heap_alloc_new w (.cells #[.int .i64 y, .int .i64 m, .int .i64 d] 59)
  have c0 := cell_blk g0 0 (v := .int .i64 y) rfl
  have c1 := cell_blk g0 1 (v := .int .i64 m) rfl
  have c2 := cell_blk g0 2 (v := .int .i64 d) rfl
  have hS0 := And.intro c0 (And.intro c1 c2)
  clear c0 c1 c2 g0
  have HB := Lib.hid hbl
  have HL := Lib.hid (fun W => refLength_any y m W h1 h2)
  generalize mlen y m = x at *
  clear hbl
  have e1 : decide (-274877906944 ≤ y) = true := by simpa using hy1
  have e2 : decide (y ≤ 274877906944) = true := by simpa using hy2
  have e3 : decide (1 ≤ (m : Int)) = true := by simp; omega
  have e4 : decide ((m : Int) ≤ 12) = true := by simp; omega
  have e5 : decide (1 ≤ d) = true := by simpa using hd
  go_enter Tryz.func60, Tryz.ntmps60
  go_wp2_with fail
  go_region_held3 (fun W => W.cell? ⟨w.heap.size, 0, none⟩ = some (.int .i64 y) ∧ W.cell? ⟨w.heap.size, 1, none⟩ = some (.int .i64 m) ∧ W.cell? ⟨w.heap.size, 2, none⟩ = some (.int .i64 d))
    (first | exact hS0 | exact hS1)
    (first
      | (go_at_call 79
         refine (HL.out _).mono ?_
         rintro e w1 ⟨rfl, hb1⟩
         have hS1 := And.intro ((hb1.cell (World.block_lt_of_cell? _ _ hS0.1)).trans hS0.1) (And.intro ((hb1.cell (World.block_lt_of_cell? _ _ hS0.2.1)).trans hS0.2.1) ((hb1.cell (World.block_lt_of_cell? _ _ hS0.2.2)).trans hS0.2.2))
         have H1 := Lib.hid hb1
         clear hb1))
  all_goals
    clear hS0 hS1
    go_wp2_with fail
    go_ret
    exact ⟨rfl, HB.out.drew.trans (H1.out.mono (by simp))⟩
set_option maxRecDepth 100000 in
set_option maxHeartbeats 2000000 in
theorem may_none (y m d : Int) (w : World) (h : ¬ (-274877906944 ≤ y ∧ y ≤ 274877906944 ∧ 1 ≤ m ∧ m ≤ 12 ∧ 1 ≤ d)) :
    Calls Tryz.prog 60 #[dt y m d] w fun e w' => e = .returned (.bool false) ∧ Below w.heap.size w w' := by
  unfold dt
  have HB := Lib.hid ((Below.refl w.heap.size w).alloc (Nat.le_refl _) (.cells #[.int .i64 y, .int .i64 m, .int .i64 d] 59))
  rcases (show ¬ (-274877906944 ≤ y) ∨ (-274877906944 ≤ y ∧ ¬ y ≤ 274877906944) ∨ (-274877906944 ≤ y ∧ y ≤ 274877906944 ∧ ¬ 1 ≤ m) ∨ (-274877906944 ≤ y ∧ y ≤ 274877906944 ∧ 1 ≤ m ∧ ¬ m ≤ 12) ∨ (-274877906944 ≤ y ∧ y ≤ 274877906944 ∧ 1 ≤ m ∧ m ≤ 12 ∧ ¬ 1 ≤ d) by omega) with h1 | ⟨h1, h2⟩ | ⟨h1, h2, h3⟩ | ⟨h1, h2, h3, h4⟩ | ⟨h1, h2, h3, h4, h5⟩
  · have e1 : decide (-274877906944 ≤ y) = false := decide_eq_false h1
    go_enter Tryz.func60, Tryz.ntmps60
    go_wp2_with fail
    go_quiet (fail)
    go_wp2_with fail
    go_ret
    exact ⟨rfl, HB.out.trans ((below_drewN _ _).mono (by simp))⟩
  · have e1 : decide (-274877906944 ≤ y) = true := decide_eq_true h1
    have e2 : decide (y ≤ 274877906944) = false := decide_eq_false h2
    go_enter Tryz.func60, Tryz.ntmps60
    go_wp2_with fail
    go_quiet (fail)
    go_wp2_with fail
    go_ret
    exact ⟨rfl, HB.out.trans ((below_drewN _ _).mono (by simp))⟩
  · have e1 : decide (-274877906944 ≤ y) = true := decide_eq_true h1
    have e2 : decide (y ≤ 274877906944) = true := decide_eq_true h2
    have e3 : decide (1 ≤ m) = false := decide_eq_false h3
    go_enter Tryz.func60, Tryz.ntmps60
    go_wp2_with fail
    go_quiet (fail)
    go_wp2_with fail
    go_ret
    exact ⟨rfl, HB.out.trans ((below_drewN _ _).mono (by simp))⟩
  · have e1 : decide (-274877906944 ≤ y) = true := decide_eq_true h1
    have e2 : decide (y ≤ 274877906944) = true := decide_eq_true h2
    have e3 : decide (1 ≤ m) = true := decide_eq_true h3
    have e4 : decide (m ≤ 12) = false := decide_eq_false h4
    go_enter Tryz.func60, Tryz.ntmps60
    go_wp2_with fail
    go_quiet (fail)
    go_wp2_with fail
    go_ret
    exact ⟨rfl, HB.out.trans ((below_drewN _ _).mono (by simp))⟩
  · have e1 : decide (-274877906944 ≤ y) = true := decide_eq_true h1
    have e2 : decide (y ≤ 274877906944) = true := decide_eq_true h2
    have e3 : decide (1 ≤ m) = true := decide_eq_true h3
    have e4 : decide (m ≤ 12) = true := decide_eq_true h4
    have e5 : decide (1 ≤ d) = false := decide_eq_false h5
    go_enter Tryz.func60, Tryz.ntmps60
    go_wp2_with fail
    go_quiet (fail)
    go_wp2_with fail
    go_ret
    exact ⟨rfl, HB.out.trans ((below_drewN _ _).mono (by simp))⟩
end Go.Proofs.YtlogapkpllgdcaaGreatDoor

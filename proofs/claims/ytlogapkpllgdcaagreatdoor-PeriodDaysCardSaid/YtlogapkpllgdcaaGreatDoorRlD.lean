/- Contracts: rule's inMonth, Match. -/
import Derived.Test.YtlogapkpllgdcaaGreatDoorRlC
namespace Go.Proofs.YtlogapkpllgdcaaGreatDoor
open Go.RowKit

/-- Whether a date has its rule's place in a month of the rule. -/
def placeIn (r : Rl) (y : Int) (m : Nat) (d : Int) : Bool :=
  decide (r.mo = 0 ∨ r.mo = m) && (if r.k = 2 then decide (r.n = (d - 1) / 7 + 1 ∨ r.n = -((mlen y m - d) / 7 + 1)) else decide (r.n = d ∨ r.n = -(mlen y m - d + 1)))
theorem ret_bn {a b : Bool} {v : Value} (h : a = b) : Ending.returned (.tuple #[.bool a, v]) = .returned (.tuple #[.bool b, v]) := by rw [h]
theorem below_dr (w : World) : Below w.heap.size w w.drew := ⟨rfl, rfl, rfl, Nat.le_refl _, fun _ _ => rfl⟩
set_option maxRecDepth 100000 in
set_option maxHeartbeats 1000000 in
theorem inMonth_any (r : Rl) (y : Int) (m : Nat) (d : Int) (w : World) (ht : Tab w) (hi : Is y m d) (hy1 : -274877906944 ≤ y) (hy2 : y ≤ 274877906944) (hn1 : -31 ≤ r.n) (hn2 : r.n ≤ 31) :
    Calls Tryz.prog 70 #[rv r, dt y m d] w fun e w' => e = .returned (.tuple #[.bool (placeIn r y m d), .nilIface]) ∧ Below w.heap.size w w' := by
  have HP : Hid (placeIn r y m d = (decide (r.mo = 0 ∨ r.mo = m) && (if r.k = 2 then decide (r.n = (d - 1) / 7 + 1 ∨ r.n = -((mlen y m - d) / 7 + 1)) else decide (r.n = d ∨ r.n = -(mlen y m - d + 1))))) := rfl
  generalize placeIn r y m d = p at *
  obtain ⟨k, mo, n, wk, fy, fm, fd, ty, tm, td⟩ := r
  have hl := mlen_le (y := y) hi.m1 hi.m12
  have h1 := hi.m1
  have h2 := hi.m12
  have h3 := hi.d1
  have h4 := hi.dl
  have hb0 := ((Below.refl w.heap.size w).alloc (Nat.le_refl _) (.cells (rcs ⟨k, mo, n, wk, fy, fm, fd, ty, tm, td⟩) 66)).alloc (by simp) (.cells #[.int .i64 y, .int .i64 m, .int .i64 d] 64)
  have gd := heap_new2 w (.cells (rcs ⟨k, mo, n, wk, fy, fm, fd, ty, tm, td⟩) 66) (.cells #[.int .i64 y, .int .i64 m, .int .i64 d] 64)
  have gr := (Below.heap_alloc (w.alloc (.cells (rcs ⟨k, mo, n, wk, fy, fm, fd, ty, tm, td⟩) 66)) (.cells #[.int .i64 y, .int .i64 m, .int .i64 d] 64) w.heap.size (by simp)).trans (heap_alloc_new w (.cells (rcs ⟨k, mo, n, wk, fy, fm, fd, ty, tm, td⟩) 66))
  have HL := Lib.hid (fun W (hT : Tab W) => lengthOk_any y m W h1 h2 hy1 hy2 hT)
  have HT := Lib.hid (ht.below hb0)
  have HB0 := Lib.hid hb0
  have K0 := cell_blk gr 0 (v := .int .i64 k) rfl
  have K2 := cell_blk gr 2 (v := .int .i64 n) rfl
  have D2 := cell_blk gd 2 (v := .int .i64 d) rfl
  clear hi ht hb0 gd gr hy1 hy2
  generalize mlen y m = len at *
  unfold rv
  unfold dt
  simp only at HP HB0 HT hn1 hn2 K0 K2 D2 ⊢
  unfold rcs at HB0 HT K0 K2 D2
  simp only at HB0 HT K0 K2 D2
  by_cases hmo : mo = 0 ∨ mo = m
  · rw [decide_eq_true hmo, Bool.true_and] at HP
    have c1 : (mo != 0) = false ∨ ((mo != 0) = true ∧ (mo != m) = false) := by
      rcases hmo with h | h
      · left; simp [h]
      · right; simp; omega
    clear hmo
    by_cases hk : k = 2
    · rw [if_pos hk] at HP
      have HK1 := Lib.hid (fun W => week_any d W h3 (by omega))
      have HK2 := Lib.hid (fun W => week_any (len - d + 1) W (by omega) (by omega))
      rw [show (len - d + 1 - 1) = len - d by omega] at HK2
      have b1 : 1 ≤ (d - 1) / 7 + 1 ∧ (d - 1) / 7 + 1 ≤ 5 := by omega
      have b2 : 1 ≤ (len - d) / 7 + 1 ∧ (len - d) / 7 + 1 ≤ 5 := by omega
      obtain ⟨b11, b12⟩ := b1
      obtain ⟨b21, b22⟩ := b2
      generalize (d - 1) / 7 + 1 = b at *
      generalize (len - d) / 7 + 1 = en at *
      subst hk
      have c3 : ((n == b) = true ∧ p = true) ∨ ((n == b) = false ∧ (n == -en) = p) := by
        have e := HP.out
        by_cases h : n = b
        · left; subst h; simp [e]
        · right
          refine ⟨by simpa using h, ?_⟩
          rw [e, Bool.eq_iff_iff]
          simp [h]
      clear HP
      rcases c1 with c1 | ⟨c1, c2⟩ <;> rcases c3 with ⟨c3, rfl⟩ | ⟨c3, c4⟩
      all_goals
        go_enter Tryz.func70, Tryz.ntmps70
        go_wp2_with fail
        refine (HL.out _ HT.out).mono ?_
        rintro e w' ⟨rfl, rfl⟩
        go_wp2_with fail
        go_region_held3 (fun W => W.cell? ⟨w.heap.size + 1, 2, none⟩ = some (.int .i64 d)) (first | exact D2) (fail)
        go_wp2_with fail
        refine (HK1.out _).mono ?_
        rintro e w' ⟨rfl, rfl⟩
        go_wp2_with fail
        refine (HK2.out _).mono ?_
        rintro e w' ⟨rfl, rfl⟩
        go_wp2_with fail
        go_ret2
        exact ⟨ret_bn (by first | rfl | assumption), HB0.out.drew⟩
    · rw [if_neg hk] at HP
      have dk : (k == 2) = false := beq_eq_false_iff_ne.2 hk
      clear hk
      have b2 : 1 ≤ len - d + 1 ∧ len - d + 1 ≤ 31 := by omega
      obtain ⟨b21, b22⟩ := b2
      have c3 : ((n == d) = true ∧ p = true) ∨ ((n == d) = false ∧ (n == -(len - d + 1)) = p) := by
        have e := HP.out
        by_cases h : n = d
        · left; subst h; simp [e]
        · right
          refine ⟨by simpa using h, ?_⟩
          rw [e, Bool.eq_iff_iff]
          simp [h]
      clear HP
      rcases c1 with c1 | ⟨c1, c2⟩ <;> rcases c3 with ⟨c3, rfl⟩ | ⟨c3, c4⟩
      all_goals
        go_enter Tryz.func70, Tryz.ntmps70
        go_wp2_with fail
        refine (HL.out _ HT.out).mono ?_
        rintro e w' ⟨rfl, rfl⟩
        go_wp2_with fail
        go_region_held3 (fun W => W.cell? ⟨w.heap.size + 1, 2, none⟩ = some (.int .i64 d)) (first | exact D2) (fail)
        go_wp2_with fail
        go_ret2
        exact ⟨ret_bn (by first | rfl | assumption), HB0.out.drew⟩
  · rw [decide_eq_false hmo, Bool.false_and] at HP
    have c1 : (mo != 0) = true := by simp; omega
    have c2 : (mo != m) = true := by simp; omega
    clear hmo K0 K2 D2
    go_enter Tryz.func70, Tryz.ntmps70
    go_wp2_with fail
    go_ret2
    exact ⟨ret_bn HP.out.symm, HB0.out⟩
end Go.Proofs.YtlogapkpllgdcaaGreatDoor

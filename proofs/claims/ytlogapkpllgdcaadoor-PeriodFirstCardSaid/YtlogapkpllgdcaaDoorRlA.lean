/- Contracts: rule's isWithin, isPlace, week, own; civil's Days of any date. -/
import Derived.Test.YtlogapkpllgdcaaDoorRlMath
import Derived.Test.YtlogapkpllgdcaaDoorCv7
import Derived.Test.YtlogapkpllgdcaaDoorCkA
import Derived.Deep.RegionHeld3
namespace Go.Proofs.YtlogapkpllgdcaaDoor
open Go.RowKit

/-- An error by its number; 0: none. -/
def errE (k : Int) : Value := if k = 0 then .nilIface else errK k
theorem errE_zero : errE 0 = .nilIface := if_pos rfl
theorem errE_one : errE 1 = errK 1 := if_neg (by omega)
theorem errE_three : errE 3 = errK 3 := if_neg (by omega)
/-- A rule as a value. -/
def rv (r : Rl) : Value := .agg #[.int .i64 r.k, .int .i64 r.mo, .int .i64 r.n, .int .i64 r.wk, .int .i64 r.fy, .int .i64 r.fm, .int .i64 r.fd, .int .i64 r.ty, .int .i64 r.tm, .int .i64 r.td]
theorem isWithin_any (n most : Int) (w : World) :
    Calls Tryd.prog 68 #[.int .i64 n, .int .i64 most] w fun e w' => e = .returned (.bool (inW n most)) ∧ w = w' := by
  have H : Hid (inW n most = decide (0 ≤ n ∧ n ≤ most)) := rfl
  generalize inW n most = b at *
  by_cases h1 : 0 ≤ n
  · by_cases h2 : n ≤ most
    all_goals
      go_enter Tryd.func68, Tryd.ntmps68
      go_wp2
      go_ret
      exact ⟨ret_bool (by rw [H.out]; first | exact (decide_eq_true (by omega)).symm | exact (decide_eq_false (by omega)).symm), rfl⟩
  · go_enter Tryd.func68, Tryd.ntmps68
    go_wp2
    go_ret
    exact ⟨ret_bool (by rw [H.out]; first | exact (decide_eq_true (by omega)).symm | exact (decide_eq_false (by omega)).symm), rfl⟩
theorem isPlace_any (n most : Int) (w : World) (hm : 0 ≤ most) (hm2 : most ≤ 100) :
    Calls Tryd.prog 69 #[.int .i64 n, .int .i64 most] w fun e w' => e = .returned (.bool (placeR n most)) ∧ w = w' := by
  have H : Hid (placeR n most = decide (n ≠ 0 ∧ -most ≤ n ∧ n ≤ most)) := rfl
  generalize placeR n most = b at *
  by_cases h0 : n = 0
  · subst h0
    go_enter Tryd.func69, Tryd.ntmps69
    go_wp2
    go_ret
    exact ⟨ret_bool (by rw [H.out]; simp), rfl⟩
  · have hd : (n != 0) = true := by simpa using h0
    have H0 := Lib.hid h0
    clear h0
    by_cases h1 : -most ≤ n
    · by_cases h2 : n ≤ most
      all_goals
        go_enter Tryd.func69, Tryd.ntmps69
        go_wp2
        go_ret
        exact ⟨ret_bool (by rw [H.out]; have := H0.out; first | exact (decide_eq_true (by omega)).symm | exact (decide_eq_false (by omega)).symm), rfl⟩
    · go_enter Tryd.func69, Tryd.ntmps69
      go_wp2
      go_ret
      exact ⟨ret_bool (by rw [H.out]; first | exact (decide_eq_true (by omega)).symm | exact (decide_eq_false (by omega)).symm), rfl⟩
theorem week_any (p : Int) (w : World) (h1 : 1 ≤ p) (h2 : p ≤ 1000) :
    Calls Tryd.prog 61 #[.int .i64 p] w fun e w' => e = .returned (.int .i64 ((p - 1) / 7 + 1)) ∧ w = w' := by
  go_enter Tryd.func61, Tryd.ntmps61
  go_wp2
  go_ret
  exact ⟨ret_int (by omega), rfl⟩
theorem days_yes (y m d : Int) (w : World) (ht : Tab w) (h : okD y m d = true) :
    Calls Tryd.prog 62 #[dt y m d] w fun e w' => e = .returned (.tuple #[.int .i64 (dnr y m d), .nilIface]) ∧ Below w.heap.size w w' := by
  obtain ⟨hi, e, h1, h2⟩ := okD_is h
  have := daysOk_any y m.toNat d w hi h1 h2 ht
  rw [e] at this
  exact this
theorem days_no (y m d : Int) (w : World) (ht : Tab w) (h : okD y m d = false) :
    Calls Tryd.prog 62 #[dt y m d] w fun e w' => e = .returned (.tuple #[.int .i64 0, errK 1]) ∧ Below w.heap.size w w' := by
  by_cases hm : m < 1 ∨ 12 < m ∨ y < -274877906944 ∨ 274877906944 < y
  · exact daysNoM_any y m d w hm
  · obtain ⟨k, rfl⟩ := Int.eq_ofNat_of_zero_le (show 0 ≤ m by omega)
    refine daysNoD_any y k d w (by omega) (by omega) ?_ (by omega) (by omega) ht
    by_cases h1 : d < 1
    · exact .inl h1
    · refine .inr ?_
      rcases Int.lt_or_le (mlen y k) d with h2 | h2
      · exact h2
      · exfalso
        rw [okD_of (show Is y k d from ⟨by omega, by omega, by omega, h2⟩) (by omega) (by omega)] at h
        cases h
set_option maxRecDepth 100000 in
set_option maxHeartbeats 1000000 in
theorem own_any (r : Rl) (w : World) :
    Calls Tryd.prog 55 #[rv r] w fun e w' => e = .returned (rv (ownR r)) ∧ Below w.heap.size w w' := by
  obtain ⟨k, mo, n, wk, fy, fm, fd, ty, tm, td⟩ := r
  unfold ownR
  simp only
  unfold rv
  have HB := Lib.hid (((Below.refl w.heap.size w).alloc (Nat.le_refl _) (.cells #[.int .i64 k, .int .i64 mo, .int .i64 n, .int .i64 wk, .int .i64 fy, .int .i64 fm, .int .i64 fd, .int .i64 ty, .int .i64 tm, .int .i64 td] 57)))
  by_cases h0 : k = 0
  · subst h0
    simp only [if_true]
    go_enter Tryd.func55, Tryd.ntmps55
    go_wp2_with fail
    refine bodyPost_ret (results_cell_row rfl _ _ (w.heap.size + 1) _ _ (0, 0) _ rfl (heap_new2 _ _ _) Tryd.underlying57 rfl (by kernel_rfl)) rfl ?_
    exact ⟨rfl, HB.out.alloc HB.out.size _⟩
  · by_cases h1 : k = 1
    · subst h1
      simp only [show ((1 : Int) = 0) = False by simp, if_true, if_false]
      clear h0
      go_enter Tryd.func55, Tryd.ntmps55
      go_wp2_with fail
      refine bodyPost_ret (results_cell_row rfl _ _ (w.heap.size + 1) _ _ (0, 0) _ rfl (heap_new2 _ _ _) Tryd.underlying57 rfl (by kernel_rfl)) rfl ?_
      exact ⟨rfl, HB.out.alloc HB.out.size _⟩
    · by_cases h2 : k = 2
      · subst h2
        simp only [show ((2 : Int) = 0) = False by simp, show ((2 : Int) = 1) = False by simp, if_true, if_false]
        clear h0 h1
        go_enter Tryd.func55, Tryd.ntmps55
        go_wp2_with fail
        refine bodyPost_ret (results_cell_row rfl _ _ (w.heap.size + 1) _ _ (0, 0) _ rfl (heap_new2 _ _ _) Tryd.underlying57 rfl (by kernel_rfl)) rfl ?_
        exact ⟨rfl, HB.out.alloc HB.out.size _⟩
      · by_cases h3 : k = 3
        · subst h3
          simp only [show ((3 : Int) = 0) = False by simp, show ((3 : Int) = 1) = False by simp, show ((3 : Int) = 2) = False by simp, if_true, if_false]
          clear h0 h1 h2
          go_enter Tryd.func55, Tryd.ntmps55
          go_wp2_with fail
          refine bodyPost_ret (results_cell_row rfl _ _ (w.heap.size + 1) _ _ (0, 0) _ rfl (heap_new2 _ _ _) Tryd.underlying57 rfl (by kernel_rfl)) rfl ?_
          exact ⟨rfl, HB.out.alloc HB.out.size _⟩
        · rw [if_neg h0, if_neg h1, if_neg h2, if_neg h3]
          have d0 : (k == 0) = false := beq_eq_false_iff_ne.2 h0
          have d1 : (k == 1) = false := beq_eq_false_iff_ne.2 h1
          have d2 : (k == 2) = false := beq_eq_false_iff_ne.2 h2
          have d3 : (k == 3) = false := beq_eq_false_iff_ne.2 h3
          clear h0 h1 h2 h3
          go_enter Tryd.func55, Tryd.ntmps55
          go_wp2_with fail
          refine bodyPost_ret (results_cell_row rfl _ _ (w.heap.size + 1) _ _ (0, 0) _ rfl (heap_new2 _ _ _) Tryd.underlying57 rfl (by kernel_rfl)) rfl ?_
          exact ⟨rfl, HB.out.alloc HB.out.size _⟩
end Go.Proofs.YtlogapkpllgdcaaDoor

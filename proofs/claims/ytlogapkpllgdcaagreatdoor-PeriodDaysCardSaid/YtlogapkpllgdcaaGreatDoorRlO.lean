/- Contracts: the laws' giveRule; the document's near, May of dates, equality of its dates. -/
import Derived.Test.YtlogapkpllgdcaaGreatDoorRlC
import Derived.Test.YtlogapkpllgdcaaGreatDoorCv7
namespace Go.Proofs.YtlogapkpllgdcaaGreatDoor
open Go.RowKit

theorem near_any (n most : Int) (w : World) (hm : 0 ≤ most) (hm2 : most ≤ 100) :
    Calls Tryz.prog 59 #[.int .i64 n, .int .i64 most] w fun e w' => e = .returned (.bool (placeR n most)) ∧ w = w' := by
  have H : Hid (placeR n most = decide (n ≠ 0 ∧ -most ≤ n ∧ n ≤ most)) := rfl
  generalize placeR n most = b at *
  have h : (1 ≤ n ∧ n ≤ most) ∨ (1 ≤ n ∧ ¬ n ≤ most) ∨ (¬ 1 ≤ n ∧ n ≤ -1 ∧ -most ≤ n) ∨ (¬ 1 ≤ n ∧ n ≤ -1 ∧ ¬ -most ≤ n) ∨ (¬ 1 ≤ n ∧ ¬ n ≤ -1) := by omega
  rcases h with ⟨h1, h2⟩ | ⟨h1, h2⟩ | ⟨h1, h2, h3⟩ | ⟨h1, h2, h3⟩ | ⟨h1, h2⟩
  all_goals
    go_enter Tryz.func59, Tryz.ntmps59
    go_wp2_with fail
    go_ret
    exact ⟨ret_bool (by rw [H.out]; first | exact (decide_eq_true (by omega)).symm | exact (decide_eq_false (by omega)).symm), rfl⟩
theorem refDMay_any (y m d : Int) (w : World) :
    Calls Tryz.prog 60 #[dt y m d] w fun e w' => e = .returned (.bool (okD y m d)) ∧ Below w.heap.size w w' := by
  by_cases hh : -274877906944 ≤ y ∧ y ≤ 274877906944 ∧ 1 ≤ m ∧ m ≤ 12 ∧ 1 ≤ d
  · obtain ⟨h1, h2, h3, h4, h5⟩ := hh
    obtain ⟨k, rfl⟩ := Int.eq_ofNat_of_zero_le (show 0 ≤ m by omega)
    refine may_call y k d _ w (by omega) (by omega) h1 h2 h5 ?_
    unfold okD
    rw [decide_eq_decide]
    constructor
    · intro h; exact ⟨h1, h2, h3, h4, h5, h⟩
    · intro h; exact h.2.2.2.2.2
  · have := may_none y m d w hh
    have e : okD y m d = false := decide_eq_false (fun h => hh ⟨h.1, h.2.1, h.2.2.1, h.2.2.2.1, h.2.2.2.2.1⟩)
    rw [e]
    exact this
theorem refDnr_any (y m d : Int) (w : World) (h : okD y m d = true) :
    Calls Tryz.prog 61 #[dt y m d] w fun e w' => e = .returned (.int .i64 (dnr y m d)) ∧ Below w.heap.size w w' := by
  obtain ⟨hi, e, h1, h2⟩ := okD_is h
  have := refDays_any y m.toNat d w hi h1 h2
  rw [e] at this
  exact this
/-- A date that is none. -/
def z3 (y m d : Int) : Bool := decide (y = 0 ∧ m = 0 ∧ d = 0)
theorem fields_rdate : (Tryz.prog.fieldsOf 59).toList.map F3 = [(false, 3, 0), (false, 3, 1), (false, 3, 2)] := by kernel_rfl
theorem eqlD (y m d : Int) (W : World) : (binOp .eql 59 (dt y m d) (dt 0 0 0)).run Tryz.prog W = .ok (.bool (z3 y m d)) W := by
  have h : (Op.equalIn 10000 59 (dt y m d) (dt 0 0 0)).run Tryz.prog W = .ok (z3 y m d) W := by
    unfold dt
    rw [run_equalIn_agg W 9999 _ _ _ (by kernel_rfl) (by kernel_rfl)]
    rw [show z3 y m d = ((y == 0) && ((m == 0) && ((d == 0) && true))) by
      rw [Bool.eq_iff_iff]
      simp [z3]]
    refine eqStep fields_rdate (part_int _ 0 y W rfl) (part_int _ 0 0 W rfl) (eql_int _ _ _ _) fun fs h => ?_
    refine eqStep h (part_int _ 1 m W rfl) (part_int _ 1 0 W rfl) (eql_int _ _ _ _) fun fs h => ?_
    refine eqStep h (part_int _ 2 d W rfl) (part_int _ 2 0 W rfl) (eql_int _ _ _ _) fun fs h => ?_
    exact eqNil _ _ _ _ _ h
  unfold dt at h ⊢
  rw [run_eql_struct, h, Result.andThen_ok]
end Go.Proofs.YtlogapkpllgdcaaGreatDoor

/- Contracts: value's isNumber, Int. -/
import Derived.Test.YthnogakjaaopkaaGreatDoorVaM
import Derived.Test.YthnogakjaaopkaaGreatDoorVaLb
namespace Go.Proofs.YthnogakjaaopkaaGreatDoor
open Go.RowKit

theorem noDg_int (r : Nat) : (decide ((r : Int) < 48) = true ∧ noDg r = true) ∨ (decide ((r : Int) < 48) = false ∧ decide ((57 : Int) < r) = noDg r) := by
  unfold noDg
  by_cases h : r < 48
  · exact .inl ⟨decide_eq_true (by omega), by rw [decide_eq_true h]; rfl⟩
  · refine .inr ⟨decide_eq_false (by omega), ?_⟩
    rw [decide_eq_false h, Bool.false_or]
    by_cases h2 : 57 < r
    · rw [decide_eq_true h2, decide_eq_true (by omega)]
    · rw [decide_eq_false h2, decide_eq_false (by omega)]
theorem ret_boolI {a b : Bool} {w w' : World} (h : a = b) (hb : Below w.heap.size w w') : Ending.returned (.bool a) = .returned (.bool b) ∧ Below w.heap.size w w' := ⟨by rw [h], hb⟩
/-- How Int ends. -/
def IntE (R : Int × Nat) (w : World) (e : Ending) (w' : World) : Prop := e = .returned (.tuple #[.int .i64 R.1, errE R.2]) ∧ Below w.heap.size w w'
theorem intE_of {R : Int × Nat} {w w' : World} {v : Int} {ev : Value} {k : Nat} (hR : R = (v, k)) (he : errE k = ev) (hb : Below w.heap.size w w') : IntE R w (.returned (.tuple #[.int .i64 v, ev])) w' := by
  subst hR
  subst he
  exact ⟨rfl, hb⟩
/-- How Flag ends. -/
def FlagE (R : Bool × Nat) (w : World) (e : Ending) (w' : World) : Prop := e = .returned (.tuple #[.bool R.1, errE R.2]) ∧ Below w.heap.size w w'
theorem flagE_of {R : Bool × Nat} {w w' : World} {v : Bool} {ev : Value} {k : Nat} (hR : R = (v, k)) (he : errE k = ev) (hb : Below w.heap.size w w') : FlagE R w (.returned (.tuple #[.bool v, ev])) w' := by
  subst hR
  subst he
  exact ⟨rfl, hb⟩
set_option maxRecDepth 100000 in
theorem flag_any (s : Tx) (w : World) : Calls Tryz.prog 45 #[.string (str s)] w (FlagE (flagT s) w) := by
  obtain ⟨R, hR⟩ : ∃ R, flagT s = R := ⟨_, rfl⟩
  rw [hR]
  by_cases h0 : s = []
  · have HR : Hid (R = (false, 13)) := by unfold Hid; rw [← hR, flagT, if_pos h0]
    subst h0
    have t0 : str ([] : Tx) = { data := #[] } := rfl
    rw [t0]
    clear hR t0
    go_enter Tryz.func45, Tryz.ntmps45
    go_wp2_with fail
    go_ret2
    exact flagE_of HR.out rfl (Below.refl _ _)
  · by_cases h1 : s = [48]
    · have HR : Hid (R = (false, 0)) := by unfold Hid; rw [← hR, flagT, if_neg h0, if_pos h1]
      subst h1
      have t0 : str ([48] : Tx) = { data := #[48] } := rfl
      rw [t0]
      clear hR t0 h0
      go_enter Tryz.func45, Tryz.ntmps45
      go_wp2_with fail
      go_ret2
      exact flagE_of HR.out errE_zero (Below.refl _ _)
    · by_cases h2 : s = [49]
      · have HR : Hid (R = (true, 0)) := by unfold Hid; rw [← hR, flagT, if_neg h0, if_neg h1, if_pos h2]
        subst h2
        have t0 : str ([49] : Tx) = { data := #[49] } := rfl
        rw [t0]
        clear hR t0 h0 h1
        go_enter Tryz.func45, Tryz.ntmps45
        go_wp2_with fail
        go_ret2
        exact flagE_of HR.out errE_zero (Below.refl _ _)
      · have HR : Hid (R = (false, 3)) := by unfold Hid; rw [← hR, flagT, if_neg h0, if_neg h1, if_neg h2]
        have t1 : (str s).toList.isEmpty = false := by rw [str_toList]; simpa using h0
        have t2 : ((str s).toList == [48]) = false := by rw [str_toList]; exact beq_eq_false_iff_ne.2 h1
        have t3 : ((str s).toList == [49]) = false := by rw [str_toList]; exact beq_eq_false_iff_ne.2 h2
        generalize str s = S at *
        clear hR h0 h1 h2
        go_enter Tryz.func45, Tryz.ntmps45
        go_wp2_with fail
        go_ret2
        exact flagE_of HR.out rfl (Below.refl _ _)
end Go.Proofs.YthnogakjaaopkaaGreatDoor

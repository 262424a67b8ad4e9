/- Contracts: the document's Int, Flag. -/
import Derived.Test.YthnogakjaaopkaaGreatDoorVaM
import Derived.Test.YthnogakjaaopkaaGreatDoorVaLb
namespace Go.Proofs.YthnogakjaaopkaaGreatDoor
open Go.RowKit

/-- How the document's Int ends. -/
def RiE (R : Int × Nat) (w : World) (e : Ending) (w' : World) : Prop := e = .returned (.tuple #[.int .i64 R.1, .int .i64 (R.2 : Nat)]) ∧ w = w'
theorem riE_of {R : Int × Nat} {w : World} {v j : Int} {k : Nat} (hR : R = (v, k)) (hj : j = k) : RiE R w (.returned (.tuple #[.int .i64 v, .int .i64 j])) w := by
  subst hR
  subst hj
  exact ⟨rfl, rfl⟩
theorem dg_int (y : UInt8) : (dgB y = true ∧ (48 : Int) ≤ y.toNat ∧ (y.toNat : Int) ≤ 57) ∨ (dgB y = false ∧ (y.toNat : Int) < 48) ∨ (dgB y = false ∧ ¬ (y.toNat : Int) < 48 ∧ (57 : Int) < y.toNat) := by
  unfold dgB
  by_cases h1 : 48 ≤ y.toNat
  · by_cases h2 : y.toNat ≤ 57
    · exact .inl ⟨by rw [decide_eq_true h1, decide_eq_true h2]; rfl, by omega, by omega⟩
    · exact .inr (.inr ⟨by rw [decide_eq_false h2, Bool.and_false], by omega, by omega⟩)
  · exact .inr (.inl ⟨by rw [decide_eq_false h1, Bool.false_and], by omega⟩)
theorem dec_next {d : Tx} {i nn : Nat} (hi : i < d.length) (h : Lib.decFrom 0 (d.take i) = some nn) (hg : dgB d[i] = true) : Lib.decFrom 0 (d.take (i + 1)) = some (nn * 10 + (d[i].toNat - 48)) := by
  rw [List.take_succ_eq_append_getElem hi, decFrom_app, h, Option.bind_some, Lib.decFrom, digit_some hg]
  rfl
theorem all_next {d : Tx} {i : Nat} (hi : i < d.length) (h : (d.take i).all dgB = true) (hg : dgB d[i] = true) : (d.take (i + 1)).all dgB = true := by
  rw [List.take_succ_eq_append_getElem hi, List.all_append, h]
  simp [hg]
theorem all_bad {d : Tx} {i : Nat} (hi : i < d.length) (hg : dgB d[i] = false) : d.all dgB = false := by
  rw [List.all_eq_false]
  exact ⟨d[i], List.getElem_mem hi, by rw [hg]; simp⟩
/-- What a text that has the form of a number is. -/
theorem int_form2 {s d : Tx} {lo hi : Int} {m : Bool} (hs : s ≠ []) (hm : (s.head? == some 45) = m) (hd : (if m = true then s.tail else s) = d) (hne : d ≠ []) (hl : s.length ≤ 19) (hf : ¬ (d.head? = some 48 ∧ (1 < d.length ∨ m = true))) :
    (d.all dgB = false → intT s lo hi = (0, 3)) ∧ ∀ n, Lib.decFrom 0 d = some n → intT s lo hi = if 9223372036854775807 < n then (0, 5) else if (if m = true then -(n : Int) else (n : Int)) < lo ∨ hi < (if m = true then -(n : Int) else (n : Int)) then (0, 5) else (if m = true then -(n : Int) else (n : Int), 0) := by
  have hform : ¬ (d = [] ∨ 19 < s.length ∨ (d.head? = some 48 ∧ (1 < d.length ∨ m = true))) := by
    rintro (h | h | h)
    · exact hne h
    · omega
    · exact hf h
  have hint : intT s lo hi = match Lib.decFrom 0 d with
      | none => (0, 3)
      | some n => if 9223372036854775807 < n then (0, 5) else if (if m = true then -(n : Int) else (n : Int)) < lo ∨ hi < (if m = true then -(n : Int) else (n : Int)) then (0, 5) else (if m = true then -(n : Int) else (n : Int), 0) := by
    unfold intT
    rw [if_neg hs]
    simp only [hm, hd]
    rw [if_neg hform]
    cases Lib.decFrom 0 d <;> rfl
  refine ⟨fun h => ?_, fun n h => ?_⟩
  · rw [hint, dec_none d 0 h]
  · rw [hint, h]
theorem int_bad2 {s d : Tx} {lo hi : Int} {m : Bool} (hs : s ≠ []) (hm : (s.head? == some 45) = m) (hd : (if m = true then s.tail else s) = d) (h : d = [] ∨ 19 < s.length ∨ (d.head? = some 48 ∧ (1 < d.length ∨ m = true))) : intT s lo hi = (0, 3) := by
  unfold intT
  rw [if_neg hs]
  simp only [hm, hd]
  rw [if_pos h]
/-- How the document's Flag ends. -/
def RfE (R : Bool × Nat) (w : World) (e : Ending) (w' : World) : Prop := e = .returned (.tuple #[.bool R.1, .int .i64 (R.2 : Nat)]) ∧ w = w'
theorem rfE_of {R : Bool × Nat} {w : World} {v : Bool} {j : Int} {k : Nat} (hR : R = (v, k)) (hj : j = k) : RfE R w (.returned (.tuple #[.bool v, .int .i64 j])) w := by
  subst hR
  subst hj
  exact ⟨rfl, rfl⟩
set_option maxRecDepth 100000 in
theorem refFlag_any (s : Tx) (w : World) : Calls Tryz.prog 38 #[.string (str s)] w (RfE (flagT s) w) := by
  obtain ⟨R, hR⟩ : ∃ R, flagT s = R := ⟨_, rfl⟩
  rw [hR]
  by_cases h0 : s = []
  · have HR : Hid (R = (false, 13)) := by unfold Hid; rw [← hR, flagT, if_pos h0]
    subst h0
    have t0 : str ([] : Tx) = { data := #[] } := rfl
    rw [t0]
    clear hR t0
    go_enter Tryz.func38, Tryz.ntmps38
    go_wp2_with fail
    go_ret2
    exact rfE_of HR.out rfl
  · by_cases h1 : s = [48]
    · have HR : Hid (R = (false, 0)) := by unfold Hid; rw [← hR, flagT, if_neg h0, if_pos h1]
      subst h1
      have t0 : str ([48] : Tx) = { data := #[48] } := rfl
      rw [t0]
      clear hR t0 h0
      go_enter Tryz.func38, Tryz.ntmps38
      go_wp2_with fail
      go_ret2
      exact rfE_of HR.out rfl
    · by_cases h2 : s = [49]
      · have HR : Hid (R = (true, 0)) := by unfold Hid; rw [← hR, flagT, if_neg h0, if_neg h1, if_pos h2]
        subst h2
        have t0 : str ([49] : Tx) = { data := #[49] } := rfl
        rw [t0]
        clear hR t0 h0 h1
        go_enter Tryz.func38, Tryz.ntmps38
        go_wp2_with fail
        go_ret2
        exact rfE_of HR.out rfl
      · have HR : Hid (R = (false, 3)) := by unfold Hid; rw [← hR, flagT, if_neg h0, if_neg h1, if_neg h2]
        have t1 : (str s).toList.isEmpty = false := by rw [str_toList]; simpa using h0
        have t2 : ((str s).toList == [48]) = false := by rw [str_toList]; exact beq_eq_false_iff_ne.2 h1
        have t3 : ((str s).toList == [49]) = false := by rw [str_toList]; exact beq_eq_false_iff_ne.2 h2
        generalize str s = S at *
        clear hR h0 h1 h2
        go_enter Tryz.func38, Tryz.ntmps38
        go_wp2_with fail
        go_ret2
        exact rfE_of HR.out rfl
end Go.Proofs.YthnogakjaaopkaaGreatDoor

/- Contracts: the document's Loop, Reach. -/
import Derived.Test.YthmklmilgcjmlaaGrLd
namespace Go.Proofs.Ythmklmilgcjmlaa
open Go.RowKit

noncomputable def lpI (M : Wt) (n : Nat) : Int := match lpT M n with | some x => x | none => -1
theorem lpI_some {M : Wt} {n x : Nat} (h : lpT M n = some x) : lpI M n = x := by unfold lpI; rw [h]
theorem lpI_none {M : Wt} {n : Nat} (h : lpT M n = none) : lpI M n = -1 := by unfold lpI; rw [h]
open Classical in
theorem lpT_no {M : Wt} {n : Nat} (h : ∀ y, y < n → ¬ Wy (eM M) y y) : lpT M n = none := by
  unfold lpT
  rw [List.find?_eq_none]
  intro y hy
  have := h y (List.mem_range.1 hy)
  simp [this]
theorem ldT_len (M : Wt) (n x : Nat) : (ldT M n x).length = n := by unfold ldT; simp
open Classical in
theorem ldT_true {M : Wt} {n x j : Nat} (h : (ldT M n x)[j]? = some true) : Wy (eM M) x j := by
  by_cases hj : j < n
  · rw [ldT_get hj] at h
    exact of_decide_eq_true (Option.some.inj h)
  · rw [List.getElem?_eq_none (by rw [ldT_len]; omega)] at h
    cases h
open Classical in
theorem ldT_false {M : Wt} {n x j : Nat} (h : (ldT M n x)[j]? = some false) : ¬ Wy (eM M) x j := by
  by_cases hj : j < n
  · rw [ldT_get hj] at h
    exact of_decide_eq_false (Option.some.inj h)
  · rw [List.getElem?_eq_none (by rw [ldT_len]; omega)] at h
    cases h
open Classical in
theorem rcT_split {M : Wt} {n x k : Nat} (hk : k < n) (h : k = x ∨ Wy (eM M) x k) : ((List.range (k + 1)).filter fun j => j == x || (ldT M n x)[j]? == some true) = ((List.range k).filter fun j => j == x || (ldT M n x)[j]? == some true) ++ [k] := by
  rw [List.range_succ, List.filter_append]
  congr 1
  have e : (k == x || (ldT M n x)[k]? == some true) = true := by
    rcases h with h | h
    · simp [h]
    · have e := ldT_get (M := M) (x := x) hk
      rw [decide_eq_true h] at e
      rw [e]
      simp
  simp [e]
theorem rcT_skip {M : Wt} {n x k : Nat} (hx : k ≠ x) (h : (ldT M n x)[k]? = some false) : ((List.range (k + 1)).filter fun j => j == x || (ldT M n x)[j]? == some true) = ((List.range k).filter fun j => j == x || (ldT M n x)[j]? == some true) := by
  rw [List.range_succ, List.filter_append]
  have e : (k == x || (ldT M n x)[k]? == some true) = false := by
    rw [h]
    simp [hx]
  simp [e]
theorem rcT_all (M : Wt) (n x : Nat) : ((List.range n).filter fun j => j == x || (ldT M n x)[j]? == some true) = rcT M n x := by
  unfold rcT
  refine List.filter_congr fun j hj => ?_
  rw [ldT_get (List.mem_range.1 hj)]
  congr 1
  cases h : @decide (Wy (eM M) x j) (Classical.propDecidable _) <;> rfl
end Go.Proofs.Ythmklmilgcjmlaa

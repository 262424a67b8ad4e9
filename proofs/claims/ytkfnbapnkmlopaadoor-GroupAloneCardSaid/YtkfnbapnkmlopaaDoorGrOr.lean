/- Contract: the document's Order. -/
import Derived.Test.YtkfnbapnkmlopaaDoorGrRf
namespace Go.Proofs.YtkfnbapnkmlopaaDoor
open Go.RowKit

/-- Marks at those of a list. -/
def cF (n : Nat) (D : List Nat) : List Bool := (List.range n).map fun j => D.contains j
theorem cF_len (n : Nat) (D : List Nat) : (cF n D).length = n := by unfold cF; simp
theorem cF_get {n j : Nat} (D : List Nat) (h : j < n) : (cF n D)[j]? = some (D.contains j) := by
  unfold cF
  rw [List.getElem?_map, List.getElem?_range h]
  rfl
theorem cF_nil (n : Nat) : cF n [] = List.replicate n false := by
  apply List.ext_getElem?
  intro j
  by_cases h : j < n
  · rw [cF_get _ h, List.getElem?_replicate, if_pos h]
    rfl
  · rw [List.getElem?_eq_none (by rw [cF_len]; omega), List.getElem?_eq_none (by simp; omega)]
theorem cF_set (n : Nat) (D : List Nat) (x : Nat) : (cF n D).set x true = cF n (D ++ [x]) := by
  apply List.ext_getElem?
  intro j
  by_cases h : j < n
  · rw [cF_get _ h, List.getElem?_set, cF_len]
    by_cases e : x = j
    · subst e
      rw [if_pos rfl, if_pos h]
      simp
    · rw [if_neg e, cF_get _ h]
      have e2 : ¬ j = x := fun h => e h.symm
      simp [e2]
  · rw [List.getElem?_eq_none (by rw [List.length_set, cF_len]; omega), List.getElem?_eq_none (by rw [cF_len]; omega)]
def okP (D : List Nat) (x : Nat) (p : Nat × Nat) : Bool := !(p.2 == x) || D.contains p.1
def frK (M : Wt) (D : List Nat) (x i : Nat) : Bool := !(D.contains x) && (M.take i).all (okP D x)
theorem frK_zero (M : Wt) (D : List Nat) (x : Nat) : frK M D x 0 = !(D.contains x) := by unfold frK; simp
theorem frK_step {M : Wt} {D : List Nat} {x i : Nat} {p : Nat × Nat} (hp : M[i]? = some p) : frK M D x (i + 1) = (frK M D x i && okP D x p) := by
  obtain ⟨hi, e⟩ := List.getElem?_eq_some_iff.1 hp
  unfold frK
  rw [List.take_succ_eq_append_getElem hi, e, List.all_append]
  simp [Bool.and_assoc]
theorem frK_all (M : Wt) (D : List Nat) (x : Nat) : frK M D x M.length = frT M D x := by
  unfold frK frT
  rw [List.take_length]
  rfl
theorem nxtT_of {M : Wt} {n : Nat} {D : List Nat} {x : Nat} (hx : x < n) (h : frT M D x = true) (hno : ∀ y, y < x → frT M D y = false) : nxtT M n D = some x := by
  unfold nxtT
  rw [List.find?_range_eq_some]
  refine ⟨h, List.mem_range.2 hx, fun y hy => ?_⟩
  rw [hno y hy]
  rfl
def slN : Value → Nat
  | .slice _ n _ => n
  | _ => 0
end Go.Proofs.YtkfnbapnkmlopaaDoor

/- How a slice of int64s comes in. -/
import Derived.Test.YtkhlmlmbgfnolaaDoorRow
import Derived.Test.YtkhlmlmbgfnolaaDoorL2Back
namespace Go.Proofs.YtkhlmlmbgfnolaaDoor
open Go.ChangeShapes Go.WideShapes Go.ChangeAt Go.RowKit Go.WideMaps Go.WideElems

theorem open_int64s {H : Type} {enc : TypeId × Value → H} {P : Program} {t e : TypeId} {r : Reach} {b0 base : Nat} {sp : Nat → Bool} {held : Bool} {W : World} {v : Value} {d : DataW H} {p : List MemPlace} (ht : P.underlying t = some (.slice e)) (he : P.underlying e = some (.int .i64)) (hc : P.cellsOf e = 1)
    (hval : Value.okWide P W r b0 t v) (h : DataW.Trod enc P W base sp held t v d p) : ∃ (A : Option Addr) (c : Nat) (l : List Int), v = .slice A l.length c ∧ Rd W A (is64 l) ∧ l.length ≤ c ∧ c ≤ maxLen ∧ ∀ z ∈ l, -9223372036854775808 ≤ z ∧ z ≤ 9223372036854775807 := by
  obtain ⟨a0, n0, c0, rfl⟩ := okWide_slice ht hval
  obtain ⟨fuel, hf⟩ := h
  rcases Go.ChangeShapes.open_ints ht he hc hf with ⟨hcs, _⟩ | ⟨a, len, cap, zs, hcs, _, hlc, hcm, hz, _, hcell, hwf⟩
  · simp only [Value.cells, List.cons.injEq, and_true] at hcs
    injection hcs with e1 e2 e3
    subst e1; subst e2; subst e3
    exact ⟨none, 0, [], rfl, Rd.nil, Nat.le_refl _, Nat.zero_le _, fun z h => by cases h⟩
  · simp only [Value.cells, List.cons.injEq, and_true] at hcs
    injection hcs with e1 e2 e3
    subst e1; subst e2; subst e3
    have hzl : n0 ≤ zs.length := by rw [hz]; split <;> omega
    refine ⟨some a, c0, zs.take n0, by rw [List.length_take, Nat.min_eq_left hzl], fun _ => ⟨a, rfl, fun j u hu => ?_⟩, by rw [List.length_take]; omega, hcm, fun z hzm => bounds_i64 (hwf z (List.mem_of_mem_take hzm))⟩
    have hj := (List.getElem?_eq_some_iff.1 hu).1
    simp only [is64, List.length_map, List.length_take] at hj
    have hjz : j < zs.length := by omega
    rw [hcell j hjz]
    simp only [is64, List.getElem?_map, List.getElem?_take, if_pos (show j < n0 by omega), List.getElem?_eq_getElem hjz, Option.map_some, Option.some.injEq] at hu
    rw [← hu]
    simp [List.getD, List.getElem?_eq_getElem hjz]
end Go.Proofs.YtkhlmlmbgfnolaaDoor

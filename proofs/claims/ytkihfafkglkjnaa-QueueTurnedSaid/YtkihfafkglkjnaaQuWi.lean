/- Layer 15: an argument []int, down to its cells (plain seat). -/
import Derived.Test.YtkihfafkglkjnaaRowP
import Derived.Test.YtkihfafkglkjnaaQuMem
namespace Go.Proofs.Ytkihfafkglkjnaa
open Go.ChangeShapes Go.WideShapes Go.ChangeAt Go.RowKit Go.WideMaps Go.WideElems

set_option maxRecDepth 100000 in
theorem open_ints15 {H : Type} {enc : TypeId × Value → H} {r : Reach} {b0 base : Nat} {sp : Nat → Bool} {held : Bool} {W : World} {v : Value} {d : DataW H} {p : List MemPlace}
    (hval : Value.okWide Try.prog W r b0 42 v) (h : DataW.Trod enc Try.prog W base sp held 42 v d p) : ∃ (A : Option Addr) (c : Nat) (l : List Int), v = .slice A l.length c ∧ Rd W A (l.map fun z => .int .i64 z) ∧ l.length ≤ c ∧ c ≤ maxLen ∧ ∀ z ∈ l, -9223372036854775808 ≤ z ∧ z ≤ 9223372036854775807 := by
  obtain ⟨a0, n0, c0, rfl⟩ := okWide_slice Try.underlying42 hval
  obtain ⟨fuel, hf⟩ := h
  rcases Go.ChangeShapes.open_ints Try.underlying42 Try.underlying3 (by kernel_rfl) hf with ⟨hcs, _⟩ | ⟨a, len, cap, zs, hcs, _, hlc, hcm, hz, _, hcell, hwf⟩
  · simp only [Value.cells, List.cons.injEq, and_true] at hcs
    injection hcs with e1 e2 e3
    subst e1; subst e2; subst e3
    exact ⟨none, 0, [], rfl, Rd.nil, Nat.le_refl _, Nat.zero_le _, fun z h => by cases h⟩
  · simp only [Value.cells, List.cons.injEq, and_true] at hcs
    injection hcs with e1 e2 e3
    subst e1; subst e2; subst e3
    have hzl : n0 ≤ zs.length := by rw [hz]; split <;> omega
    refine ⟨some a, c0, zs.take n0, by rw [List.length_take, Nat.min_eq_left hzl], fun _ => ⟨a, rfl, fun j u hu => ?_⟩, by rw [List.length_take]; omega, hcm, fun z hzm => bounds_i64 (hwf z (List.mem_of_mem_take hzm))⟩
    have hj := (List.getElem?_eq_some_iff.1 hu).1
    simp only [List.length_map, List.length_take] at hj
    have hjz : j < zs.length := by omega
    rw [hcell j hjz]
    simp only [List.getElem?_map, List.getElem?_take, if_pos (show j < n0 by omega), List.getElem?_eq_getElem hjz, Option.map_some, Option.some.injEq] at hu
    rw [← hu]
    simp [List.getD, List.getElem?_eq_getElem hjz]
end Go.Proofs.Ytkihfafkglkjnaa

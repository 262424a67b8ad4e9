/- An argument []string. -/
import Derived.Test.YtencapplbedcmaaGreatDoorRow
import Derived.Test.YtencapplbedcmaaGreatDoorLxRW
import Derived.SliceStrings
namespace Go.Proofs.YtencapplbedcmaaGreatDoor
open Go.ChangeShapes Go.WideShapes Go.ChangeAt Go.RowKit Go.WideMaps Go.WideElems

set_option maxRecDepth 100000 in
theorem open_strs {H : Type} {enc : TypeId × Value → H} {r : Reach} {b0 base : Nat} {sp : Nat → Bool} {held : Bool} {W : World} {v : Value} {d : DataW H} {p : List MemPlace}
    (hval : Value.okWide Tryz.prog W r b0 38 v) (h : DataW.Trod enc Tryz.prog W base sp held 38 v d p) : ∃ (A : Option Addr) (c : Nat) (l : List Tx), v = .slice A l.length c ∧ RdS W A l ∧ l.length ≤ c ∧ c ≤ maxLen ∧ ∀ x ∈ l, x.length ≤ maxLen := by
  obtain ⟨a0, n0, c0, rfl⟩ := okWide_slice Tryz.underlying38 hval
  obtain ⟨fuel, hf⟩ := h
  rcases open_strings Tryz.underlying38 Tryz.underlying9 (by kernel_rfl) hf with ⟨hcs, _⟩ | ⟨a, len, cap, zs, hcs, _, hlc, hcm, hz, _, hcell, hwf⟩
  · simp only [Value.cells, List.cons.injEq, and_true] at hcs
    injection hcs with e1 e2 e3
    subst e1; subst e2; subst e3
    exact ⟨none, 0, [], rfl, Rd.nil, Nat.le_refl _, Nat.zero_le _, fun z h => by cases h⟩
  · simp only [Value.cells, List.cons.injEq, and_true] at hcs
    injection hcs with e1 e2 e3
    subst e1; subst e2; subst e3
    have hzl : n0 ≤ zs.length := by rw [hz]; split <;> omega
    refine ⟨some a, c0, (zs.take n0).map fun s => s.data.toList, by rw [List.length_map, List.length_take, Nat.min_eq_left hzl], fun _ => ⟨a, rfl, fun j u hu => ?_⟩, by rw [List.length_map, List.length_take]; omega, hcm, fun z hzm => ?_⟩
    · have hj := (List.getElem?_eq_some_iff.1 hu).1
      simp only [List.length_map, List.length_take] at hj
      have hjz : j < zs.length := by omega
      rw [hcell j hjz]
      simp only [List.map_map, List.getElem?_map, List.getElem?_take, if_pos (show j < n0 by omega), List.getElem?_eq_getElem hjz, Option.map_some, Option.some.injEq] at hu
      rw [← hu]
      simp [List.getD, List.getElem?_eq_getElem hjz, txC, str]
    · obtain ⟨s, hs, rfl⟩ := List.mem_map.1 hzm
      have := hwf s (List.mem_of_mem_take hs)
      rw [Lib.size_eq] at this
      exact this
end Go.Proofs.YtencapplbedcmaaGreatDoor

/- Arrays of ints that come in. -/
import Derived.Test.YthmklmilgcjmlaaDoorRow
import Derived.Deep.Slices
import Derived.ChangeMaps5
import Derived.ProofKit
import Derived.OpenShut
namespace Go.Proofs.YthmklmilgcjmlaaDoor
open Go.ChangeShapes Go.WideShapes Go.ChangeAt Go.RowKit Go.Deep

set_option maxRecDepth 100000 in
/-- An array of 2 ints that came in. -/
theorem open_ints27 {H : Type} {enc : TypeId × Value → H} {r : Reach} {b0 base : Nat} {sp : Nat → Bool} {held : Bool} {W : World} {v : Value} {d : DataW H} {p : List MemPlace}
    (hval : Value.okWide Tryd.prog W r b0 40 v) (h : DataW.Trod enc Tryd.prog W base sp held 40 v d p) :
    ∃ x y : Int, v = .agg #[.int .i64 x, .int .i64 y] ∧ (-9223372036854775808 ≤ x ∧ x ≤ 9223372036854775807) ∧ (-9223372036854775808 ≤ y ∧ y ≤ 9223372036854775807) := by
  obtain ⟨cs, rfl, hsz, _⟩ : ∃ cs, v = .agg cs ∧ cs.size = Tryd.prog.cellsOf 40 ∧ Row.okWide Tryd.prog W r b0 40 cs := by
    simpa [Value.okWide, Tryd.underlying40] using hval
  have c2 : Tryd.prog.cellsOf 40 = 2 := by kernel_rfl
  have c1 : Tryd.prog.cellsOf 3 = 1 := by kernel_rfl
  rw [c2] at hsz
  obtain ⟨l⟩ := cs
  obtain ⟨fuel, hf⟩ := h
  obtain ⟨xs, m, _, _, _, _, hel⟩ := DataW.trod_array Tryd.underlying40 hf
  rw [c1] at hel
  match l, hsz with
  | [a, b], _ =>
    have k0 := hel 0 (by omega)
    have k1 := hel 1 (by omega)
    have hl2 : xs.length = 2 := by assumption
    rw [List.getElem?_eq_getElem (by omega)] at k0 k1
    obtain ⟨z0, e0, _, w0⟩ := DataW.trod_int Tryd.underlying3 k0
    obtain ⟨z1, e1, _, w1⟩ := DataW.trod_int Tryd.underlying3 k1
    simp [Value.cells] at e0 e1
    subst e0 e1
    exact ⟨z0, z1, rfl, bounds_i64 w0, bounds_i64 w1⟩
end Go.Proofs.YthmklmilgcjmlaaDoor

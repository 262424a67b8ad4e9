/- Arrays of ints that come in. -/
import Derived.Test.YthmklmilgcjmlaaRowP
import Derived.Deep.Slices
import Derived.ChangeMaps5
import Derived.ProofKit
import Derived.OpenShut
namespace Go.Proofs.Ythmklmilgcjmlaa
open Go.ChangeShapes Go.WideShapes Go.ChangeAt Go.RowKit Go.Deep

set_option maxRecDepth 100000 in
/-- An array of 2 ints that came in. -/
theorem open_ints27 {H : Type} {enc : TypeId × Value → H} {r : Reach} {b0 base : Nat} {sp : Nat → Bool} {held : Bool} {W : World} {v : Value} {d : DataW H} {p : List MemPlace}
    (hval : Value.okWide Try.prog W r b0 23 v) (h : DataW.Trod enc Try.prog W base sp held 23 v d p) :
    ∃ x y : Int, v = .agg #[.int .i64 x, .int .i64 y] ∧ (-9223372036854775808 ≤ x ∧ x ≤ 9223372036854775807) ∧ (-9223372036854775808 ≤ y ∧ y ≤ 9223372036854775807) := by
  obtain ⟨cs, rfl, hsz, _⟩ : ∃ cs, v = .agg cs ∧ cs.size = Try.prog.cellsOf 23 ∧ Row.okWide Try.prog W r b0 23 cs := by
    simpa [Value.okWide, Try.underlying23] using hval
  have c2 : Try.prog.cellsOf 23 = 2 := by kernel_rfl
  have c1 : Try.prog.cellsOf 3 = 1 := by kernel_rfl
  rw [c2] at hsz
  obtain ⟨l⟩ := cs
  obtain ⟨fuel, hf⟩ := h
  obtain ⟨xs, m, _, _, _, _, hel⟩ := DataW.trod_array Try.underlying23 hf
  rw [c1] at hel
  match l, hsz with
  | [a, b], _ =>
    have k0 := hel 0 (by omega)
    have k1 := hel 1 (by omega)
    have hl2 : xs.length = 2 := by assumption
    rw [List.getElem?_eq_getElem (by omega)] at k0 k1
    obtain ⟨z0, e0, _, w0⟩ := DataW.trod_int Try.underlying3 k0
    obtain ⟨z1, e1, _, w1⟩ := DataW.trod_int Try.underlying3 k1
    simp [Value.cells] at e0 e1
    subst e0 e1
    exact ⟨z0, z1, rfl, bounds_i64 w0, bounds_i64 w1⟩
end Go.Proofs.Ythmklmilgcjmlaa

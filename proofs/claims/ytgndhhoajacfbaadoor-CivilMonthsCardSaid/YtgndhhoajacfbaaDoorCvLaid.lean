/- What the rows' lists give: civil's table; the handle of errors.errorType. And how a date comes in. -/
import Derived.Test.YtgndhhoajacfbaaDoorRow
import Derived.Test.YtgndhhoajacfbaaDoorCvB
import Derived.Test.YtgndhhoajacfbaaDoorCvD
import Derived.Test.YtgndhhoajacfbaaDoorErr
import Derived.Lib.SmallJoins
namespace Go.Proofs.YtgndhhoajacfbaaDoor
open Go.ChangeShapes Go.WideShapes Go.ChangeAt Go.RowKit

theorem g_len : Tryd.prog.globalNamed "belvedere/civil.lengths" = some 0 := by kernel_rfl
theorem gt_len : (Tryd.prog.globals[0]?).map (·.type) = some 48 := by kernel_rfl
theorem cells_len : Tryd.prog.cellsOf 48 = 12 := by kernel_rfl
theorem cells_int : Tryd.prog.cellsOf 3 = 1 := by kernel_rfl
def lenList : List Int := [31, 28, 31, 30, 31, 30, 31, 31, 30, 31, 30, 31]
theorem tab_of_laid {W : World} {rest : List (String × DataW Unit)} (h : laidMet Tryd.prog (("belvedere/civil.lengths", Rows.laid_belvedere_civil_lengths) :: rest) W) : Tab W := by
  have ht : Lib.TabIs Tryd.prog W "belvedere/civil.lengths" .i64 lenList := Lib.tabIs_of_head (rest := rest) g_len gt_len Tryd.underlying48 Tryd.underlying3 cells_int cells_len h
  intro i hi
  rw [ht.cell g_len i hi]
  have : ∀ j : Fin 12, lenList.getD j 0 = mtab (j + 1) := by decide
  rw [this ⟨i, hi⟩]

theorem g_errT : Tryd.prog.globalNamed "errors.errorType" = some 1 := by kernel_rfl
theorem rt_errT : (Tryd.prog.cutTypes.find? (·.1 == "internal/reflectlite.rtype")).map (·.2) = some 62 := by kernel_rfl
theorem size_types : Tryd.prog.types.size = 105 := by kernel_rfl
theorem oneRow_err : ((List.range 105).filter fun t => Tryd.prog.rowNamed t [101, 114, 114, 111, 114]) = [25] := by kernel_rfl
theorem err_of_handles {W : World} {hs : List (String × DataW Unit)} (h : handlesMet Tryd.prog (("errors.errorType", Rows.laid_errors_errorType) :: hs) W) : ErrT W := by
  obtain ⟨name, u, ty, e1, e2, e3, e4, e5⟩ := h _ (List.mem_cons_self)
  have en : name = [101, 114, 114, 111, 114] := (Option.some.inj e1).symm
  subst en
  obtain rfl := Option.some.inj (rt_errT.symm.trans e2)
  have hm : ty ∈ (List.range 105).filter fun t => Tryd.prog.rowNamed t [101, 114, 114, 111, 114] := List.mem_filter.2 ⟨List.mem_range.2 (by rw [← size_types]; exact e3), e4⟩
  rw [oneRow_err] at hm
  obtain rfl := List.mem_singleton.1 hm
  have hh : typeHandle Tryd.prog 25 = .pointer (some ⟨2, 25, none⟩) := by kernel_rfl
  rw [hh] at e5
  unfold ErrT
  simpa using World.var?_cell g_errT e5 0
theorem laid_T {W : World} (h : laidMetH Tryd.prog [("belvedere/civil.lengths", Rows.laid_belvedere_civil_lengths)] W) : Tab W := tab_of_laid (rest := []) h
theorem laid_ET {W : World} (h : laidMetH Tryd.prog [("errors.errorType", Rows.laid_errors_errorType), ("belvedere/civil.lengths", Rows.laid_belvedere_civil_lengths)] W) : Tab W ∧ ErrT W := by
  have h' : laidMet Tryd.prog [("belvedere/civil.lengths", Rows.laid_belvedere_civil_lengths)] W ∧ handlesMet Tryd.prog [("errors.errorType", Rows.laid_errors_errorType)] W := h
  exact ⟨tab_of_laid (rest := []) h'.1, err_of_handles h'.2⟩

set_option maxRecDepth 100000 in
/-- A date that came in. -/
theorem open_date {H : Type} {enc : TypeId × Value → H} {r : Reach} {b0 base : Nat} {sp : Nat → Bool} {held : Bool} {W : World} {v : Value} {d : DataW H} {p : List MemPlace}
    (hval : Value.okWide Tryd.prog W r b0 23 v) (h : DataW.Trod enc Tryd.prog W base sp held 23 v d p) :
    ∃ y m d : Int, v = dt y m d := by
  obtain ⟨v0, v1, v2, y0, y1, y2, n, rfl, _, _, h0, h1, h2⟩ := Joins.open_agg3 (enc := enc) Tryd.underlying23 (by kernel_rfl) (by kernel_rfl) hval h
  obtain ⟨x0, e0, _, _⟩ := DataW.trod_int Tryd.underlying3 h0
  obtain ⟨x1, e1, _, _⟩ := DataW.trod_int Tryd.underlying3 h1
  obtain ⟨x2, e2, _, _⟩ := DataW.trod_int Tryd.underlying3 h2
  simp only [List.cons.injEq, and_true] at e0 e1 e2
  subst e0 e1 e2
  exact ⟨x0, x1, x2, rfl⟩
end Go.Proofs.YtgndhhoajacfbaaDoor

/- What the rows' lists give: crc's table; the handle of errors.errorType. A start for the witness. -/
import Derived.Test.YtbemloijgabfcaaDoorRow
import Derived.Test.YtbemloijgabfcaaDoorCrcA
import Derived.Test.YtbemloijgabfcaaDoorErr
namespace Go.Proofs.YtbemloijgabfcaaDoor
open Go.ChangeShapes Go.WideShapes Go.ChangeAt Go.RowKit

theorem g_turns : Tryd.prog.globalNamed "belvedere/crc.turns" = some 0 := by kernel_rfl
theorem gt_turns : (Tryd.prog.globals[0]?).map (·.type) = some 49 := by kernel_rfl
theorem cells_turns : Tryd.prog.cellsOf 49 = 16 := by kernel_rfl
theorem cells_u32 : Tryd.prog.cellsOf 23 = 1 := by kernel_rfl
def tblList : List Int := [0, 498536548, 997073096, 651767980, 1994146192, 1802195444, 1303535960, 1342533948, 3988292384, 4027552580, 3604390888, 3412177804, 2607071920, 2262029012, 2685067896, 3183342108]
theorem tab_of_laid {W : World} {rest : List (String × DataW Unit)} (h : laidMet Tryd.prog (("belvedere/crc.turns", Rows.laid_belvedere_crc_turns) :: rest) W) : Tab W := by
  have ht : Lib.TabIs Tryd.prog W "belvedere/crc.turns" .u32 tblList := Lib.tabIs_of_head (rest := rest) g_turns gt_turns Tryd.underlying49 Tryd.underlying23 cells_u32 cells_turns h
  intro i hi
  rw [ht.cell g_turns i hi]
  have : ∀ j : Fin 16, tblList.getD j 0 = ((tbl j : Nat) : Int) := by decide
  rw [this ⟨i, hi⟩]

theorem g_errT : Tryd.prog.globalNamed "errors.errorType" = some 1 := by kernel_rfl
theorem rt_errT : (Tryd.prog.cutTypes.find? (·.1 == "internal/reflectlite.rtype")).map (·.2) = some 63 := by kernel_rfl
theorem size_types : Tryd.prog.types.size = 105 := by kernel_rfl
theorem oneRow_err : ((List.range 105).filter fun t => Tryd.prog.rowNamed t [101, 114, 114, 111, 114]) = [29] := by kernel_rfl
theorem err_of_handles {W : World} {hs : List (String × DataW Unit)} (h : handlesMet Tryd.prog (("errors.errorType", Rows.laid_errors_errorType) :: hs) W) : ErrT W := by
  obtain ⟨name, u, ty, e1, e2, e3, e4, e5⟩ := h _ (List.mem_cons_self)
  have en : name = [101, 114, 114, 111, 114] := (Option.some.inj e1).symm
  subst en
  obtain rfl := Option.some.inj (rt_errT.symm.trans e2)
  have hm : ty ∈ (List.range 105).filter fun t => Tryd.prog.rowNamed t [101, 114, 114, 111, 114] := List.mem_filter.2 ⟨List.mem_range.2 (by rw [← size_types]; exact e3), e4⟩
  rw [oneRow_err] at hm
  obtain rfl := List.mem_singleton.1 hm
  have hh : typeHandle Tryd.prog 29 = .pointer (some ⟨2, 29, none⟩) := by kernel_rfl
  rw [hh] at e5
  unfold ErrT
  simpa using World.var?_cell g_errT e5 0

theorem laid_T {W : World} (h : laidMetH Tryd.prog [("belvedere/crc.turns", Rows.laid_belvedere_crc_turns)] W) : Tab W := tab_of_laid (rest := []) h
theorem laid_ET {W : World} (h : laidMetH Tryd.prog [("errors.errorType", Rows.laid_errors_errorType), ("belvedere/crc.turns", Rows.laid_belvedere_crc_turns)] W) : Tab W ∧ ErrT W := by
  have h' : laidMet Tryd.prog [("belvedere/crc.turns", Rows.laid_belvedere_crc_turns)] W ∧ handlesMet Tryd.prog [("errors.errorType", Rows.laid_errors_errorType)] W := h
  exact ⟨tab_of_laid (rest := []) h'.1, err_of_handles h'.2⟩
end Go.Proofs.YtbemloijgabfcaaDoor

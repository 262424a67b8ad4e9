/- What the rows' lists give: civil's table and the table of bit numbers. -/
import Derived.Test.YtlogapkpllgdcaaDoorRow
import Derived.Test.YtlogapkpllgdcaaDoorPdNext
import Derived.Lib.LaidTab
import Derived.Stop.LaidErr
namespace Go.Proofs.YtlogapkpllgdcaaDoor
open Go.ChangeShapes Go.WideShapes Go.ChangeAt Go.RowKit

theorem g_len : Tryd.prog.globalNamed "belvedere/civil.lengths" = some 1 := by kernel_rfl
theorem gt_len : (Tryd.prog.globals[1]?).map (·.type) = some 121 := by kernel_rfl
theorem cells_len : Tryd.prog.cellsOf 121 = 12 := by kernel_rfl
theorem cells_int : Tryd.prog.cellsOf 3 = 1 := by kernel_rfl
def lenList : List Int := [31, 28, 31, 30, 31, 30, 31, 31, 30, 31, 30, 31]
theorem tab_of_laid {W : World} {rest : List (String × DataW Unit)} (h : laidMet Tryd.prog (("belvedere/civil.lengths", Rows.laid_belvedere_civil_lengths) :: rest) W) : Tab W := by
  have ht : Lib.TabIs Tryd.prog W "belvedere/civil.lengths" .i64 lenList := Lib.tabIs_of_head (rest := rest) g_len gt_len Tryd.underlying121 Tryd.underlying3 cells_int cells_len h
  intro i hi
  rw [ht.cell g_len i hi]
  have : ∀ j : Fin 12, lenList.getD j 0 = mtab (j + 1) := by decide
  rw [this ⟨i, hi⟩]
theorem g_bru : Tryd.prog.globalNamed "math/bits.deBruijn64tab" = some 0 := by kernel_rfl
theorem gt_bru : (Tryd.prog.globals[0]?).map (·.type) = some 109 := by kernel_rfl
theorem cells_bru : Tryd.prog.cellsOf 109 = 64 := by kernel_rfl
theorem cells_u8 : Tryd.prog.cellsOf 5 = 1 := by kernel_rfl
def bruList : List Int := [0, 1, 56, 2, 57, 49, 28, 3, 61, 58, 42, 50, 38, 29, 17, 4, 62, 47, 59, 36, 45, 43, 51, 22, 53, 39, 33, 30, 24, 18, 12, 5, 63, 55, 48, 27, 60, 41, 37, 16, 46, 35, 44, 21, 52, 32, 23, 11, 54, 26, 40, 15, 34, 20, 31, 10, 25, 14, 19, 9, 13, 8, 7, 6]
theorem tz_of_laid {W : World} {rest : List (String × DataW Unit)} (h : laidMet Tryd.prog (("math/bits.deBruijn64tab", Rows.laid_math_bits_deBruijn64tab) :: rest) W) : Tz W := by
  have ht : Lib.TabIs Tryd.prog W "math/bits.deBruijn64tab" .u8 bruList := Lib.tabIs_of_head (rest := rest) g_bru gt_bru Tryd.underlying109 Tryd.underlying5 cells_u8 cells_bru h
  intro i hi
  rw [ht.cell g_bru i hi]
  have : ∀ j : Fin 64, bruList.getD j 0 = ((Lib.deBruijn64tab.getD j 0 : Nat) : Int) := by decide
  rw [this ⟨i, hi⟩]
abbrev listP : List (String × DataW Unit) := [("math/bits.deBruijn64tab", Rows.laid_math_bits_deBruijn64tab), ("belvedere/civil.lengths", Rows.laid_belvedere_civil_lengths)]
theorem laid_Z {W : World} (h : laidMetH Tryd.prog listP W) : Tab W ∧ Tz W := by
  have h' : laidMet Tryd.prog listP W := h
  exact ⟨tab_of_laid h'.tail, tz_of_laid h'⟩
end Go.Proofs.YtlogapkpllgdcaaDoor

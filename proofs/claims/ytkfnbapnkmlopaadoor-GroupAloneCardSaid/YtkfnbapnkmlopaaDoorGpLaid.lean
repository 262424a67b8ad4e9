/- What the rows' lists give: the table of trailing zeros. -/
import Derived.Test.YtkfnbapnkmlopaaDoorRow
import Derived.Test.YtkfnbapnkmlopaaDoorGpTz
import Derived.Lib.LaidTab
import Derived.Stop.LaidErr
namespace Go.Proofs.YtkfnbapnkmlopaaDoor
open Go.ChangeShapes Go.WideShapes Go.ChangeAt Go.RowKit

theorem g_bru : Tryd.prog.globalNamed "math/bits.deBruijn64tab" = some 1 := by kernel_rfl
theorem gt_bru : (Tryd.prog.globals[1]?).map (·.type) = some 113 := by kernel_rfl
theorem cells_bru : Tryd.prog.cellsOf 113 = 64 := by kernel_rfl
theorem cells_u8 : Tryd.prog.cellsOf 5 = 1 := by kernel_rfl
def bruList : List Int := [0, 1, 56, 2, 57, 49, 28, 3, 61, 58, 42, 50, 38, 29, 17, 4, 62, 47, 59, 36, 45, 43, 51, 22, 53, 39, 33, 30, 24, 18, 12, 5, 63, 55, 48, 27, 60, 41, 37, 16, 46, 35, 44, 21, 52, 32, 23, 11, 54, 26, 40, 15, 34, 20, 31, 10, 25, 14, 19, 9, 13, 8, 7, 6]
theorem tz_of_laid {W : World} {rest : List (String × DataW Unit)} (h : laidMet Tryd.prog (("math/bits.deBruijn64tab", Rows.laid_math_bits_deBruijn64tab) :: rest) W) : Tz W := by
  have ht : Lib.TabIs Tryd.prog W "math/bits.deBruijn64tab" .u8 bruList := Lib.tabIs_of_head (rest := rest) g_bru gt_bru Tryd.underlying113 Tryd.underlying5 cells_u8 cells_bru h
  intro i hi
  rw [ht.cell g_bru i hi]
  have : ∀ j : Fin 64, bruList.getD j 0 = ((Lib.deBruijn64tab.getD j 0 : Nat) : Int) := by decide
  rw [this ⟨i, hi⟩]
theorem laid_D {W : World} (h : laidMetH Tryd.prog [("math/bits.deBruijn64tab", Rows.laid_math_bits_deBruijn64tab)] W) : Tz W := by
  have h' : laidMet Tryd.prog [("math/bits.deBruijn64tab", Rows.laid_math_bits_deBruijn64tab)] W := h
  exact tz_of_laid h'
end Go.Proofs.YtkfnbapnkmlopaaDoor

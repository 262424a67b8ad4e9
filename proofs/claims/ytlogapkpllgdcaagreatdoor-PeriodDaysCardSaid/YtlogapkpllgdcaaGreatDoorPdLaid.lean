/- What the rows' lists give: civil's table and the table of bit numbers. -/
import Derived.Test.YtlogapkpllgdcaaGreatDoorRow
import Derived.Test.YtlogapkpllgdcaaGreatDoorPdNs
import Derived.Lib.LaidTab
import Derived.Stop.LaidErr
namespace Go.Proofs.YtlogapkpllgdcaaGreatDoor
open Go.ChangeShapes Go.WideShapes Go.ChangeAt Go.RowKit

theorem g_len : Tryz.prog.globalNamed "belvedere/civil.lengths" = some 2 := by kernel_rfl
theorem gt_len : (Tryz.prog.globals[2]?).map (·.type) = some 168 := by kernel_rfl
theorem cells_len : Tryz.prog.cellsOf 168 = 12 := by kernel_rfl
theorem cells_int : Tryz.prog.cellsOf 3 = 1 := by kernel_rfl
def lenList : List Int := [31, 28, 31, 30, 31, 30, 31, 31, 30, 31, 30, 31]
theorem tab_of_laid {W : World} {rest : List (String × DataW Unit)} (h : laidMet Tryz.prog (("belvedere/civil.lengths", Rows.laid_belvedere_civil_lengths) :: rest) W) : Tab W := by
  have ht : Lib.TabIs Tryz.prog W "belvedere/civil.lengths" .i64 lenList := Lib.tabIs_of_head (rest := rest) g_len gt_len Tryz.underlying168 Tryz.underlying3 cells_int cells_len h
  intro i hi
  rw [ht.cell g_len i hi]
  have : ∀ j : Fin 12, lenList.getD j 0 = mtab (j + 1) := by decide
  rw [this ⟨i, hi⟩]
theorem g_bru : Tryz.prog.globalNamed "math/bits.deBruijn64tab" = some 1 := by kernel_rfl
theorem gt_bru : (Tryz.prog.globals[1]?).map (·.type) = some 163 := by kernel_rfl
theorem cells_bru : Tryz.prog.cellsOf 163 = 64 := by kernel_rfl
theorem cells_u8 : Tryz.prog.cellsOf 5 = 1 := by kernel_rfl
def bruList : List Int := [0, 1, 56, 2, 57, 49, 28, 3, 61, 58, 42, 50, 38, 29, 17, 4, 62, 47, 59, 36, 45, 43, 51, 22, 53, 39, 33, 30, 24, 18, 12, 5, 63, 55, 48, 27, 60, 41, 37, 16, 46, 35, 44, 21, 52, 32, 23, 11, 54, 26, 40, 15, 34, 20, 31, 10, 25, 14, 19, 9, 13, 8, 7, 6]
theorem tz_of_laid {W : World} {rest : List (String × DataW Unit)} (h : laidMet Tryz.prog (("math/bits.deBruijn64tab", Rows.laid_math_bits_deBruijn64tab) :: rest) W) : Tz W := by
  have ht : Lib.TabIs Tryz.prog W "math/bits.deBruijn64tab" .u8 bruList := Lib.tabIs_of_head (rest := rest) g_bru gt_bru Tryz.underlying163 Tryz.underlying5 cells_u8 cells_bru h
  intro i hi
  rw [ht.cell g_bru i hi]
  have : ∀ j : Fin 64, bruList.getD j 0 = ((Lib.deBruijn64tab.getD j 0 : Nat) : Int) := by decide
  rw [this ⟨i, hi⟩]
abbrev listP : List (String × DataW Unit) := [("math/bits.deBruijn64tab", Rows.laid_math_bits_deBruijn64tab), ("belvedere/civil.lengths", Rows.laid_belvedere_civil_lengths)]
theorem laid_Z {W : World} (h : laidMetH Tryz.prog listP W) : Tab W ∧ Tz W := by
  have h' : laidMet Tryz.prog listP W := h
  exact ⟨tab_of_laid h'.tail, tz_of_laid h'⟩
end Go.Proofs.YtlogapkpllgdcaaGreatDoor

/- What the rows' lists give: the table of trailing zeros, and the handle of errors.errorType. -/
import Derived.Test.YtkfnbapnkmlopaaDoorGpLaid
import Derived.Test.YtkfnbapnkmlopaaDoorLaidE
namespace Go.Proofs.YtkfnbapnkmlopaaDoor
open Go.ChangeShapes Go.WideShapes Go.ChangeAt Go.RowKit

theorem laid_DE {W : World} (h : laidMetH Tryd.prog [("math/bits.deBruijn64tab", Rows.laid_math_bits_deBruijn64tab), ("errors.errorType", Rows.laid_errors_errorType)] W) : Tz W ∧ ErrT W := by
  have h' : laidMet Tryd.prog [("math/bits.deBruijn64tab", Rows.laid_math_bits_deBruijn64tab)] W ∧ handlesMet Tryd.prog [("errors.errorType", Rows.laid_errors_errorType)] W := h
  exact ⟨tz_of_laid h'.1, err_of_handles h'.2⟩
end Go.Proofs.YtkfnbapnkmlopaaDoor

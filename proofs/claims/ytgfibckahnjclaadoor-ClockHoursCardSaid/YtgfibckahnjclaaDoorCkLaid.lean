/- What the rows' lists give: civil's table; the library's table of tens; the handle of errors.errorType. And how an array of two ints comes in. -/
import Derived.Test.YtgfibckahnjclaaDoorRow
import Derived.Test.YtgfibckahnjclaaDoorCvB
import Derived.Test.YtgfibckahnjclaaDoorCkE
import Derived.Test.YtgfibckahnjclaaDoorErr
import Derived.Stop.LaidErr
namespace Go.Proofs.YtgfibckahnjclaaDoor
open Go.ChangeShapes Go.WideShapes Go.ChangeAt Go.RowKit

theorem g_len : Tryd.prog.globalNamed "belvedere/civil.lengths" = some 1 := by kernel_rfl
theorem gt_len : (Tryd.prog.globals[1]?).map (·.type) = some 98 := by kernel_rfl
theorem cells_len : Tryd.prog.cellsOf 98 = 12 := by kernel_rfl
theorem cells_int : Tryd.prog.cellsOf 3 = 1 := by kernel_rfl
def lenList : List Int := [31, 28, 31, 30, 31, 30, 31, 31, 30, 31, 30, 31]
theorem tab_of_laid {W : World} {rest : List (String × DataW Unit)} (h : laidMet Tryd.prog (("belvedere/civil.lengths", Rows.laid_belvedere_civil_lengths) :: rest) W) : Tab W := by
  have ht : Lib.TabIs Tryd.prog W "belvedere/civil.lengths" .i64 lenList := Lib.tabIs_of_head (rest := rest) g_len gt_len Tryd.underlying98 Tryd.underlying3 cells_int cells_len h
  intro i hi
  rw [ht.cell g_len i hi]
  have : ∀ j : Fin 12, lenList.getD j 0 = mtab (j + 1) := by decide
  rw [this ⟨i, hi⟩]
theorem g_pow : Tryd.prog.globalNamed "internal/strconv.uint64pow10" = some 2 := by kernel_rfl
theorem gt_pow : (Tryd.prog.globals[2]?).map (·.type) = some 115 := by kernel_rfl
theorem cells_pow : Tryd.prog.cellsOf 115 = 20 := by kernel_rfl
theorem cells_u64 : Tryd.prog.cellsOf 104 = 1 := by kernel_rfl
def powList : List Int := [1, 10, 100, 1000, 10000, 100000, 1000000, 10000000, 100000000, 1000000000, 10000000000, 100000000000, 1000000000000, 10000000000000, 100000000000000, 1000000000000000, 10000000000000000, 100000000000000000, 1000000000000000000, 10000000000000000000]
theorem powList_eq : powList = Lib.pow10Tab := by decide
theorem pow_of_laid {W : World} {rest : List (String × DataW Unit)} (h : laidMet Tryd.prog (("internal/strconv.uint64pow10", Rows.laid_internal_strconv_uint64pow10) :: rest) W) : Pow W := by
  have ht : Lib.TabIs Tryd.prog W "internal/strconv.uint64pow10" .u64 powList := Lib.tabIs_of_head (rest := rest) g_pow gt_pow Tryd.underlying115 Tryd.underlying104 cells_u64 cells_pow h
  rw [powList_eq] at ht
  exact ht

theorem g_errT : Tryd.prog.globalNamed "errors.errorType" = some 0 := by kernel_rfl
theorem rt_errT : (Tryd.prog.cutTypes.find? (·.1 == "internal/reflectlite.rtype")).map (·.2) = some 85 := by kernel_rfl
theorem size_types : Tryd.prog.types.size = 157 := by kernel_rfl
theorem oneRow_err : ((List.range 157).filter fun t => Tryd.prog.rowNamed t [101, 114, 114, 111, 114]) = [26] := by kernel_rfl
theorem err_of_handles {W : World} {hs : List (String × DataW Unit)} (h : handlesMet Tryd.prog (("errors.errorType", Rows.laid_errors_errorType) :: hs) W) : ErrT W := by
  obtain ⟨name, u, ty, e1, e2, e3, e4, e5⟩ := h _ (List.mem_cons_self)
  have en : name = [101, 114, 114, 111, 114] := (Option.some.inj e1).symm
  subst en
  obtain rfl := Option.some.inj (rt_errT.symm.trans e2)
  have hm : ty ∈ (List.range 157).filter fun t => Tryd.prog.rowNamed t [101, 114, 114, 111, 114] := List.mem_filter.2 ⟨List.mem_range.2 (by rw [← size_types]; exact e3), e4⟩
  rw [oneRow_err] at hm
  obtain rfl := List.mem_singleton.1 hm
  have hh : typeHandle Tryd.prog 26 = .pointer (some ⟨8, 26, none⟩) := by kernel_rfl
  rw [hh] at e5
  unfold ErrT
  simpa using World.var?_cell g_errT e5 0
theorem laid_TP {W : World} (h : laidMetH Tryd.prog [("math/bits.deBruijn32tab", Rows.laid_math_bits_deBruijn32tab), ("math/bits.deBruijn64tab", Rows.laid_math_bits_deBruijn64tab), ("internal/strconv.uint64pow10", Rows.laid_internal_strconv_uint64pow10), ("belvedere/civil.lengths", Rows.laid_belvedere_civil_lengths)] W) : Tab W ∧ Pow W := by
  have h' : laidMet Tryd.prog [("math/bits.deBruijn32tab", Rows.laid_math_bits_deBruijn32tab), ("math/bits.deBruijn64tab", Rows.laid_math_bits_deBruijn64tab), ("internal/strconv.uint64pow10", Rows.laid_internal_strconv_uint64pow10), ("belvedere/civil.lengths", Rows.laid_belvedere_civil_lengths)] W := h
  exact ⟨tab_of_laid h'.tail.tail.tail, pow_of_laid h'.tail.tail⟩
theorem laid_TPE {W : World} (h : laidMetH Tryd.prog [("math/bits.deBruijn32tab", Rows.laid_math_bits_deBruijn32tab), ("math/bits.deBruijn64tab", Rows.laid_math_bits_deBruijn64tab), ("internal/strconv.uint64pow10", Rows.laid_internal_strconv_uint64pow10), ("errors.errorType", Rows.laid_errors_errorType), ("belvedere/civil.lengths", Rows.laid_belvedere_civil_lengths)] W) : Tab W ∧ Pow W ∧ ErrT W := by
  have h' : laidMet Tryd.prog [("math/bits.deBruijn32tab", Rows.laid_math_bits_deBruijn32tab), ("math/bits.deBruijn64tab", Rows.laid_math_bits_deBruijn64tab), ("internal/strconv.uint64pow10", Rows.laid_internal_strconv_uint64pow10), ("belvedere/civil.lengths", Rows.laid_belvedere_civil_lengths)] W ∧ handlesMet Tryd.prog [("errors.errorType", Rows.laid_errors_errorType)] W := h
  exact ⟨tab_of_laid h'.1.tail.tail.tail, pow_of_laid h'.1.tail.tail, err_of_handles h'.2⟩
set_option maxRecDepth 100000 in
theorem laid_TPEX {W : World} (h : laidMetH Tryd.prog [("math/bits.deBruijn32tab", Rows.laid_math_bits_deBruijn32tab), ("math/bits.deBruijn64tab", Rows.laid_math_bits_deBruijn64tab), ("internal/strconv.uint64pow10", Rows.laid_internal_strconv_uint64pow10), ("unicode/utf8.acceptRanges", Rows.laid_unicode_utf8_acceptRanges), ("errors.errorType", Rows.laid_errors_errorType), ("belvedere/civil.lengths", Rows.laid_belvedere_civil_lengths), ("unicode/utf8.first", Rows.laid_unicode_utf8_first)] W) : Tab W ∧ Pow W ∧ ErrT W := by
  have h' : laidMet Tryd.prog [("math/bits.deBruijn32tab", Rows.laid_math_bits_deBruijn32tab), ("math/bits.deBruijn64tab", Rows.laid_math_bits_deBruijn64tab), ("internal/strconv.uint64pow10", Rows.laid_internal_strconv_uint64pow10), ("unicode/utf8.acceptRanges", Rows.laid_unicode_utf8_acceptRanges), ("belvedere/civil.lengths", Rows.laid_belvedere_civil_lengths), ("unicode/utf8.first", Rows.laid_unicode_utf8_first)] W ∧ handlesMet Tryd.prog [("errors.errorType", Rows.laid_errors_errorType)] W := h
  exact ⟨tab_of_laid h'.1.tail.tail.tail.tail, pow_of_laid h'.1.tail.tail, err_of_handles h'.2⟩
set_option maxRecDepth 100000 in
theorem laid_TPX {W : World} (h : laidMetH Tryd.prog [("math/bits.deBruijn32tab", Rows.laid_math_bits_deBruijn32tab), ("math/bits.deBruijn64tab", Rows.laid_math_bits_deBruijn64tab), ("internal/strconv.uint64pow10", Rows.laid_internal_strconv_uint64pow10), ("unicode/utf8.acceptRanges", Rows.laid_unicode_utf8_acceptRanges), ("belvedere/civil.lengths", Rows.laid_belvedere_civil_lengths), ("unicode/utf8.first", Rows.laid_unicode_utf8_first)] W) : Tab W ∧ Pow W := by
  have h' : laidMet Tryd.prog [("math/bits.deBruijn32tab", Rows.laid_math_bits_deBruijn32tab), ("math/bits.deBruijn64tab", Rows.laid_math_bits_deBruijn64tab), ("internal/strconv.uint64pow10", Rows.laid_internal_strconv_uint64pow10), ("unicode/utf8.acceptRanges", Rows.laid_unicode_utf8_acceptRanges), ("belvedere/civil.lengths", Rows.laid_belvedere_civil_lengths), ("unicode/utf8.first", Rows.laid_unicode_utf8_first)] W := h
  exact ⟨tab_of_laid h'.tail.tail.tail.tail, pow_of_laid h'.tail.tail⟩

set_option maxRecDepth 100000 in
/-- An array of two ints that came in. -/
theorem open_ints2 {H : Type} {enc : TypeId × Value → H} {r : Reach} {b0 base : Nat} {sp : Nat → Bool} {held : Bool} {W : World} {v : Value} {d : DataW H} {p : List MemPlace}
    (hval : Value.okWide Tryd.prog W r b0 22 v) (h : DataW.Trod enc Tryd.prog W base sp held 22 v d p) :
    ∃ x y : Int, v = .agg #[.int .i64 x, .int .i64 y] := by
  obtain ⟨cs, rfl, hsz, _⟩ : ∃ cs, v = .agg cs ∧ cs.size = Tryd.prog.cellsOf 22 ∧ Row.okWide Tryd.prog W r b0 22 cs := by
    simpa [Value.okWide, Tryd.underlying22] using hval
  have c2 : Tryd.prog.cellsOf 22 = 2 := by kernel_rfl
  rw [c2] at hsz
  obtain ⟨l⟩ := cs
  obtain ⟨fuel, hf⟩ := h
  obtain ⟨xs, m, _, _, _, _, hel⟩ := DataW.trod_array Tryd.underlying22 hf
  rw [cells_int] at hel
  match l, hsz with
  | [a, b], _ =>
    have k0 := hel 0 (by omega)
    have k1 := hel 1 (by omega)
    have hl2 : xs.length = 2 := by assumption
    rw [List.getElem?_eq_getElem (by omega)] at k0 k1
    obtain ⟨z0, e0, _, _⟩ := DataW.trod_int Tryd.underlying3 k0
    obtain ⟨z1, e1, _, _⟩ := DataW.trod_int Tryd.underlying3 k1
    simp [Value.cells] at e0 e1
    subst e0 e1
    exact ⟨z0, z1, rfl⟩
end Go.Proofs.YtgfibckahnjclaaDoor

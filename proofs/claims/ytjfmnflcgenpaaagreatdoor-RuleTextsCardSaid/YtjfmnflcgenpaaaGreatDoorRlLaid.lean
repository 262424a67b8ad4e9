/- What the rows' lists give: civil's table; the library's table of tens; its two errors of numbers; the handle of errors.errorType. And how a rule comes in. -/
import Derived.Test.YtjfmnflcgenpaaaGreatDoorRow
import Derived.Test.YtjfmnflcgenpaaaGreatDoorRlF
import Derived.Stop.LaidErr
import Derived.Lib.SmallJoins
namespace Go.Proofs.YtjfmnflcgenpaaaGreatDoor
open Go.ChangeShapes Go.WideShapes Go.ChangeAt Go.RowKit

theorem g_len : Tryz.prog.globalNamed "belvedere/civil.lengths" = some 1 := by kernel_rfl
theorem gt_len : (Tryz.prog.globals[1]?).map (·.type) = some 101 := by kernel_rfl
theorem cells_len : Tryz.prog.cellsOf 101 = 12 := by kernel_rfl
theorem cells_int : Tryz.prog.cellsOf 3 = 1 := by kernel_rfl
def lenList : List Int := [31, 28, 31, 30, 31, 30, 31, 31, 30, 31, 30, 31]
theorem tab_of_laid {W : World} {rest : List (String × DataW Unit)} (h : laidMet Tryz.prog (("belvedere/civil.lengths", Rows.laid_belvedere_civil_lengths) :: rest) W) : Tab W := by
  have ht : Lib.TabIs Tryz.prog W "belvedere/civil.lengths" .i64 lenList := Lib.tabIs_of_head (rest := rest) g_len gt_len Tryz.underlying101 Tryz.underlying3 cells_int cells_len h
  intro i hi
  rw [ht.cell g_len i hi]
  have : ∀ j : Fin 12, lenList.getD j 0 = mtab (j + 1) := by decide
  rw [this ⟨i, hi⟩]
theorem g_pow : Tryz.prog.globalNamed "internal/strconv.uint64pow10" = some 3 := by kernel_rfl
theorem gt_pow : (Tryz.prog.globals[3]?).map (·.type) = some 145 := by kernel_rfl
theorem cells_pow : Tryz.prog.cellsOf 145 = 20 := by kernel_rfl
theorem cells_u64 : Tryz.prog.cellsOf 129 = 1 := by kernel_rfl
def powList : List Int := [1, 10, 100, 1000, 10000, 100000, 1000000, 10000000, 100000000, 1000000000, 10000000000, 100000000000, 1000000000000, 10000000000000, 100000000000000, 1000000000000000, 10000000000000000, 100000000000000000, 1000000000000000000, 10000000000000000000]
theorem powList_eq : powList = Lib.pow10Tab := by decide
theorem pow_of_laid {W : World} {rest : List (String × DataW Unit)} (h : laidMet Tryz.prog (("internal/strconv.uint64pow10", Rows.laid_internal_strconv_uint64pow10) :: rest) W) : Pow W := by
  have ht : Lib.TabIs Tryz.prog W "internal/strconv.uint64pow10" .u64 powList := Lib.tabIs_of_head (rest := rest) g_pow gt_pow Tryz.underlying145 Tryz.underlying129 cells_u64 cells_pow h
  rw [powList_eq] at ht
  exact ht


theorem g_rng : Tryz.prog.globalNamed "strconv.ErrRange" = some 5 := by kernel_rfl
theorem gt_rng : (Tryz.prog.globals[5]?).map (·.type) = some 27 := by kernel_rfl
theorem g_syn : Tryz.prog.globalNamed "strconv.ErrSyntax" = some 4 := by kernel_rfl
theorem gt_syn : (Tryz.prog.globals[4]?).map (·.type) = some 27 := by kernel_rfl
theorem cells_es : Tryz.prog.cellsOf 162 = 1 := by kernel_rfl
theorem cells_str : Tryz.prog.cellsOf 9 = 1 := by kernel_rfl
theorem star_es : "*" ++ "errors.errorString" = "*errors.errorString" := by decide
theorem row_es (u : TypeId) (h : Tryz.prog.typeName? 3 u = some "*errors.errorString") : u = 160 :=
  typeName_ptr_named (nm := "errors.errorString") (by rw [star_es]; kernel_rfl) (by kernel_rfl) (by decide) u (by rw [star_es]; exact h)
theorem es_of {W : World} {n : String} {g : Nat} {text : List UInt8} {rest : List (String × DataW Unit)} (h : laidMet Tryz.prog ((n, .iface "*errors.errorString" (.ptr (.agg [.lit (.string text)]))) :: rest) W) (hg : Tryz.prog.globalNamed n = some g) (ht : (Tryz.prog.globals[g]?).map (·.type) = some 27) :
    ∃ t p, W.cell? ⟨g, 0, none⟩ = some (.iface t p) := by
  obtain ⟨a, _, hv, _, _, _⟩ := laid_sentinel h hg ht Tryz.underlying27 row_es Tryz.underlying160 Tryz.underlying162 rfl rfl Tryz.underlying9 cells_es cells_str
  exact ⟨_, _, by simpa using World.var?_cell hg hv 0⟩
abbrev listS : List (String × DataW Unit) := [("math/bits.deBruijn32tab", Rows.laid_math_bits_deBruijn32tab), ("math/bits.deBruijn64tab", Rows.laid_math_bits_deBruijn64tab), ("internal/strconv.uint64pow10", Rows.laid_internal_strconv_uint64pow10), ("strconv.ErrRange", Rows.laid_strconv_ErrRange), ("strconv.ErrSyntax", Rows.laid_strconv_ErrSyntax), ("belvedere/civil.lengths", Rows.laid_belvedere_civil_lengths)]
theorem en_of {W : World} (h : laidMet Tryz.prog listS W) (hm : Mx W) : En W :=
  ⟨tab_of_laid h.tail.tail.tail.tail.tail, pow_of_laid h.tail.tail, hm, es_of h.tail.tail.tail.tail g_syn gt_syn, es_of h.tail.tail.tail g_rng gt_rng⟩
theorem laid_SX {W : World} (h : laidMetH Tryz.prog listS W) (hm : Mx W) : En W := en_of h hm
end Go.Proofs.YtjfmnflcgenpaaaGreatDoor

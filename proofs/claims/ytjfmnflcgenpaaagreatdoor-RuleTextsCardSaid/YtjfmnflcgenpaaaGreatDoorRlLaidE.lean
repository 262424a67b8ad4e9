/- What the rows' lists give beside: the handle of errors.errorType. And how a rule comes in. -/
import Derived.Test.YtjfmnflcgenpaaaGreatDoorRlLaid
import Derived.Test.YtjfmnflcgenpaaaGreatDoorErr
import Derived.Test.YtjfmnflcgenpaaaGreatDoorRlA
namespace Go.Proofs.YtjfmnflcgenpaaaGreatDoor
open Go.ChangeShapes Go.WideShapes Go.ChangeAt Go.RowKit

theorem g_errT : Tryz.prog.globalNamed "errors.errorType" = some 0 := by kernel_rfl
theorem rt_errT : (Tryz.prog.cutTypes.find? (·.1 == "internal/reflectlite.rtype")).map (·.2) = some 103 := by kernel_rfl
theorem size_types : Tryz.prog.types.size = 192 := by kernel_rfl
theorem oneRow_err : ((List.range 192).filter fun t => Tryz.prog.rowNamed t [101, 114, 114, 111, 114]) = [27] := by kernel_rfl
theorem err_of_handles {W : World} {hs : List (String × DataW Unit)} (h : handlesMet Tryz.prog (("errors.errorType", Rows.laid_errors_errorType) :: hs) W) : ErrT W := by
  obtain ⟨name, u, ty, e1, e2, e3, e4, e5⟩ := h _ (List.mem_cons_self)
  have en : name = [101, 114, 114, 111, 114] := (Option.some.inj e1).symm
  subst en
  obtain rfl := Option.some.inj (rt_errT.symm.trans e2)
  have hm : ty ∈ (List.range 192).filter fun t => Tryz.prog.rowNamed t [101, 114, 114, 111, 114] := List.mem_filter.2 ⟨List.mem_range.2 (by rw [← size_types]; exact e3), e4⟩
  rw [oneRow_err] at hm
  obtain rfl := List.mem_singleton.1 hm
  have hh : typeHandle Tryz.prog 27 = .pointer (some ⟨8, 27, none⟩) := by kernel_rfl
  rw [hh] at e5
  unfold ErrT
  simpa using World.var?_cell g_errT e5 0
set_option maxRecDepth 100000 in
theorem laid_SEX {W : World} (h : laidMetH Tryz.prog [("math/bits.deBruijn32tab", Rows.laid_math_bits_deBruijn32tab), ("math/bits.deBruijn64tab", Rows.laid_math_bits_deBruijn64tab), ("internal/strconv.uint64pow10", Rows.laid_internal_strconv_uint64pow10), ("errors.errorType", Rows.laid_errors_errorType), ("strconv.ErrRange", Rows.laid_strconv_ErrRange), ("strconv.ErrSyntax", Rows.laid_strconv_ErrSyntax), ("belvedere/civil.lengths", Rows.laid_belvedere_civil_lengths)] W) (hm : Mx W) : En W ∧ ErrT W := by
  have h' : laidMet Tryz.prog listS W ∧ handlesMet Tryz.prog [("errors.errorType", Rows.laid_errors_errorType)] W := h
  exact ⟨en_of h'.1 hm, err_of_handles h'.2⟩
set_option maxRecDepth 100000 in
theorem open_d3 {H : Type} {enc : TypeId × Value → H} {base : Nat} {sp : Nat → Bool} {held : Bool} {W : World} {n : Nat} {a b c : Value} {y : DataW H × List MemPlace}
    (h : DataW.trod enc Tryz.prog W base sp held n 23 [a, b, c] = some y) : ∃ y m d : Int, a = .int .i64 y ∧ b = .int .i64 m ∧ c = .int .i64 d := by
  obtain ⟨xs, n', _, rfl, _, hlen, hf⟩ := DataW.trod_struct Tryz.underlying23 h
  match xs, hlen with
  | [y0, y1, y2], _ =>
    have c1 : Tryz.prog.cellsOf 3 = 1 := by kernel_rfl
    have h0 : DataW.trod enc Tryz.prog W base sp held n' 3 (List.take (Tryz.prog.cellsOf 3) (List.drop 0 [a, b, c])) = some y0 := hf 0 _ rfl
    have h1 : DataW.trod enc Tryz.prog W base sp held n' 3 (List.take (Tryz.prog.cellsOf 3) (List.drop 1 [a, b, c])) = some y1 := hf 1 _ rfl
    have h2 : DataW.trod enc Tryz.prog W base sp held n' 3 (List.take (Tryz.prog.cellsOf 3) (List.drop 2 [a, b, c])) = some y2 := hf 2 _ rfl
    rw [c1] at h0 h1 h2
    change DataW.trod enc _ W base sp held n' _ [a] = some y0 at h0
    change DataW.trod enc _ W base sp held n' _ [b] = some y1 at h1
    change DataW.trod enc _ W base sp held n' _ [c] = some y2 at h2
    obtain ⟨x0, e0, _, _⟩ := DataW.trod_int Tryz.underlying3 h0
    obtain ⟨x1, e1, _, _⟩ := DataW.trod_int Tryz.underlying3 h1
    obtain ⟨x2, e2, _, _⟩ := DataW.trod_int Tryz.underlying3 h2
    simp only [List.cons.injEq, and_true] at e0 e1 e2
    exact ⟨x0, x1, x2, e0, e1, e2⟩
set_option maxRecDepth 100000 in
/-- A rule that came in. -/
theorem open_rule {H : Type} {enc : TypeId × Value → H} {r : Reach} {b0 base : Nat} {sp : Nat → Bool} {held : Bool} {W : World} {v : Value} {d : DataW H} {p : List MemPlace}
    (hval : Value.okWide Tryz.prog W r b0 25 v) (h : DataW.Trod enc Tryz.prog W base sp held 25 v d p) : ∃ u : Rl, v = rv u := by
  obtain ⟨cs, rfl, hsz⟩ := okWide_struct Tryz.underlying25 hval
  have c10 : Tryz.prog.cellsOf 25 = 10 := by kernel_rfl
  rw [c10] at hsz
  obtain ⟨l⟩ := cs
  obtain ⟨fuel, hf⟩ := h
  match l, hsz with
  | [v0, v1, v2, v3, v4, v5, v6, v7, v8, v9], _ =>
    obtain ⟨xs, n', _, _, _, hlen, hf⟩ := DataW.trod_struct Tryz.underlying25 hf
    match xs, hlen with
    | [y0, y1, y2, y3, y4, y5], _ =>
      have c1 : Tryz.prog.cellsOf 3 = 1 := by kernel_rfl
      have c3 : Tryz.prog.cellsOf 23 = 3 := by kernel_rfl
      have h0 : DataW.trod enc Tryz.prog W base sp held n' 3 (List.take (Tryz.prog.cellsOf 3) (List.drop 0 [v0, v1, v2, v3, v4, v5, v6, v7, v8, v9])) = some y0 := hf 0 _ rfl
      have h1 : DataW.trod enc Tryz.prog W base sp held n' 3 (List.take (Tryz.prog.cellsOf 3) (List.drop 1 [v0, v1, v2, v3, v4, v5, v6, v7, v8, v9])) = some y1 := hf 1 _ rfl
      have h2 : DataW.trod enc Tryz.prog W base sp held n' 3 (List.take (Tryz.prog.cellsOf 3) (List.drop 2 [v0, v1, v2, v3, v4, v5, v6, v7, v8, v9])) = some y2 := hf 2 _ rfl
      have h3 : DataW.trod enc Tryz.prog W base sp held n' 3 (List.take (Tryz.prog.cellsOf 3) (List.drop 3 [v0, v1, v2, v3, v4, v5, v6, v7, v8, v9])) = some y3 := hf 3 _ rfl
      have h4 : DataW.trod enc Tryz.prog W base sp held n' 23 (List.take (Tryz.prog.cellsOf 23) (List.drop 4 [v0, v1, v2, v3, v4, v5, v6, v7, v8, v9])) = some y4 := hf 4 _ rfl
      have h5 : DataW.trod enc Tryz.prog W base sp held n' 23 (List.take (Tryz.prog.cellsOf 23) (List.drop 7 [v0, v1, v2, v3, v4, v5, v6, v7, v8, v9])) = some y5 := hf 5 _ rfl
      rw [c1] at h0 h1 h2 h3
      rw [c3] at h4 h5
      change DataW.trod enc _ W base sp held n' _ [v0] = some y0 at h0
      change DataW.trod enc _ W base sp held n' _ [v1] = some y1 at h1
      change DataW.trod enc _ W base sp held n' _ [v2] = some y2 at h2
      change DataW.trod enc _ W base sp held n' _ [v3] = some y3 at h3
      change DataW.trod enc _ W base sp held n' _ [v4, v5, v6] = some y4 at h4
      change DataW.trod enc _ W base sp held n' _ [v7, v8, v9] = some y5 at h5
      obtain ⟨x0, e0, _, _⟩ := DataW.trod_int Tryz.underlying3 h0
      obtain ⟨x1, e1, _, _⟩ := DataW.trod_int Tryz.underlying3 h1
      obtain ⟨x2, e2, _, _⟩ := DataW.trod_int Tryz.underlying3 h2
      obtain ⟨x3, e3, _, _⟩ := DataW.trod_int Tryz.underlying3 h3
      obtain ⟨a4, a5, a6, rfl, rfl, rfl⟩ := open_d3 h4
      obtain ⟨a7, a8, a9, rfl, rfl, rfl⟩ := open_d3 h5
      simp only [List.cons.injEq, and_true] at e0 e1 e2 e3
      subst e0 e1 e2 e3
      exact ⟨⟨x0, x1, x2, x3, a4, a5, a6, a7, a8, a9⟩, rfl⟩
end Go.Proofs.YtjfmnflcgenpaaaGreatDoor

/- Rules as values: when two are the same. -/
import Derived.Test.YtlogapkpllgdcaaDoorRlA
import Derived.Laws.StructEq
import Derived.ChangeKeysEq
namespace Go.Proofs.YtlogapkpllgdcaaDoor
open Go.RowKit

abbrev F3 (f : Field) : Bool × TypeId × Nat := (f.name == "_", f.type, f.offset)
theorem fields_rule : (Tryd.prog.fieldsOf 57).toList.map F3 = [(false, 3, 0), (false, 3, 1), (false, 3, 2), (false, 3, 3), (false, 55, 4), (false, 55, 7)] := by kernel_rfl
theorem fields_date : (Tryd.prog.fieldsOf 55).toList.map F3 = [(false, 3, 0), (false, 3, 1), (false, 3, 2)] := by kernel_rfl
section
variable {P : Program}
theorem eqNil (d : Nat) (xs ys : Array Value) (fs : List Field) (w : World) (h : fs.map F3 = []) : (Op.eqFields d xs ys fs).run P w = .ok true w := by
  rw [List.map_eq_nil_iff] at h
  subst h
  rfl
theorem eqStep {d : Nat} {xs ys : Array Value} {L : List Field} {l : List (Bool × TypeId × Nat)} {t : TypeId} {o : Nat} {w : World} {a b : Value} {r rest : Bool} (h : L.map F3 = (false, t, o) :: l)
    (ha : (part t xs o).run P w = .ok a w) (hb : (part t ys o).run P w = .ok b w) (hr : (Op.equalIn d t a b).run P w = .ok r w) (hrest : ∀ fs : List Field, fs.map F3 = l → (Op.eqFields d xs ys fs).run P w = .ok rest w) :
    (Op.eqFields d xs ys L).run P w = .ok (r && rest) w := by
  rcases L with _ | ⟨f, fs⟩
  · cases h
  · simp only [List.map_cons, List.cons.injEq, Prod.mk.injEq] at h
    obtain ⟨⟨h1, h2, h3⟩, h4⟩ := h
    subst h2 h3
    have h5 := hrest fs h4
    rw [Op.eqFields, if_pos (by simpa using h1)]
    simp only [Sem.run_bind, ha, hb, hr, Result.andThen_ok]
    cases r
    · simp
    · simp [h5]
end
theorem part_int (xs : Array Value) (o : Nat) (x : Int) (w : World) (h : xs[o]? = some (.int .i64 x)) : (part 3 xs o).run Tryd.prog w = .ok (.int .i64 x) w := run_part_plain w (by kernel_rfl) h
theorem part_date (xs : Array Value) (o : Nat) (y m d : Int) (w : World) (h : xs.extract o (o + 3) = #[.int .i64 y, .int .i64 m, .int .i64 d]) : (part 55 xs o).run Tryd.prog w = .ok (dt y m d) w := by
  have h1 : (isAgg 55).run Tryd.prog w = .ok true w := by kernel_rfl
  have h2 : (sizeOf 55).run Tryd.prog w = .ok 3 w := by kernel_rfl
  simp only [part, Sem.run_bind, h1, Result.andThen_ok, if_true, h2, Sem.run_pure, h]
  rfl
theorem eql_int (d : Nat) (a b : Int) (w : World) : (Op.equalIn (d + 1) 3 (.int .i64 a) (.int .i64 b)).run Tryd.prog w = .ok (a == b) w := run_equalIn_int w d _ _ .i64 a b Tryd.underlying3
theorem eql_date (d : Nat) (y m e y' m' e' : Int) (w : World) : (Op.equalIn (d + 2) 55 (dt y m e) (dt y' m' e')).run Tryd.prog w = .ok ((y == y') && ((m == m') && ((e == e') && true))) w := by
  unfold dt
  rw [run_equalIn_agg w (d + 1) _ _ _ (by kernel_rfl) (by kernel_rfl)]
  refine eqStep fields_date (part_int _ 0 y w rfl) (part_int _ 0 y' w rfl) (eql_int _ _ _ _) fun fs h => ?_
  refine eqStep h (part_int _ 1 m w rfl) (part_int _ 1 m' w rfl) (eql_int _ _ _ _) fun fs h => ?_
  refine eqStep h (part_int _ 2 e w rfl) (part_int _ 2 e' w rfl) (eql_int _ _ _ _) fun fs h => ?_
  exact eqNil _ _ _ _ _ h
theorem equalR (r q : Rl) (W : World) : (Op.equalIn 10000 57 (rv r) (rv q)).run Tryd.prog W = .ok (decide (r = q)) W := by
  obtain ⟨a0, a1, a2, a3, a4, a5, a6, a7, a8, a9⟩ := r
  obtain ⟨b0, b1, b2, b3, b4, b5, b6, b7, b8, b9⟩ := q
  unfold rv
  rw [run_equalIn_agg W 9999 _ _ _ (by kernel_rfl) (by kernel_rfl)]
  rw [show decide ((⟨a0, a1, a2, a3, a4, a5, a6, a7, a8, a9⟩ : Rl) = ⟨b0, b1, b2, b3, b4, b5, b6, b7, b8, b9⟩) = ((a0 == b0) && ((a1 == b1) && ((a2 == b2) && ((a3 == b3) && (((a4 == b4) && ((a5 == b5) && ((a6 == b6) && true))) && (((a7 == b7) && ((a8 == b8) && ((a9 == b9) && true))) && true)))))) by
    rw [Bool.eq_iff_iff]
    simp [and_assoc]]
  refine eqStep fields_rule (part_int _ 0 a0 W rfl) (part_int _ 0 b0 W rfl) (eql_int 9998 _ _ _) fun fs h => ?_
  refine eqStep h (part_int _ 1 a1 W rfl) (part_int _ 1 b1 W rfl) (eql_int 9998 _ _ _) fun fs h => ?_
  refine eqStep h (part_int _ 2 a2 W rfl) (part_int _ 2 b2 W rfl) (eql_int 9998 _ _ _) fun fs h => ?_
  refine eqStep h (part_int _ 3 a3 W rfl) (part_int _ 3 b3 W rfl) (eql_int 9998 _ _ _) fun fs h => ?_
  refine eqStep h (part_date _ 4 a4 a5 a6 W rfl) (part_date _ 4 b4 b5 b6 W rfl) (eql_date 9997 _ _ _ _ _ _ _) fun fs h => ?_
  refine eqStep h (part_date _ 7 a7 a8 a9 W rfl) (part_date _ 7 b7 b8 b9 W rfl) (eql_date 9997 _ _ _ _ _ _ _) fun fs h => ?_
  exact eqNil _ _ _ _ _ h
theorem neqR (r q : Rl) (W : World) : (binOp .neq 57 (rv r) (rv q)).run Tryd.prog W = .ok (.bool (decide (r ≠ q))) W := by
  have h := equalR r q W
  unfold rv at h ⊢
  rw [run_neq_struct, h, Result.andThen_ok]
  simp
theorem eqlR (r q : Rl) (W : World) : (binOp .eql 57 (rv r) (rv q)).run Tryd.prog W = .ok (.bool (decide (r = q))) W := by
  have h := equalR r q W
  unfold rv at h ⊢
  rw [run_eql_struct, h, Result.andThen_ok]
end Go.Proofs.YtlogapkpllgdcaaDoor

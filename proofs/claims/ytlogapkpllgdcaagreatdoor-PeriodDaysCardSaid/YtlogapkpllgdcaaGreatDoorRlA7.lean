/- RlA, RlB, in one text. -/
import Derived.Test.YtlogapkpllgdcaaGreatDoorMa7
import Derived.Test.YtlogapkpllgdcaaGreatDoorCv7
import Derived.Test.YtlogapkpllgdcaaGreatDoorCkA
import Derived.Deep.RegionHeld3
import Derived.Laws.StructEq
import Derived.ChangeKeysEq
/- Contracts: rule's isWithin, isPlace, week, own; civil's Days of any date. -/
namespace Go.Proofs.YtlogapkpllgdcaaGreatDoor
open Go.RowKit

/-- An error by its number; 0: none. -/
def errE (k : Int) : Value := if k = 0 then .nilIface else errK k
theorem errE_zero : errE 0 = .nilIface := if_pos rfl
theorem errE_one : errE 1 = errK 1 := if_neg (by omega)
theorem errE_three : errE 3 = errK 3 := if_neg (by omega)
/-- A rule as a value. -/
def rv (r : Rl) : Value := .agg #[.int .i64 r.k, .int .i64 r.mo, .int .i64 r.n, .int .i64 r.wk, .int .i64 r.fy, .int .i64 r.fm, .int .i64 r.fd, .int .i64 r.ty, .int .i64 r.tm, .int .i64 r.td]
theorem isWithin_any (n most : Int) (w : World) :
    Calls Tryz.prog 94 #[.int .i64 n, .int .i64 most] w fun e w' => e = .returned (.bool (inW n most)) ∧ w = w' := by
  have H : Hid (inW n most = decide (0 ≤ n ∧ n ≤ most)) := rfl
  generalize inW n most = b at *
  by_cases h1 : 0 ≤ n
  · by_cases h2 : n ≤ most
    all_goals
      go_enter Tryz.func94, Tryz.ntmps94
      go_wp2
      go_ret
      exact ⟨ret_bool (by rw [H.out]; first | exact (decide_eq_true (by omega)).symm | exact (decide_eq_false (by omega)).symm), rfl⟩
  · go_enter Tryz.func94, Tryz.ntmps94
    go_wp2
    go_ret
    exact ⟨ret_bool (by rw [H.out]; first | exact (decide_eq_true (by omega)).symm | exact (decide_eq_false (by omega)).symm), rfl⟩
theorem isPlace_any (n most : Int) (w : World) (hm : 0 ≤ most) (hm2 : most ≤ 100) :
    Calls Tryz.prog 95 #[.int .i64 n, .int .i64 most] w fun e w' => e = .returned (.bool (placeR n most)) ∧ w = w' := by
  have H : Hid (placeR n most = decide (n ≠ 0 ∧ -most ≤ n ∧ n ≤ most)) := rfl
  generalize placeR n most = b at *
  by_cases h0 : n = 0
  · subst h0
    go_enter Tryz.func95, Tryz.ntmps95
    go_wp2
    go_ret
    exact ⟨ret_bool (by rw [H.out]; simp), rfl⟩
  · have hd : (n != 0) = true := by simpa using h0
    have H0 := Lib.hid h0
    clear h0
    by_cases h1 : -most ≤ n
    · by_cases h2 : n ≤ most
      all_goals
        go_enter Tryz.func95, Tryz.ntmps95
        go_wp2
        go_ret
        exact ⟨ret_bool (by rw [H.out]; have := H0.out; first | exact (decide_eq_true (by omega)).symm | exact (decide_eq_false (by omega)).symm), rfl⟩
    · go_enter Tryz.func95, Tryz.ntmps95
      go_wp2
      go_ret
      exact ⟨ret_bool (by rw [H.out]; first | exact (decide_eq_true (by omega)).symm | exact (decide_eq_false (by omega)).symm), rfl⟩
theorem week_any (p : Int) (w : World) (h1 : 1 ≤ p) (h2 : p ≤ 1000) :
    Calls Tryz.prog 92 #[.int .i64 p] w fun e w' => e = .returned (.int .i64 ((p - 1) / 7 + 1)) ∧ w = w' := by
  go_enter Tryz.func92, Tryz.ntmps92
  go_wp2
  go_ret
  exact ⟨ret_int (by omega), rfl⟩
theorem days_yes (y m d : Int) (w : World) (ht : Tab w) (h : okD y m d = true) :
    Calls Tryz.prog 93 #[dt y m d] w fun e w' => e = .returned (.tuple #[.int .i64 (dnr y m d), .nilIface]) ∧ Below w.heap.size w w' := by
  obtain ⟨hi, e, h1, h2⟩ := okD_is h
  have := daysOk_any y m.toNat d w hi h1 h2 ht
  rw [e] at this
  exact this
theorem days_no (y m d : Int) (w : World) (ht : Tab w) (h : okD y m d = false) :
    Calls Tryz.prog 93 #[dt y m d] w fun e w' => e = .returned (.tuple #[.int .i64 0, errK 1]) ∧ Below w.heap.size w w' := by
  by_cases hm : m < 1 ∨ 12 < m ∨ y < -274877906944 ∨ 274877906944 < y
  · exact daysNoM_any y m d w hm
  · obtain ⟨k, rfl⟩ := Int.eq_ofNat_of_zero_le (show 0 ≤ m by omega)
    refine daysNoD_any y k d w (by omega) (by omega) ?_ (by omega) (by omega) ht
    by_cases h1 : d < 1
    · exact .inl h1
    · refine .inr ?_
      rcases Int.lt_or_le (mlen y k) d with h2 | h2
      · exact h2
      · exfalso
        rw [okD_of (show Is y k d from ⟨by omega, by omega, by omega, h2⟩) (by omega) (by omega)] at h
        cases h
set_option maxRecDepth 100000 in
set_option maxHeartbeats 1000000 in
theorem own_any (r : Rl) (w : World) :
    Calls Tryz.prog 83 #[rv r] w fun e w' => e = .returned (rv (ownR r)) ∧ Below w.heap.size w w' := by
  obtain ⟨k, mo, n, wk, fy, fm, fd, ty, tm, td⟩ := r
  unfold ownR
  simp only
  unfold rv
  have HB := Lib.hid (((Below.refl w.heap.size w).alloc (Nat.le_refl _) (.cells #[.int .i64 k, .int .i64 mo, .int .i64 n, .int .i64 wk, .int .i64 fy, .int .i64 fm, .int .i64 fd, .int .i64 ty, .int .i64 tm, .int .i64 td] 66)))
  by_cases h0 : k = 0
  · subst h0
    simp only [if_true]
    go_enter Tryz.func83, Tryz.ntmps83
    go_wp2_with fail
    refine bodyPost_ret (results_cell_row rfl _ _ (w.heap.size + 1) _ _ (0, 0) _ rfl (heap_new2 _ _ _) Tryz.underlying66 rfl (by kernel_rfl)) rfl ?_
    exact ⟨rfl, HB.out.alloc HB.out.size _⟩
  · by_cases h1 : k = 1
    · subst h1
      simp only [show ((1 : Int) = 0) = False by simp, if_true, if_false]
      clear h0
      go_enter Tryz.func83, Tryz.ntmps83
      go_wp2_with fail
      refine bodyPost_ret (results_cell_row rfl _ _ (w.heap.size + 1) _ _ (0, 0) _ rfl (heap_new2 _ _ _) Tryz.underlying66 rfl (by kernel_rfl)) rfl ?_
      exact ⟨rfl, HB.out.alloc HB.out.size _⟩
    · by_cases h2 : k = 2
      · subst h2
        simp only [show ((2 : Int) = 0) = False by simp, show ((2 : Int) = 1) = False by simp, if_true, if_false]
        clear h0 h1
        go_enter Tryz.func83, Tryz.ntmps83
        go_wp2_with fail
        refine bodyPost_ret (results_cell_row rfl _ _ (w.heap.size + 1) _ _ (0, 0) _ rfl (heap_new2 _ _ _) Tryz.underlying66 rfl (by kernel_rfl)) rfl ?_
        exact ⟨rfl, HB.out.alloc HB.out.size _⟩
      · by_cases h3 : k = 3
        · subst h3
          simp only [show ((3 : Int) = 0) = False by simp, show ((3 : Int) = 1) = False by simp, show ((3 : Int) = 2) = False by simp, if_true, if_false]
          clear h0 h1 h2
          go_enter Tryz.func83, Tryz.ntmps83
          go_wp2_with fail
          refine bodyPost_ret (results_cell_row rfl _ _ (w.heap.size + 1) _ _ (0, 0) _ rfl (heap_new2 _ _ _) Tryz.underlying66 rfl (by kernel_rfl)) rfl ?_
          exact ⟨rfl, HB.out.alloc HB.out.size _⟩
        · rw [if_neg h0, if_neg h1, if_neg h2, if_neg h3]
          have d0 : (k == 0) = false := beq_eq_false_iff_ne.2 h0
          have d1 : (k == 1) = false := beq_eq_false_iff_ne.2 h1
          have d2 : (k == 2) = false := beq_eq_false_iff_ne.2 h2
          have d3 : (k == 3) = false := beq_eq_false_iff_ne.2 h3
          clear h0 h1 h2 h3
          go_enter Tryz.func83, Tryz.ntmps83
          go_wp2_with fail
          refine bodyPost_ret (results_cell_row rfl _ _ (w.heap.size + 1) _ _ (0, 0) _ rfl (heap_new2 _ _ _) Tryz.underlying66 rfl (by kernel_rfl)) rfl ?_
          exact ⟨rfl, HB.out.alloc HB.out.size _⟩
end Go.Proofs.YtlogapkpllgdcaaGreatDoor
/- Rules as values: when two are the same. -/
namespace Go.Proofs.YtlogapkpllgdcaaGreatDoor
open Go.RowKit

abbrev F3 (f : Field) : Bool × TypeId × Nat := (f.name == "_", f.type, f.offset)
theorem fields_rule : (Tryz.prog.fieldsOf 66).toList.map F3 = [(false, 3, 0), (false, 3, 1), (false, 3, 2), (false, 3, 3), (false, 64, 4), (false, 64, 7)] := by kernel_rfl
theorem fields_date : (Tryz.prog.fieldsOf 64).toList.map F3 = [(false, 3, 0), (false, 3, 1), (false, 3, 2)] := by kernel_rfl
section
variable {P : Program}
theorem eqNil (d : Nat) (xs ys : Array Value) (fs : List Field) (w : World) (h : fs.map F3 = []) : (Op.eqFields d xs ys fs).run P w = .ok true w := by
  rw [List.map_eq_nil_iff] at h
  subst h
  rfl
theorem eqStep {d : Nat} {xs ys : Array Value} {L : List Field} {l : List (Bool × TypeId × Nat)} {t : TypeId} {o : Nat} {w : World} {a b : Value} {r rest : Bool} (h : L.map F3 = (false, t, o) :: l)
    (ha : (part t xs o).run P w = .ok a w) (hb : (part t ys o).run P w = .ok b w) (hr : (Op.equalIn d t a b).run P w = .ok r w) (hrest : ∀ fs : List Field, fs.map F3 = l → (Op.eqFields d xs ys fs).run P w = .ok rest w) :
    (Op.eqFields d xs ys L).run P w = .ok (r && rest) w := by
  rcases L with _ | ⟨f, fs⟩
  · cases h
  · simp only [List.map_cons, List.cons.injEq, Prod.mk.injEq] at h
    obtain ⟨⟨h1, h2, h3⟩, h4⟩ := h
    subst h2 h3
    have h5 := hrest fs h4
    rw [Op.eqFields, if_pos (by simpa using h1)]
    simp only [Sem.run_bind, ha, hb, hr, Result.andThen_ok]
    cases r
    · simp
    · simp [h5]
end
theorem part_int (xs : Array Value) (o : Nat) (x : Int) (w : World) (h : xs[o]? = some (.int .i64 x)) : (part 3 xs o).run Tryz.prog w = .ok (.int .i64 x) w := run_part_plain w (by kernel_rfl) h
theorem part_date (xs : Array Value) (o : Nat) (y m d : Int) (w : World) (h : xs.extract o (o + 3) = #[.int .i64 y, .int .i64 m, .int .i64 d]) : (part 64 xs o).run Tryz.prog w = .ok (dt y m d) w := by
  have h1 : (isAgg 64).run Tryz.prog w = .ok true w := by kernel_rfl
  have h2 : (sizeOf 64).run Tryz.prog w = .ok 3 w := by kernel_rfl
  simp only [part, Sem.run_bind, h1, Result.andThen_ok, if_true, h2, Sem.run_pure, h]
  rfl
theorem eql_int (d : Nat) (a b : Int) (w : World) : (Op.equalIn (d + 1) 3 (.int .i64 a) (.int .i64 b)).run Tryz.prog w = .ok (a == b) w := run_equalIn_int w d _ _ .i64 a b Tryz.underlying3
theorem eql_date (d : Nat) (y m e y' m' e' : Int) (w : World) : (Op.equalIn (d + 2) 64 (dt y m e) (dt y' m' e')).run Tryz.prog w = .ok ((y == y') && ((m == m') && ((e == e') && true))) w := by
  unfold dt
  rw [run_equalIn_agg w (d + 1) _ _ _ (by kernel_rfl) (by kernel_rfl)]
  refine eqStep fields_date (part_int _ 0 y w rfl) (part_int _ 0 y' w rfl) (eql_int _ _ _ _) fun fs h => ?_
  refine eqStep h (part_int _ 1 m w rfl) (part_int _ 1 m' w rfl) (eql_int _ _ _ _) fun fs h => ?_
  refine eqStep h (part_int _ 2 e w rfl) (part_int _ 2 e' w rfl) (eql_int _ _ _ _) fun fs h => ?_
  exact eqNil _ _ _ _ _ h
theorem equalR (r q : Rl) (W : World) : (Op.equalIn 10000 66 (rv r) (rv q)).run Tryz.prog W = .ok (decide (r = q)) W := by
  obtain ⟨a0, a1, a2, a3, a4, a5, a6, a7, a8, a9⟩ := r
  obtain ⟨b0, b1, b2, b3, b4, b5, b6, b7, b8, b9⟩ := q
  unfold rv
  rw [run_equalIn_agg W 9999 _ _ _ (by kernel_rfl) (by kernel_rfl)]
  rw [show decide ((⟨a0, a1, a2, a3, a4, a5, a6, a7, a8, a9⟩ : Rl) = ⟨b0, b1, b2, b3, b4, b5, b6, b7, b8, b9⟩) = ((a0 == b0) && ((a1 == b1) && ((a2 == b2) && ((a3 == b3) && (((a4 == b4) && ((a5 == b5) && ((a6 == b6) && true))) && (((a7 == b7) && ((a8 == b8) && ((a9 == b9) && true))) && true)))))) by
    rw [Bool.eq_iff_iff]
    simp [and_assoc]]
  refine eqStep fields_rule (part_int _ 0 a0 W rfl) (part_int _ 0 b0 W rfl) (eql_int 9998 _ _ _) fun fs h => ?_
  refine eqStep h (part_int _ 1 a1 W rfl) (part_int _ 1 b1 W rfl) (eql_int 9998 _ _ _) fun fs h => ?_
  refine eqStep h (part_int _ 2 a2 W rfl) (part_int _ 2 b2 W rfl) (eql_int 9998 _ _ _) fun fs h => ?_
  refine eqStep h (part_int _ 3 a3 W rfl) (part_int _ 3 b3 W rfl) (eql_int 9998 _ _ _) fun fs h => ?_
  refine eqStep h (part_date _ 4 a4 a5 a6 W rfl) (part_date _ 4 b4 b5 b6 W rfl) (eql_date 9997 _ _ _ _ _ _ _) fun fs h => ?_
  refine eqStep h (part_date _ 7 a7 a8 a9 W rfl) (part_date _ 7 b7 b8 b9 W rfl) (eql_date 9997 _ _ _ _ _ _ _) fun fs h => ?_
  exact eqNil _ _ _ _ _ h
theorem neqR (r q : Rl) (W : World) : (binOp .neq 66 (rv r) (rv q)).run Tryz.prog W = .ok (.bool (decide (r ≠ q))) W := by
  have h := equalR r q W
  unfold rv at h ⊢
  rw [run_neq_struct, h, Result.andThen_ok]
  simp
theorem eqlR (r q : Rl) (W : World) : (binOp .eql 66 (rv r) (rv q)).run Tryz.prog W = .ok (.bool (decide (r = q))) W := by
  have h := equalR r q W
  unfold rv at h ⊢
  rw [run_eql_struct, h, Result.andThen_ok]
end Go.Proofs.YtlogapkpllgdcaaGreatDoor

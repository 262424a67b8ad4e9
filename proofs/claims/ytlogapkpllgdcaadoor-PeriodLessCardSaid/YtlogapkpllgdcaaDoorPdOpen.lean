/- An argument that is a set of periods, down to its cells; arrays of two, three, four ints. -/
import Derived.Test.YtlogapkpllgdcaaDoorRow
import Derived.Test.YtlogapkpllgdcaaDoorPdMem
import Derived.Deep.Slices
import Derived.ChangeMaps5
import Derived.ProofKit
import Derived.OpenShut
import Derived.Lib.SmallJoins
namespace Go.Proofs.YtlogapkpllgdcaaDoor
open Go.ChangeShapes Go.WideShapes Go.ChangeAt Go.RowKit Go.Deep

theorem choose_fn {α : Type} [Inhabited α] {P : Nat → α → Prop} {n : Nat} (h : ∀ i, i < n → ∃ a, P i a) : ∃ f : Nat → α, ∀ i, i < n → P i (f i) := by
  classical
  refine ⟨fun i => if h' : i < n then (h i h').choose else default, fun i hi => ?_⟩
  simp only [hi, dif_pos]
  exact (h i hi).choose_spec
theorem getD_range {α : Type} (f : Nat → α) {n k : Nat} (d : α) (hk : k < n) : ((List.range n).map f).getD k d = f k := by
  simp [List.getD, hk]
instance : Inhabited Spn := ⟨dS⟩
instance : Inhabited Ent := ⟨dE⟩
instance : Inhabited Prd := ⟨dP⟩
theorem add_zero7 (X : Addr) : X.add 0 = X := by cases X; simp [Addr.add]
theorem add_pos7 (X : Addr) {j : Nat} (h : 0 < j) : X.add j = { block := X.block, off := X.off + j } := by
  unfold Addr.add
  rw [if_neg (by omega)]
theorem open_d37 {H : Type} {enc : TypeId × Value → H} {base : Nat} {sp : Nat → Bool} {held : Bool} {W : World} {n : Nat} {a b c : Value} {y : DataW H × List MemPlace}
    (h : DataW.trod enc Tryd.prog W base sp held n 49 [a, b, c] = some y) : ∃ y m d : Int, a = .int .i64 y ∧ b = .int .i64 m ∧ c = .int .i64 d := by
  obtain ⟨xs, n', _, rfl, _, hlen, hf⟩ := DataW.trod_struct Tryd.underlying49 h
  match xs, hlen with
  | [y0, y1, y2], _ =>
    have c1 : Tryd.prog.cellsOf 3 = 1 := by kernel_rfl
    have h0 : DataW.trod enc Tryd.prog W base sp held n' 3 (List.take (Tryd.prog.cellsOf 3) (List.drop 0 [a, b, c])) = some y0 := hf 0 _ rfl
    have h1 : DataW.trod enc Tryd.prog W base sp held n' 3 (List.take (Tryd.prog.cellsOf 3) (List.drop 1 [a, b, c])) = some y1 := hf 1 _ rfl
    have h2 : DataW.trod enc Tryd.prog W base sp held n' 3 (List.take (Tryd.prog.cellsOf 3) (List.drop 2 [a, b, c])) = some y2 := hf 2 _ rfl
    rw [c1] at h0 h1 h2
    change DataW.trod enc _ W base sp held n' _ [a] = some y0 at h0
    change DataW.trod enc _ W base sp held n' _ [b] = some y1 at h1
    change DataW.trod enc _ W base sp held n' _ [c] = some y2 at h2
    obtain ⟨x0, e0, _, _⟩ := DataW.trod_int Tryd.underlying3 h0
    obtain ⟨x1, e1, _, _⟩ := DataW.trod_int Tryd.underlying3 h1
    obtain ⟨x2, e2, _, _⟩ := DataW.trod_int Tryd.underlying3 h2
    simp only [List.cons.injEq, and_true] at e0 e1 e2
    exact ⟨x0, x1, x2, e0, e1, e2⟩
section
variable {H : Type} {enc : TypeId × Value → H} {base : Nat} {sp : Nat → Bool} {held : Bool} {W : World} {fuel : Nat} {cs : List Value} {x : DataW H × List MemPlace}
theorem hin_trod (h : DataW.trod enc Tryd.prog W base sp held fuel 44 cs = some x) : ∃ v l, cs = [v] ∧ HIn W v l := by
  rcases Go.ChangeShapes.open_ints Tryd.underlying44 Tryd.underlying3 (by kernel_rfl) h with ⟨hcs, _⟩ | ⟨a, len, cap, zs, hcs, _, hlc, hcm, hz, _, hcell, _⟩
  · exact ⟨_, [], hcs, none, 0, rfl, Nat.le_refl _, Nat.zero_le _, fun k hk => (Nat.not_lt_zero _ hk).elim⟩
  · have hzl : len ≤ zs.length := by rw [hz]; split <;> omega
    have hl : (zs.take len).length = len := by rw [List.length_take, Nat.min_eq_left hzl]
    refine ⟨_, zs.take len, hcs, some a, cap, by rw [hl], by rw [hl]; exact hlc, hcm, fun k hk => ⟨a, rfl, ?_⟩⟩
    rw [hl] at hk
    rw [hcell k (by omega)]
    simp [List.getD, hk]
set_option maxRecDepth 100000 in
theorem hsp_trod (h : DataW.trod enc Tryd.prog W base sp held fuel 52 cs = some x) : ∃ v l, cs = [v] ∧ HSp W v l := by
  rcases open_slice Tryd.underlying52 h with ⟨hcs, _⟩ | ⟨a, len, cap, m, n, D, Pl, hcs, _, hlc, hcm, hm, _, hcell⟩
  · exact ⟨_, [], hcs, none, 0, rfl, Nat.le_refl _, Nat.zero_le _, fun k hk => (Nat.not_lt_zero _ hk).elim⟩
  · have hml : len ≤ m := by rw [hm]; split <;> omega
    have h2 : Tryd.prog.cellsOf 64 = 2 := by kernel_rfl
    obtain ⟨f, hf⟩ := choose_fn (α := Spn) (P := fun i s => W.cell? (a.add (i * 2)) = some (.int .i64 s.f) ∧ W.cell? { block := (a.add (i * 2)).block, off := (a.add (i * 2)).off + 1 } = some (.int .i64 s.t)) (n := len) (fun i hi => by
      obtain ⟨cs', hc, ht⟩ := hcell i (by omega)
      rw [h2] at hc
      obtain ⟨_, hlen, hat⟩ := World.cells?_some hc
      obtain ⟨ys, k, _, _, _, hys, hfl⟩ := DataW.trod_struct Tryd.underlying64 ht
      match cs', hlen with
      | [z0, z1], _ =>
        match ys, hys with
        | [y0, y1], _ =>
          have c1 : Tryd.prog.cellsOf 3 = 1 := by kernel_rfl
          have g0 : DataW.trod enc Tryd.prog W base sp held k 3 (List.take (Tryd.prog.cellsOf 3) (List.drop 0 [z0, z1])) = some y0 := hfl 0 _ rfl
          have g1 : DataW.trod enc Tryd.prog W base sp held k 3 (List.take (Tryd.prog.cellsOf 3) (List.drop 1 [z0, z1])) = some y1 := hfl 1 _ rfl
          rw [c1] at g0 g1
          change DataW.trod enc _ W base sp held k _ [z0] = some y0 at g0
          change DataW.trod enc _ W base sp held k _ [z1] = some y1 at g1
          obtain ⟨x0, e0, _, _⟩ := DataW.trod_int Tryd.underlying3 g0
          obtain ⟨x1, e1, _, _⟩ := DataW.trod_int Tryd.underlying3 g1
          simp only [List.cons.injEq, and_true] at e0 e1
          subst e0 e1
          have q0 := hat 0 (by simp)
          have q1 := hat 1 (by simp)
          rw [add_zero7] at q0
          rw [add_pos7 _ (by omega)] at q1
          exact ⟨⟨x0, x1⟩, q0, q1⟩)
    refine ⟨_, (List.range len).map f, hcs, some a, cap, by simp, by simpa using hlc, hcm, fun k hk => ?_⟩
    rw [List.length_map, List.length_range] at hk
    rw [getD_range f _ hk]
    exact ⟨a, _, rfl, rfl, (hf k hk).1, (hf k hk).2⟩
set_option maxRecDepth 100000 in
theorem rule_trod {v0 v1 v2 v3 v4 v5 v6 v7 v8 v9 : Value} (hf : DataW.trod enc Tryd.prog W base sp held fuel 51 [v0, v1, v2, v3, v4, v5, v6, v7, v8, v9] = some x) :
    ∃ a b c d e f g h i j : Int, [v0, v1, v2, v3, v4, v5, v6, v7, v8, v9] = [.int .i64 a, .int .i64 b, .int .i64 c, .int .i64 d, .int .i64 e, .int .i64 f, .int .i64 g, .int .i64 h, .int .i64 i, .int .i64 j] := by
  obtain ⟨xs, n', _, _, _, hlen, hf⟩ := DataW.trod_struct Tryd.underlying51 hf
  match xs, hlen with
  | [y0, y1, y2, y3, y4, y5], _ =>
    have c1 : Tryd.prog.cellsOf 3 = 1 := by kernel_rfl
    have c3 : Tryd.prog.cellsOf 49 = 3 := by kernel_rfl
    have h0 : DataW.trod enc Tryd.prog W base sp held n' 3 (List.take (Tryd.prog.cellsOf 3) (List.drop 0 [v0, v1, v2, v3, v4, v5, v6, v7, v8, v9])) = some y0 := hf 0 _ rfl
    have h1 : DataW.trod enc Tryd.prog W base sp held n' 3 (List.take (Tryd.prog.cellsOf 3) (List.drop 1 [v0, v1, v2, v3, v4, v5, v6, v7, v8, v9])) = some y1 := hf 1 _ rfl
    have h2 : DataW.trod enc Tryd.prog W base sp held n' 3 (List.take (Tryd.prog.cellsOf 3) (List.drop 2 [v0, v1, v2, v3, v4, v5, v6, v7, v8, v9])) = some y2 := hf 2 _ rfl
    have h3 : DataW.trod enc Tryd.prog W base sp held n' 3 (List.take (Tryd.prog.cellsOf 3) (List.drop 3 [v0, v1, v2, v3, v4, v5, v6, v7, v8, v9])) = some y3 := hf 3 _ rfl
    have h4 : DataW.trod enc Tryd.prog W base sp held n' 49 (List.take (Tryd.prog.cellsOf 49) (List.drop 4 [v0, v1, v2, v3, v4, v5, v6, v7, v8, v9])) = some y4 := hf 4 _ rfl
    have h5 : DataW.trod enc Tryd.prog W base sp held n' 49 (List.take (Tryd.prog.cellsOf 49) (List.drop 7 [v0, v1, v2, v3, v4, v5, v6, v7, v8, v9])) = some y5 := hf 5 _ rfl
    rw [c1] at h0 h1 h2 h3
    rw [c3] at h4 h5
    change DataW.trod enc _ W base sp held n' _ [v0] = some y0 at h0
    change DataW.trod enc _ W base sp held n' _ [v1] = some y1 at h1
    change DataW.trod enc _ W base sp held n' _ [v2] = some y2 at h2
    change DataW.trod enc _ W base sp held n' _ [v3] = some y3 at h3
    change DataW.trod enc _ W base sp held n' _ [v4, v5, v6] = some y4 at h4
    change DataW.trod enc _ W base sp held n' _ [v7, v8, v9] = some y5 at h5
    obtain ⟨x0, e0, _, _⟩ := DataW.trod_int Tryd.underlying3 h0
    obtain ⟨x1, e1, _, _⟩ := DataW.trod_int Tryd.underlying3 h1
    obtain ⟨x2, e2, _, _⟩ := DataW.trod_int Tryd.underlying3 h2
    obtain ⟨x3, e3, _, _⟩ := DataW.trod_int Tryd.underlying3 h3
    obtain ⟨a4, a5, a6, rfl, rfl, rfl⟩ := open_d37 h4
    obtain ⟨a7, a8, a9, rfl, rfl, rfl⟩ := open_d37 h5
    simp only [List.cons.injEq, and_true] at e0 e1 e2 e3
    subst e0 e1 e2 e3
    exact ⟨x0, x1, x2, x3, a4, a5, a6, a7, a8, a9, rfl⟩
set_option maxRecDepth 100000 in
theorem hen_trod (h : DataW.trod enc Tryd.prog W base sp held fuel 43 cs = some x) : ∃ v l, cs = [v] ∧ HEn W v l := by
  rcases open_slice Tryd.underlying43 h with ⟨hcs, _⟩ | ⟨a, len, cap, m, n, D, Pl, hcs, _, hlc, hcm, hm, _, hcell⟩
  · exact ⟨_, [], hcs, none, 0, fun _ => .slice none 0 0, rfl, Nat.le_refl _, Nat.zero_le _, fun k hk => (Nat.not_lt_zero _ hk).elim⟩
  · have hml : len ≤ m := by rw [hm]; split <;> omega
    have h2 : Tryd.prog.cellsOf 54 = 11 := by kernel_rfl
    obtain ⟨f, hf⟩ := choose_fn (α := Ent × Value) (P := fun i s => EnAt W (a.add (i * 11)) s.1.r s.2 ∧ HSp W s.2 s.1.sp) (n := len) (fun i hi => by
      obtain ⟨cs', hc, ht⟩ := hcell i (by omega)
      rw [h2] at hc
      obtain ⟨_, hlen, hat⟩ := World.cells?_some hc
      obtain ⟨ys, k, _, _, _, hys, hfl⟩ := DataW.trod_struct Tryd.underlying54 ht
      match cs', hlen with
      | [z0, z1, z2, z3, z4, z5, z6, z7, z8, z9, z10], _ =>
        match ys, hys with
        | [y0, y1], _ =>
          have c1 : Tryd.prog.cellsOf 51 = 10 := by kernel_rfl
          have c2 : Tryd.prog.cellsOf 52 = 1 := by kernel_rfl
          have g0 : DataW.trod enc Tryd.prog W base sp held k 51 (List.take (Tryd.prog.cellsOf 51) (List.drop 0 [z0, z1, z2, z3, z4, z5, z6, z7, z8, z9, z10])) = some y0 := hfl 0 _ rfl
          have g1 : DataW.trod enc Tryd.prog W base sp held k 52 (List.take (Tryd.prog.cellsOf 52) (List.drop 10 [z0, z1, z2, z3, z4, z5, z6, z7, z8, z9, z10])) = some y1 := hfl 1 _ rfl
          rw [c1] at g0
          rw [c2] at g1
          change DataW.trod enc _ W base sp held k _ [z0, z1, z2, z3, z4, z5, z6, z7, z8, z9] = some y0 at g0
          change DataW.trod enc _ W base sp held k _ [z10] = some y1 at g1
          obtain ⟨x0, x1, x2, x3, x4, x5, x6, x7, x8, x9, e0⟩ := rule_trod g0
          obtain ⟨v1, l1, e1, hsp⟩ := hsp_trod g1
          simp only [List.cons.injEq, and_true] at e0 e1
          obtain ⟨rfl, rfl, rfl, rfl, rfl, rfl, rfl, rfl, rfl, rfl⟩ := e0
          subst e1
          have q0 := hat 0 (by simp)
          rw [add_zero7] at q0
          refine ⟨(⟨⟨x0, x1, x2, x3, x4, x5, x6, x7, x8, x9⟩, l1⟩, z10), ⟨q0, ?_, ?_, ?_, ?_, ?_, ?_, ?_, ?_, ?_, ?_⟩, hsp⟩
          · have q := hat 1 (by simp); rw [add_pos7 _ (by omega)] at q; exact q
          · have q := hat 2 (by simp); rw [add_pos7 _ (by omega)] at q; exact q
          · have q := hat 3 (by simp); rw [add_pos7 _ (by omega)] at q; exact q
          · have q := hat 4 (by simp); rw [add_pos7 _ (by omega)] at q; exact q
          · have q := hat 5 (by simp); rw [add_pos7 _ (by omega)] at q; exact q
          · have q := hat 6 (by simp); rw [add_pos7 _ (by omega)] at q; exact q
          · have q := hat 7 (by simp); rw [add_pos7 _ (by omega)] at q; exact q
          · have q := hat 8 (by simp); rw [add_pos7 _ (by omega)] at q; exact q
          · have q := hat 9 (by simp); rw [add_pos7 _ (by omega)] at q; exact q
          · have q := hat 10 (by simp); rw [add_pos7 _ (by omega)] at q; exact q)
    refine ⟨_, (List.range len).map fun i => (f i).1, hcs, some a, cap, fun i => (f i).2, by simp, by simpa using hlc, hcm, fun k hk => ?_⟩
    rw [List.length_map, List.length_range] at hk
    rw [getD_range _ _ hk]
    exact ⟨⟨a, _, rfl, rfl, (hf k hk).1⟩, (hf k hk).2⟩
set_option maxRecDepth 100000 in
theorem hpd_trod (h : DataW.trod enc Tryd.prog W base sp held fuel 22 cs = some x) : ∃ v l, cs = [v] ∧ HPd W v l := by
  rcases open_slice Tryd.underlying22 h with ⟨hcs, _⟩ | ⟨a, len, cap, m, n, D, Pl, hcs, _, hlc, hcm, hm, _, hcell⟩
  · exact ⟨_, [], hcs, none, 0, fun _ => .slice none 0 0, fun _ => .slice none 0 0, rfl, Nat.le_refl _, Nat.zero_le _, fun k hk => (Nat.not_lt_zero _ hk).elim⟩
  · have hml : len ≤ m := by rw [hm]; split <;> omega
    have h2 : Tryd.prog.cellsOf 46 = 2 := by kernel_rfl
    obtain ⟨f, hf⟩ := choose_fn (α := Prd × Value × Value) (P := fun i s => (W.cell? (a.add (i * 2)) = some s.2.1 ∧ W.cell? { block := (a.add (i * 2)).block, off := (a.add (i * 2)).off + 1 } = some s.2.2) ∧ HEn W s.2.1 s.1.es ∧ HIn W s.2.2 s.1.ex) (n := len) (fun i hi => by
      obtain ⟨cs', hc, ht⟩ := hcell i (by omega)
      rw [h2] at hc
      obtain ⟨_, hlen, hat⟩ := World.cells?_some hc
      obtain ⟨ys, k, _, _, _, hys, hfl⟩ := DataW.trod_struct Tryd.underlying46 ht
      match cs', hlen with
      | [z0, z1], _ =>
        match ys, hys with
        | [y0, y1], _ =>
          have c1 : Tryd.prog.cellsOf 43 = 1 := by kernel_rfl
          have c2 : Tryd.prog.cellsOf 44 = 1 := by kernel_rfl
          have g0 : DataW.trod enc Tryd.prog W base sp held k 43 (List.take (Tryd.prog.cellsOf 43) (List.drop 0 [z0, z1])) = some y0 := hfl 0 _ rfl
          have g1 : DataW.trod enc Tryd.prog W base sp held k 44 (List.take (Tryd.prog.cellsOf 44) (List.drop 1 [z0, z1])) = some y1 := hfl 1 _ rfl
          rw [c1] at g0
          rw [c2] at g1
          change DataW.trod enc _ W base sp held k _ [z0] = some y0 at g0
          change DataW.trod enc _ W base sp held k _ [z1] = some y1 at g1
          obtain ⟨u0, l0, e0, hes⟩ := hen_trod g0
          obtain ⟨u1, l1, e1, hex⟩ := hin_trod g1
          simp only [List.cons.injEq, and_true] at e0 e1
          subst e0 e1
          have q0 := hat 0 (by simp)
          have q1 := hat 1 (by simp)
          rw [add_zero7] at q0
          rw [add_pos7 _ (by omega)] at q1
          exact ⟨(⟨l0, l1⟩, z0, z1), ⟨q0, q1⟩, hes, hex⟩)
    refine ⟨_, (List.range len).map fun i => (f i).1, hcs, some a, cap, fun i => (f i).2.1, fun i => (f i).2.2, by simp, by simpa using hlc, hcm, fun k hk => ?_⟩
    rw [List.length_map, List.length_range] at hk
    rw [getD_range _ _ hk]
    exact ⟨⟨a, _, rfl, rfl, (hf k hk).1⟩, (hf k hk).2⟩
set_option maxRecDepth 100000 in
/-- A set of periods that came in. -/
theorem open_set {r : Reach} {b0 : Nat} {v : Value} {d : DataW H} {p : List MemPlace} (hval : Value.okWide Tryd.prog W r b0 22 v) (h : DataW.Trod enc Tryd.prog W base sp held 22 v d p) : ∃ l, HPd W v l := by
  obtain ⟨a0, n0, c0, rfl⟩ := okWide_slice Tryd.underlying22 hval
  obtain ⟨fuel, hf⟩ := h
  obtain ⟨v, l, e, hp⟩ := hpd_trod hf
  simp only [Value.cells, List.cons.injEq, and_true] at e
  exact ⟨l, e ▸ hp⟩
end
end Go.Proofs.YtlogapkpllgdcaaDoor

/- Arguments []belvedereref09.Block, belvedereref09.Block, down to their cells. -/
import Derived.Test.YthnogakjaaopkaaGreatDoorRow
import Derived.Test.YthnogakjaaopkaaGreatDoorBp9
import Derived.Deep.Slices
import Derived.ChangeMaps5
import Derived.ProofKit
import Derived.OpenShut
import Derived.Lib.SmallJoins
namespace Go.Proofs.YthnogakjaaopkaaGreatDoor
open Go.ChangeShapes Go.WideShapes Go.ChangeAt Go.RowKit Go.Deep

theorem choose_fn {α : Type} [Inhabited α] {P : Nat → α → Prop} {n : Nat} (h : ∀ i, i < n → ∃ a, P i a) : ∃ f : Nat → α, ∀ i, i < n → P i (f i) := by
  classical
  refine ⟨fun i => if h' : i < n then (h i h').choose else default, fun i hi => ?_⟩
  simp only [hi, dif_pos]
  exact (h i hi).choose_spec
theorem add_zero9 (X : Addr) : X.add 0 = X := by cases X; simp [Addr.add]
theorem add_pos9 (X : Addr) {j : Nat} (h : 0 < j) : X.add j = { block := X.block, off := X.off + j } := by
  unfold Addr.add
  rw [if_neg (by omega)]
/-- Rows of three cells, from the cells of each element. -/
theorem rd_of_three {α : Type} {cells : α → List Value} (hk : ∀ a, (cells a).length = 3) {w : World} {a : Addr} {L : List α} (h : ∀ i, (hi : i < L.length) → ∀ j u, (cells L[i])[j]? = some u → w.cell? ((a.add (i * 3)).add j) = some u) : Rd w (some a) (L.flatMap cells) := fun _ => by
  refine ⟨a, rfl, fun j u hu => ?_⟩
  have hj := (List.getElem?_eq_some_iff.1 hu).1
  rw [flat_len cells 3 hk] at hj
  have hd : j / 3 < L.length := by omega
  have h1 := flat_get cells 3 hk L (j / 3) hd (j % 3) (Nat.mod_lt _ (by omega))
  have ej : j / 3 * 3 + j % 3 = j := by omega
  rw [ej, hu] at h1
  have := h (j / 3) hd (j % 3) u h1.symm
  rw [add_add', ej] at this
  exact this
instance : Inhabited MF := ⟨(0, [], [])⟩
instance : Inhabited MB := ⟨(0, [], [])⟩
section
variable {H : Type} {enc : TypeId × Value → H} {base : Nat} {sp : Nat → Bool} {held : Bool} {W : World} {fuel : Nat} {cs : List Value} {x : DataW H × List MemPlace}
set_option maxRecDepth 100000 in
theorem fields_trod (h : DataW.trod enc Tryz.prog W base sp held fuel 50 cs = some x) : ∃ v l, cs = [v] ∧ RowF W v l := by
  rcases open_slice Tryz.underlying50 h with ⟨hcs, _⟩ | ⟨a, len, cap, m, n, D, Pl, hcs, _, hlc, hcm, hm, _, hcell⟩
  · exact ⟨_, [], hcs, RowF.nil W⟩
  · have hml : len ≤ m := by rw [hm]; split <;> omega
    have h2 : Tryz.prog.cellsOf 49 = 3 := by kernel_rfl
    obtain ⟨f, hf⟩ := choose_fn (α := MF) (P := fun i s => ∀ j u, (fdC s)[j]? = some u → W.cell? ((a.add (i * 3)).add j) = some u) (n := len) (fun i hi => by
      obtain ⟨cs', hc, ht⟩ := hcell i (by omega)
      rw [h2] at hc
      obtain ⟨_, hlen, hat⟩ := World.cells?_some hc
      obtain ⟨ys, k, _, _, _, hys, hfl⟩ := DataW.trod_struct Tryz.underlying49 ht
      match cs', hlen with
      | [z0, z1, z2], _ =>
        match ys, hys with
        | [y0, y1, y2], _ =>
          have c1 : Tryz.prog.cellsOf 3 = 1 := by kernel_rfl
          have c2 : Tryz.prog.cellsOf 9 = 1 := by kernel_rfl
          have g0 : DataW.trod enc Tryz.prog W base sp held k 3 (List.take (Tryz.prog.cellsOf 3) (List.drop 0 [z0, z1, z2])) = some y0 := hfl 0 _ rfl
          have g1 : DataW.trod enc Tryz.prog W base sp held k 9 (List.take (Tryz.prog.cellsOf 9) (List.drop 1 [z0, z1, z2])) = some y1 := hfl 1 _ rfl
          have g2 : DataW.trod enc Tryz.prog W base sp held k 9 (List.take (Tryz.prog.cellsOf 9) (List.drop 2 [z0, z1, z2])) = some y2 := hfl 2 _ rfl
          rw [c1] at g0
          rw [c2] at g1 g2
          change DataW.trod enc _ W base sp held k _ [z0] = some y0 at g0
          change DataW.trod enc _ W base sp held k _ [z1] = some y1 at g1
          change DataW.trod enc _ W base sp held k _ [z2] = some y2 at g2
          obtain ⟨x0, e0, _, _⟩ := DataW.trod_int Tryz.underlying3 g0
          obtain ⟨x1, e1, _, _⟩ := DataW.trod_string Tryz.underlying9 g1
          obtain ⟨x2, e2, _, _⟩ := DataW.trod_string Tryz.underlying9 g2
          simp only [List.cons.injEq, and_true] at e0 e1 e2
          subst e0 e1 e2
          exact ⟨(x0, x1.data.toList, x2.data.toList), fun j u hu => hat j (by rw [List.getElem?_eq_some_iff] at hu; obtain ⟨hj, _⟩ := hu; exact hj) |>.trans hu⟩)
    refine ⟨_, (List.range len).map f, hcs, some a, cap, by simp, by simpa using hlc, hcm, rd_of_three (cells := fdC) (fun _ => rfl) fun k hk => ?_⟩
    rw [List.length_map, List.length_range] at hk
    rw [List.getElem_map, List.getElem_range]
    exact hf k hk
set_option maxRecDepth 100000 in
theorem block_trod {z0 z1 z2 : Value} (ht : DataW.trod enc Tryz.prog W base sp held fuel 52 [z0, z1, z2] = some x) : ∃ b : MB, [z0, z1, z2] = bkC (b, z2) ∧ RowF W z2 b.2.2 := by
  obtain ⟨ys, k, _, _, _, hys, hfl⟩ := DataW.trod_struct Tryz.underlying52 ht
  match ys, hys with
  | [y0, y1, y2], _ =>
    have c1 : Tryz.prog.cellsOf 3 = 1 := by kernel_rfl
    have c2 : Tryz.prog.cellsOf 9 = 1 := by kernel_rfl
    have c3 : Tryz.prog.cellsOf 50 = 1 := by kernel_rfl
    have g0 : DataW.trod enc Tryz.prog W base sp held k 3 (List.take (Tryz.prog.cellsOf 3) (List.drop 0 [z0, z1, z2])) = some y0 := hfl 0 _ rfl
    have g1 : DataW.trod enc Tryz.prog W base sp held k 9 (List.take (Tryz.prog.cellsOf 9) (List.drop 1 [z0, z1, z2])) = some y1 := hfl 1 _ rfl
    have g2 : DataW.trod enc Tryz.prog W base sp held k 50 (List.take (Tryz.prog.cellsOf 50) (List.drop 2 [z0, z1, z2])) = some y2 := hfl 2 _ rfl
    rw [c1] at g0
    rw [c2] at g1
    rw [c3] at g2
    change DataW.trod enc _ W base sp held k _ [z0] = some y0 at g0
    change DataW.trod enc _ W base sp held k _ [z1] = some y1 at g1
    change DataW.trod enc _ W base sp held k _ [z2] = some y2 at g2
    obtain ⟨x0, e0, _, _⟩ := DataW.trod_int Tryz.underlying3 g0
    obtain ⟨x1, e1, _, _⟩ := DataW.trod_string Tryz.underlying9 g1
    obtain ⟨v, l, e2, hl⟩ := fields_trod g2
    simp only [List.cons.injEq, and_true] at e0 e1 e2
    subst e0 e1 e2
    exact ⟨(x0, x1.data.toList, l), rfl, hl⟩
set_option maxRecDepth 100000 in
theorem blocks_trod (h : DataW.trod enc Tryz.prog W base sp held fuel 22 cs = some x) : ∃ v l, cs = [v] ∧ RowB W v l := by
  rcases open_slice Tryz.underlying22 h with ⟨hcs, _⟩ | ⟨a, len, cap, m, n, D, Pl, hcs, _, hlc, hcm, hm, _, hcell⟩
  · exact ⟨_, [], hcs, RowB.nil W⟩
  · have hml : len ≤ m := by rw [hm]; split <;> omega
    have h2 : Tryz.prog.cellsOf 52 = 3 := by kernel_rfl
    obtain ⟨f, hf⟩ := choose_fn (α := MB × Value) (P := fun i s => (∀ j u, (bkC s)[j]? = some u → W.cell? ((a.add (i * 3)).add j) = some u) ∧ RowF W s.2 s.1.2.2) (n := len) (fun i hi => by
      obtain ⟨cs', hc, ht⟩ := hcell i (by omega)
      rw [h2] at hc
      obtain ⟨_, hlen, hat⟩ := World.cells?_some hc
      match cs', hlen with
      | [z0, z1, z2], _ =>
        obtain ⟨b, e, hr⟩ := block_trod ht
        refine ⟨(b, z2), fun j u hu => ?_, hr⟩
        rw [← e] at hu
        exact hat j (by rw [List.getElem?_eq_some_iff] at hu; obtain ⟨hj, _⟩ := hu; exact hj) |>.trans hu)
    refine ⟨_, ((List.range len).map f).map (·.1), hcs, some a, cap, (List.range len).map f, rfl, by simp, by simpa using hlc, hcm, rd_of_three (cells := bkC) (fun _ => rfl) fun k hk => ?_, fun p hp => ?_⟩
    · rw [List.length_map, List.length_range] at hk
      rw [List.getElem_map, List.getElem_range]
      exact (hf k hk).1
    · obtain ⟨k, hk, rfl⟩ := List.mem_map.1 hp
      exact (hf k (List.mem_range.1 hk)).2
set_option maxRecDepth 100000 in
/-- Blocks that came in. -/
theorem open_bks {r : Reach} {b0 : Nat} {v : Value} {d : DataW H} {p : List MemPlace} (hval : Value.okWide Tryz.prog W r b0 22 v) (h : DataW.Trod enc Tryz.prog W base sp held 22 v d p) : ∃ l, RowB W v l := by
  obtain ⟨a0, n0, c0, rfl⟩ := okWide_slice Tryz.underlying22 hval
  obtain ⟨fuel, hf⟩ := h
  obtain ⟨v, l, e, hp⟩ := blocks_trod hf
  simp only [Value.cells, List.cons.injEq, and_true] at e
  exact ⟨l, e ▸ hp⟩
set_option maxRecDepth 100000 in
/-- A block that came in. -/
theorem open_bk {r : Reach} {b0 : Nat} {v : Value} {d : DataW H} {p : List MemPlace} (hval : Value.okWide Tryz.prog W r b0 52 v) (h : DataW.Trod enc Tryz.prog W base sp held 52 v d p) : ∃ (b : MB) (u : Value), v = .agg #[.int .i64 b.1, .string (str b.2.1), u] ∧ RowF W u b.2.2 := by
  obtain ⟨cs, rfl, hsz⟩ := okWide_struct Tryz.underlying52 hval
  have c3 : Tryz.prog.cellsOf 52 = 3 := by kernel_rfl
  rw [c3] at hsz
  obtain ⟨l⟩ := cs
  obtain ⟨fuel, hf⟩ := h
  match l, hsz with
  | [v0, v1, v2], _ =>
    obtain ⟨b, e, hr⟩ := block_trod hf
    unfold bkC at e
    simp only [List.cons.injEq, and_true] at e
    obtain ⟨rfl, rfl⟩ := e
    exact ⟨b, v2, rfl, hr⟩
end
end Go.Proofs.YthnogakjaaopkaaGreatDoor

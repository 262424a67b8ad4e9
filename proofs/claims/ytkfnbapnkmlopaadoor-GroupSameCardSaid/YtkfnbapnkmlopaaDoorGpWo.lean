/- Arguments []belvedereref13.Group, []belvedereref13.Item, []int, down to their cells. -/
import Derived.Test.YtkfnbapnkmlopaaDoorRow
import Derived.Test.YtkfnbapnkmlopaaDoorGpMem
import Derived.Test.YtkfnbapnkmlopaaDoorGpTz
import Derived.SliceStrings
import Derived.Deep.Slices
import Derived.ChangeMaps5
import Derived.ProofKit
import Derived.OpenShut
namespace Go.Proofs.YtkfnbapnkmlopaaDoor
open Go.ChangeShapes Go.WideShapes Go.ChangeAt Go.RowKit Go.Deep Go.WideMaps Go.WideElems

theorem choose_fn13 {α : Type} [Inhabited α] {P : Nat → α → Prop} {n : Nat} (h : ∀ i, i < n → ∃ a, P i a) : ∃ f : Nat → α, ∀ i, i < n → P i (f i) := by
  classical
  refine ⟨fun i => if h' : i < n then (h i h').choose else default, fun i hi => ?_⟩
  simp only [hi, dif_pos]
  exact (h i hi).choose_spec
/-- Rows of k cells, from the cells of each element. -/
theorem rd_of_k {α : Type} {cells : α → List Value} {k : Nat} (hk0 : 0 < k) (hk : ∀ a, (cells a).length = k) {w : World} {a : Addr} {L : List α} (h : ∀ i, (hi : i < L.length) → ∀ j u, (cells L[i])[j]? = some u → w.cell? ((a.add (i * k)).add j) = some u) : Rd w (some a) (L.flatMap cells) := fun _ => by
  refine ⟨a, rfl, fun j u hu => ?_⟩
  have hj := (List.getElem?_eq_some_iff.1 hu).1
  rw [flat_len cells k hk] at hj
  have hd : j / k < L.length := by rw [Nat.div_lt_iff_lt_mul hk0]; exact hj
  have h1 := flat_get cells k hk L (j / k) hd (j % k) (Nat.mod_lt _ hk0)
  have ej : j / k * k + j % k = j := Nat.div_add_mod' j k
  rw [ej, hu] at h1
  have := h (j / k) hd (j % k) u h1.symm
  rw [add_add', ej] at this
  exact this
instance : Inhabited (Grp × Value × Value) := ⟨(([], [], []), .slice none 0 0, .slice none 0 0)⟩
instance : Inhabited (Itm × Value) := ⟨(([], []), .slice none 0 0)⟩
section
variable {H : Type} {enc : TypeId × Value → H} {base : Nat} {sp : Nat → Bool} {held : Bool} {W : World} {fuel : Nat} {cs : List Value} {x : DataW H × List MemPlace}
set_option maxRecDepth 100000 in
theorem strs_trod (h : DataW.trod enc Tryd.prog W base sp held fuel 43 cs = some x) : ∃ v l, cs = [v] ∧ RowS W v l ∧ ∀ s ∈ l, SmN s := by
  rcases open_strings Tryd.underlying43 Tryd.underlying9 (by kernel_rfl) h with ⟨hcs, _⟩ | ⟨a, len, cap, zs, hcs, _, hlc, hcm, hz, _, hcell, hwf⟩
  · exact ⟨_, [], hcs, ⟨none, 0, rfl, Nat.le_refl _, Nat.zero_le _, Rd.nil⟩, fun s hs => absurd hs List.not_mem_nil⟩
  · have hzl : len ≤ zs.length := by rw [hz]; split <;> omega
    refine ⟨_, (zs.take len).map fun s => s.data.toList, hcs, ⟨some a, cap, by rw [List.length_map, List.length_take, Nat.min_eq_left hzl], by rw [List.length_map, List.length_take]; omega, hcm, fun _ => ⟨a, rfl, fun j u hu => ?_⟩⟩, fun s hs => ?_⟩
    · have hj := (List.getElem?_eq_some_iff.1 hu).1
      simp only [List.length_map, List.length_take] at hj
      have hjz : j < zs.length := by omega
      rw [hcell j hjz]
      simp only [List.map_map, List.getElem?_map, List.getElem?_take, if_pos (show j < len by omega), List.getElem?_eq_getElem hjz, Option.map_some, Option.some.injEq] at hu
      rw [← hu]
      simp [List.getD, List.getElem?_eq_getElem hjz, txC, str]
    · obtain ⟨z, hz2, rfl⟩ := List.mem_map.1 hs
      exact hwf z (List.mem_of_mem_take hz2)
/-- No name of a group, of an item, is too long. -/
def SmGr (b : Grp) : Prop := SmN b.1 ∧ (∀ s ∈ b.2.1, SmN s) ∧ ∀ s ∈ b.2.2, SmN s
def SmIt (b : Itm) : Prop := SmN b.1 ∧ ∀ s ∈ b.2, SmN s
set_option maxRecDepth 100000 in
theorem group_trod {z0 z1 z2 : Value} (ht : DataW.trod enc Tryd.prog W base sp held fuel 53 [z0, z1, z2] = some x) : ∃ b : Grp, [z0, z1, z2] = grC (b, z1, z2) ∧ (RowS W z1 b.2.1 ∧ RowS W z2 b.2.2) ∧ SmGr b := by
  obtain ⟨ys, k, _, _, _, hys, hfl⟩ := DataW.trod_struct Tryd.underlying53 ht
  match ys, hys with
  | [y0, y1, y2], _ =>
    have c2 : Tryd.prog.cellsOf 9 = 1 := by kernel_rfl
    have c3 : Tryd.prog.cellsOf 43 = 1 := by kernel_rfl
    have g0 : DataW.trod enc Tryd.prog W base sp held k 9 (List.take (Tryd.prog.cellsOf 9) (List.drop 0 [z0, z1, z2])) = some y0 := hfl 0 _ rfl
    have g1 : DataW.trod enc Tryd.prog W base sp held k 43 (List.take (Tryd.prog.cellsOf 43) (List.drop 1 [z0, z1, z2])) = some y1 := hfl 1 _ rfl
    have g2 : DataW.trod enc Tryd.prog W base sp held k 43 (List.take (Tryd.prog.cellsOf 43) (List.drop 2 [z0, z1, z2])) = some y2 := hfl 2 _ rfl
    rw [c2] at g0
    rw [c3] at g1 g2
    change DataW.trod enc _ W base sp held k _ [z0] = some y0 at g0
    change DataW.trod enc _ W base sp held k _ [z1] = some y1 at g1
    change DataW.trod enc _ W base sp held k _ [z2] = some y2 at g2
    obtain ⟨x0, e0, _, hx0⟩ := DataW.trod_string Tryd.underlying9 g0
    obtain ⟨v1, l1, e1, hl1, hm1⟩ := strs_trod g1
    obtain ⟨v2, l2, e2, hl2, hm2⟩ := strs_trod g2
    simp only [List.cons.injEq, and_true] at e0 e1 e2
    subst e0 e1 e2
    exact ⟨(x0.data.toList, l1, l2), rfl, ⟨hl1, hl2⟩, hx0, hm1, hm2⟩
set_option maxRecDepth 100000 in
theorem item_trod {z0 z1 : Value} (ht : DataW.trod enc Tryd.prog W base sp held fuel 54 [z0, z1] = some x) : ∃ b : Itm, [z0, z1] = itC (b, z1) ∧ RowS W z1 b.2 ∧ SmIt b := by
  obtain ⟨ys, k, _, _, _, hys, hfl⟩ := DataW.trod_struct Tryd.underlying54 ht
  match ys, hys with
  | [y0, y1], _ =>
    have c2 : Tryd.prog.cellsOf 9 = 1 := by kernel_rfl
    have c3 : Tryd.prog.cellsOf 43 = 1 := by kernel_rfl
    have g0 : DataW.trod enc Tryd.prog W base sp held k 9 (List.take (Tryd.prog.cellsOf 9) (List.drop 0 [z0, z1])) = some y0 := hfl 0 _ rfl
    have g1 : DataW.trod enc Tryd.prog W base sp held k 43 (List.take (Tryd.prog.cellsOf 43) (List.drop 1 [z0, z1])) = some y1 := hfl 1 _ rfl
    rw [c2] at g0
    rw [c3] at g1
    change DataW.trod enc _ W base sp held k _ [z0] = some y0 at g0
    change DataW.trod enc _ W base sp held k _ [z1] = some y1 at g1
    obtain ⟨x0, e0, _, hx0⟩ := DataW.trod_string Tryd.underlying9 g0
    obtain ⟨v1, l1, e1, hl1, hm1⟩ := strs_trod g1
    simp only [List.cons.injEq, and_true] at e0 e1
    subst e0 e1
    exact ⟨(x0.data.toList, l1), rfl, hl1, hx0, hm1⟩
set_option maxRecDepth 100000 in
theorem groups_trod (h : DataW.trod enc Tryd.prog W base sp held fuel 22 cs = some x) : ∃ v l, cs = [v] ∧ RowG W v l ∧ ∀ a ∈ l, SmGr a := by
  rcases open_slice Tryd.underlying22 h with ⟨hcs, _⟩ | ⟨a, len, cap, m, n, D, Pl, hcs, _, hlc, hcm, hm, _, hcell⟩
  · exact ⟨_, [], hcs, RowG.nil W, fun a ha => absurd ha List.not_mem_nil⟩
  · have hml : len ≤ m := by rw [hm]; split <;> omega
    have h2 : Tryd.prog.cellsOf 53 = 3 := by kernel_rfl
    obtain ⟨f, hf⟩ := choose_fn13 (α := Grp × Value × Value) (P := fun i s => (∀ j u, (grC s)[j]? = some u → W.cell? ((a.add (i * 3)).add j) = some u) ∧ (RowS W s.2.1 s.1.2.1 ∧ RowS W s.2.2 s.1.2.2) ∧ SmGr s.1) (n := len) (fun i hi => by
      obtain ⟨cs', hc, ht⟩ := hcell i (by omega)
      rw [h2] at hc
      obtain ⟨_, hlen, hat⟩ := World.cells?_some hc
      match cs', hlen with
      | [z0, z1, z2], _ =>
        obtain ⟨b, e, hr⟩ := group_trod ht
        refine ⟨(b, z1, z2), fun j u hu => ?_, hr⟩
        rw [← e] at hu
        exact hat j (by rw [List.getElem?_eq_some_iff] at hu; obtain ⟨hj, _⟩ := hu; exact hj) |>.trans hu)
    refine ⟨_, ((List.range len).map f).map (·.1), hcs, ⟨some a, cap, (List.range len).map f, rfl, by simp, by simpa using hlc, hcm, rd_of_k (cells := grC) (k := 3) (by omega) (fun _ => rfl) fun k hk => ?_, fun p hp => ?_⟩, fun b hb => ?_⟩
    · rw [List.length_map, List.length_range] at hk
      rw [List.getElem_map, List.getElem_range]
      exact (hf k hk).1
    · obtain ⟨k, hk, rfl⟩ := List.mem_map.1 hp
      exact (hf k (List.mem_range.1 hk)).2.1
    · obtain ⟨p, hp, rfl⟩ := List.mem_map.1 hb
      obtain ⟨k, hk, rfl⟩ := List.mem_map.1 hp
      exact (hf k (List.mem_range.1 hk)).2.2
set_option maxRecDepth 100000 in
theorem items_trod (h : DataW.trod enc Tryd.prog W base sp held fuel 23 cs = some x) : ∃ v l, cs = [v] ∧ RowX W v l ∧ ∀ a ∈ l, SmIt a := by
  rcases open_slice Tryd.underlying23 h with ⟨hcs, _⟩ | ⟨a, len, cap, m, n, D, Pl, hcs, _, hlc, hcm, hm, _, hcell⟩
  · exact ⟨_, [], hcs, RowX.nil W, fun a ha => absurd ha List.not_mem_nil⟩
  · have hml : len ≤ m := by rw [hm]; split <;> omega
    have h2 : Tryd.prog.cellsOf 54 = 2 := by kernel_rfl
    obtain ⟨f, hf⟩ := choose_fn13 (α := Itm × Value) (P := fun i s => (∀ j u, (itC s)[j]? = some u → W.cell? ((a.add (i * 2)).add j) = some u) ∧ RowS W s.2 s.1.2 ∧ SmIt s.1) (n := len) (fun i hi => by
      obtain ⟨cs', hc, ht⟩ := hcell i (by omega)
      rw [h2] at hc
      obtain ⟨_, hlen, hat⟩ := World.cells?_some hc
      match cs', hlen with
      | [z0, z1], _ =>
        obtain ⟨b, e, hr⟩ := item_trod ht
        refine ⟨(b, z1), fun j u hu => ?_, hr⟩
        rw [← e] at hu
        exact hat j (by rw [List.getElem?_eq_some_iff] at hu; obtain ⟨hj, _⟩ := hu; exact hj) |>.trans hu)
    refine ⟨_, ((List.range len).map f).map (·.1), hcs, ⟨some a, cap, (List.range len).map f, rfl, by simp, by simpa using hlc, hcm, rd_of_k (cells := itC) (k := 2) (by omega) (fun _ => rfl) fun k hk => ?_, fun p hp => ?_⟩, fun b hb => ?_⟩
    · rw [List.length_map, List.length_range] at hk
      rw [List.getElem_map, List.getElem_range]
      exact (hf k hk).1
    · obtain ⟨k, hk, rfl⟩ := List.mem_map.1 hp
      exact (hf k (List.mem_range.1 hk)).2.1
    · obtain ⟨p, hp, rfl⟩ := List.mem_map.1 hb
      obtain ⟨k, hk, rfl⟩ := List.mem_map.1 hp
      exact (hf k (List.mem_range.1 hk)).2.2
set_option maxRecDepth 100000 in
/-- Groups that came in. -/
theorem open_groups {r : Reach} {b0 : Nat} {v : Value} {d : DataW H} {p : List MemPlace} (hval : Value.okWide Tryd.prog W r b0 22 v) (h : DataW.Trod enc Tryd.prog W base sp held 22 v d p) : ∃ l, RowG W v l ∧ ∀ a ∈ l, SmGr a := by
  obtain ⟨a0, n0, c0, rfl⟩ := okWide_slice Tryd.underlying22 hval
  obtain ⟨fuel, hf⟩ := h
  obtain ⟨v, l, e, hp, hm⟩ := groups_trod hf
  simp only [Value.cells, List.cons.injEq, and_true] at e
  exact ⟨l, e ▸ hp, hm⟩
set_option maxRecDepth 100000 in
/-- Items that came in. -/
theorem open_items {r : Reach} {b0 : Nat} {v : Value} {d : DataW H} {p : List MemPlace} (hval : Value.okWide Tryd.prog W r b0 23 v) (h : DataW.Trod enc Tryd.prog W base sp held 23 v d p) : ∃ l, RowX W v l ∧ ∀ a ∈ l, SmIt a := by
  obtain ⟨a0, n0, c0, rfl⟩ := okWide_slice Tryd.underlying23 hval
  obtain ⟨fuel, hf⟩ := h
  obtain ⟨v, l, e, hp, hm⟩ := items_trod hf
  simp only [Value.cells, List.cons.injEq, and_true] at e
  exact ⟨l, e ▸ hp, hm⟩
end
end Go.Proofs.YtkfnbapnkmlopaaDoor

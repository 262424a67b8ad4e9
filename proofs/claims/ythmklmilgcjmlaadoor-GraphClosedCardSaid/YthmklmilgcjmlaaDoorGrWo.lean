/- Arguments [][2]int, down to their cells. -/
import Derived.Test.YthmklmilgcjmlaaDoorRow
import Derived.Test.YthmklmilgcjmlaaDoorGrMem
import Derived.Test.YthmklmilgcjmlaaDoorInts2
import Derived.Deep.Slices
import Derived.ChangeMaps5
import Derived.ProofKit
import Derived.OpenShut
namespace Go.Proofs.YthmklmilgcjmlaaDoor
open Go.ChangeShapes Go.WideShapes Go.ChangeAt Go.RowKit Go.Deep

theorem choose_fn2 {α : Type} [Inhabited α] {P : Nat → α → Prop} {n : Nat} (h : ∀ i, i < n → ∃ a, P i a) : ∃ f : Nat → α, ∀ i, i < n → P i (f i) := by
  classical
  refine ⟨fun i => if h' : i < n then (h i h').choose else default, fun i hi => ?_⟩
  simp only [hi, dif_pos]
  exact (h i hi).choose_spec
/-- Rows of two cells, from the cells of each element. -/
theorem rd_of_two {α : Type} {cells : α → List Value} (hk : ∀ a, (cells a).length = 2) {w : World} {a : Addr} {L : List α} (h : ∀ i, (hi : i < L.length) → ∀ j u, (cells L[i])[j]? = some u → w.cell? ((a.add (i * 2)).add j) = some u) : Rd w (some a) (L.flatMap cells) := by
  intro _
  refine ⟨a, rfl, fun j u hu => ?_⟩
  have hj := (List.getElem?_eq_some_iff.1 hu).1
  rw [flat_len cells 2 hk] at hj
  have hd : j / 2 < L.length := by omega
  have h1 := flat_get cells 2 hk L (j / 2) hd (j % 2) (Nat.mod_lt _ (by omega))
  have ej : j / 2 * 2 + j % 2 = j := by omega
  rw [ej, hu] at h1
  have := h (j / 2) hd (j % 2) u h1.symm
  rw [add_add', ej] at this
  exact this
section
variable {H : Type} {enc : TypeId × Value → H} {base : Nat} {sp : Nat → Bool} {held : Bool} {W : World} {fuel : Nat} {cs : List Value} {x : DataW H × List MemPlace}
set_option maxRecDepth 100000 in
theorem ways_trod (h : DataW.trod enc Tryd.prog W base sp held fuel 22 cs = some x) : ∃ v l, cs = [v] ∧ RowW W v l := by
  rcases open_slice Tryd.underlying22 h with ⟨hcs, _⟩ | ⟨a, len, cap, m, n, D, Pl, hcs, _, hlc, hcm, hm, _, hcell⟩
  · exact ⟨_, [], hcs, none, 0, rfl, Nat.le_refl _, Nat.zero_le _, Rd.nil⟩
  · have hml : len ≤ m := by rw [hm]; split <;> omega
    have h2 : Tryd.prog.cellsOf 40 = 2 := by kernel_rfl
    have c1 : Tryd.prog.cellsOf 3 = 1 := by kernel_rfl
    obtain ⟨f, hf⟩ := choose_fn2 (α := Int × Int) (P := fun i s => ∀ j u, (wyC s)[j]? = some u → W.cell? ((a.add (i * 2)).add j) = some u) (n := len) (fun i hi => by
      obtain ⟨cs', hc, ht⟩ := hcell i (by omega)
      rw [h2] at hc
      obtain ⟨_, hlen, hat⟩ := World.cells?_some hc
      obtain ⟨xs, k, _, _, _, _, hel⟩ := DataW.trod_array Tryd.underlying40 ht
      rw [c1] at hel
      match cs', hlen with
      | [z0, z1], _ =>
        have k0 := hel 0 (by omega)
        have k1 := hel 1 (by omega)
        have hl2 : xs.length = 2 := by assumption
        rw [List.getElem?_eq_getElem (by omega)] at k0 k1
        obtain ⟨x0, e0, _, _⟩ := DataW.trod_int Tryd.underlying3 k0
        obtain ⟨x1, e1, _, _⟩ := DataW.trod_int Tryd.underlying3 k1
        simp at e0 e1
        subst e0 e1
        exact ⟨(x0, x1), fun j u hu => hat j (by rw [List.getElem?_eq_some_iff] at hu; obtain ⟨hj, _⟩ := hu; exact hj) |>.trans hu⟩)
    refine ⟨_, (List.range len).map f, hcs, some a, cap, by simp, by simpa using hlc, hcm, rd_of_two (cells := wyC) (fun _ => rfl) fun k hk => ?_⟩
    rw [List.length_map, List.length_range] at hk
    rw [List.getElem_map, List.getElem_range]
    exact hf k hk
set_option maxRecDepth 100000 in
/-- Ways that came in. -/
theorem open_ways {r : Reach} {b0 : Nat} {v : Value} {d : DataW H} {p : List MemPlace} (hval : Value.okWide Tryd.prog W r b0 22 v) (h : DataW.Trod enc Tryd.prog W base sp held 22 v d p) : ∃ l, RowW W v l := by
  obtain ⟨a0, n0, c0, rfl⟩ := okWide_slice Tryd.underlying22 hval
  obtain ⟨fuel, hf⟩ := h
  obtain ⟨v, l, e, hl⟩ := ways_trod hf
  have e2 : (Value.slice a0 n0 c0).cells.toList = [v] := e
  simp [Value.cells] at e2
  subst e2
  exact ⟨l, hl⟩
end
end Go.Proofs.YthmklmilgcjmlaaDoor

/- Layer 15: an argument []Act, down to its cells (door seat). -/
import Derived.Test.YtkihfafkglkjnaaDoorRow
import Derived.Test.YtkihfafkglkjnaaDoorQuRu
import Derived.Deep.Slices
import Derived.ChangeMaps5
import Derived.ProofKit
import Derived.OpenShut
namespace Go.Proofs.YtkihfafkglkjnaaDoor
open Go.ChangeShapes Go.WideShapes Go.ChangeAt Go.RowKit Go.Deep

theorem list_chooseQ {α : Type} (P : Nat → α → Prop) : ∀ n : Nat, (∀ i, i < n → ∃ a, P i a) → ∃ l : List α, l.length = n ∧ ∀ i, (hi : i < l.length) → P i l[i]
  | 0, _ => ⟨[], rfl, fun i hi => by cases hi⟩
  | n + 1, h => by
    obtain ⟨l, hl, hp⟩ := list_chooseQ P n (fun i hi => h i (by omega))
    obtain ⟨a, ha⟩ := h n (by omega)
    refine ⟨l ++ [a], by simp [hl], fun i hi => ?_⟩
    by_cases hin : i < l.length
    · rw [List.getElem_append_left hin]; exact hp i hin
    · have he : i = l.length := by simp at hi; omega
      subst he
      rw [List.getElem_append_right (by omega)]
      simp only [Nat.sub_self, List.getElem_cons_zero]
      rw [hl]; exact ha
set_option maxRecDepth 100000 in
/-- An argument []Act, down to its cells. -/
theorem open_acts15 {H : Type} {enc : TypeId × Value → H} {r : Reach} {b0 base : Nat} {sp : Nat → Bool} {held : Bool} {W : World} {v : Value} {d : DataW H} {p : List MemPlace}
    (hval : Value.okWide Tryd.prog W r b0 22 v) (h : DataW.Trod enc Tryd.prog W base sp held 22 v d p) :
    ∃ (A : Option Addr) (c : Nat) (L : List Ac), v = .slice A L.length c ∧ Rd W A (L.flatMap acC) ∧ L.length ≤ c ∧ c ≤ maxLen ∧ ∀ a ∈ L, In64 a.2.2.1 ∧ In64 a.2.2.2 := by
  obtain ⟨a0, n0, c0, rfl⟩ := okWide_slice Tryd.underlying22 hval
  obtain ⟨fuel, hf⟩ := h
  rcases open_slice Tryd.underlying22 hf with ⟨hcs, _⟩ | ⟨a, len, cap, m, n, D, Pl, hcs, _, hlc, hcm, hm, _, hcell⟩
  · simp only [Value.cells, List.cons.injEq, and_true] at hcs
    injection hcs with e1 e2 e3
    subst e1; subst e2; subst e3
    exact ⟨none, 0, [], rfl, Rd.nil, Nat.le_refl _, Nat.zero_le _, fun z h => by cases h⟩
  · simp only [Value.cells, List.cons.injEq, and_true] at hcs
    injection hcs with e1 e2 e3
    subst e1; subst e2; subst e3
    have hml : n0 ≤ m := by rw [hm]; split <;> omega
    have h4 : Tryd.prog.cellsOf 31 = 4 := by kernel_rfl
    have c3 : Tryd.prog.cellsOf 3 = 1 := by kernel_rfl
    obtain ⟨L, hl, hL⟩ := list_chooseQ (fun i (x : Ac) => (∀ j u, (acC x)[j]? = some u → W.cell? (a.add (i * 4 + j)) = some u) ∧ (In64 x.2.2.1 ∧ In64 x.2.2.2)) n0 (fun i hi => by
      obtain ⟨cs, hc, ht⟩ := hcell i (by omega)
      rw [h4] at hc
      obtain ⟨_, hlen, hat⟩ := World.cells?_some hc
      obtain ⟨ys, k, _, _, _, _, hfl⟩ := DataW.trod_struct Tryd.underlying31 ht
      obtain ⟨z0, z1, z2, z3, rfl⟩ : ∃ z0 z1 z2 z3, cs = [z0, z1, z2, z3] := by
        match cs, hlen with
        | [z0, z1, z2, z3], _ => exact ⟨_, _, _, _, rfl⟩
      have g0 := hfl 0 _ rfl
      have g1 := hfl 1 _ rfl
      have g2 := hfl 2 _ rfl
      have g3 := hfl 3 _ rfl
      have hys : ys.length = 4 := by assumption
      obtain ⟨y0, y1, y2, y3, rfl⟩ : ∃ y0 y1 y2 y3, ys = [y0, y1, y2, y3] := by
        match ys, hys with
        | [y0, y1, y2, y3], _ => exact ⟨_, _, _, _, rfl⟩
      simp [c3] at g0 g1 g2 g3
      obtain ⟨x0, e0, _, w0⟩ := DataW.trod_int Tryd.underlying3 g0
      obtain ⟨x1, e1, _, w1⟩ := DataW.trod_int Tryd.underlying3 g1
      obtain ⟨x2, e2, _, w2⟩ := DataW.trod_int Tryd.underlying3 g2
      obtain ⟨x3, e3, _, w3⟩ := DataW.trod_int Tryd.underlying3 g3
      simp only [List.cons.injEq, and_true] at e0 e1 e2 e3
      subst e0 e1 e2 e3
      refine ⟨(x0, x1, x2, x3), fun j u hu => ?_, bounds_i64 w2, bounds_i64 w3⟩
      simp only [acC] at hu
      have hj := (List.getElem?_eq_some_iff.1 hu).1
      rw [← add_add', hat j (by simpa using hj)]
      exact hu)
    refine ⟨some a, c0, L, by rw [hl], fun _ => ⟨a, rfl, fun j u hu => ?_⟩, by rw [hl]; exact hlc, hcm, fun x hx => ?_⟩
    · have hj := (List.getElem?_eq_some_iff.1 hu).1
      rw [flat_len acC 4 (fun _ => rfl)] at hj
      have hd : j / 4 < L.length := by omega
      have h1 := flat_get acC 4 (fun _ => rfl) L (j / 4) hd (j % 4) (Nat.mod_lt _ (by omega))
      have e : j / 4 * 4 + j % 4 = j := by omega
      rw [e, hu] at h1
      have h2 := (hL _ hd).1 (j % 4) u h1.symm
      rw [e] at h2
      exact h2
    · obtain ⟨i, hi, rfl⟩ := List.getElem_of_mem hx
      exact (hL i hi).2
end Go.Proofs.YtkihfafkglkjnaaDoor

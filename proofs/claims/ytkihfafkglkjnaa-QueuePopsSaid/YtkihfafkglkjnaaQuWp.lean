/- Layer 15: arguments [][3]int, []int, down to their cells (plain seat). -/
import Derived.Test.YtkihfafkglkjnaaRowP
import Derived.Test.YtkihfafkglkjnaaQuPo
import Derived.Deep.Slices
import Derived.ChangeMaps5
import Derived.ProofKit
import Derived.OpenShut
namespace Go.Proofs.Ytkihfafkglkjnaa
open Go.ChangeShapes Go.WideShapes Go.ChangeAt Go.RowKit Go.Deep

theorem list_chooseQ {α : Type} (P : Nat → α → Prop) : ∀ n : Nat, (∀ i, i < n → ∃ a, P i a) → ∃ l : List α, l.length = n ∧ ∀ i, (hi : i < l.length) → P i l[i]
  | 0, _ => ⟨[], rfl, fun i hi => by cases hi⟩
  | n + 1, h => by
    obtain ⟨l, hl, hp⟩ := list_chooseQ P n (fun i hi => h i (by omega))
    obtain ⟨a, ha⟩ := h n (by omega)
    refine ⟨l ++ [a], by simp [hl], fun i hi => ?_⟩
    by_cases hin : i < l.length
    · rw [List.getElem_append_left hin]; exact hp i hin
    · have he : i = l.length := by simp at hi; omega
      subst he
      rw [List.getElem_append_right (by omega)]
      simp only [Nat.sub_self, List.getElem_cons_zero]
      rw [hl]; exact ha
set_option maxRecDepth 100000 in
/-- An argument [][3]int, down to its cells. -/
theorem open_arrs3 {H : Type} {enc : TypeId × Value → H} {r : Reach} {b0 base : Nat} {sp : Nat → Bool} {held : Bool} {W : World} {v : Value} {d : DataW H} {p : List MemPlace}
    (hval : Value.okWide Try.prog W r b0 22 v) (h : DataW.Trod enc Try.prog W base sp held 22 v d p) :
    ∃ (A : Option Addr) (c : Nat) (L : List Ev), v = .slice A L.length c ∧ Rd W A (L.flatMap evC) ∧ L.length ≤ c ∧ c ≤ maxLen ∧ ∀ a ∈ L, In64 a.1 := by
  obtain ⟨a0, n0, c0, rfl⟩ := okWide_slice Try.underlying22 hval
  obtain ⟨fuel, hf⟩ := h
  rcases open_slice Try.underlying22 hf with ⟨hcs, _⟩ | ⟨a, len, cap, m, n, D, Pl, hcs, _, hlc, hcm, hm, _, hcell⟩
  · simp only [Value.cells, List.cons.injEq, and_true] at hcs
    injection hcs with e1 e2 e3
    subst e1; subst e2; subst e3
    exact ⟨none, 0, [], rfl, Rd.nil, Nat.le_refl _, Nat.zero_le _, fun z h => by cases h⟩
  · simp only [Value.cells, List.cons.injEq, and_true] at hcs
    injection hcs with e1 e2 e3
    subst e1; subst e2; subst e3
    have hml : n0 ≤ m := by rw [hm]; split <;> omega
    have h3 : Try.prog.cellsOf 29 = 3 := by kernel_rfl
    have c1 : Try.prog.cellsOf 3 = 1 := by kernel_rfl
    obtain ⟨L, hl, hL⟩ := list_chooseQ (fun i (x : Ev) => (∀ j u, (evC x)[j]? = some u → W.cell? (a.add (i * 3 + j)) = some u) ∧ In64 x.1) n0 (fun i hi => by
      obtain ⟨cs, hc, ht⟩ := hcell i (by omega)
      rw [h3] at hc
      obtain ⟨_, hlen, hat⟩ := World.cells?_some hc
      obtain ⟨ys, k, _, _, _, _, hel⟩ := DataW.trod_array Try.underlying29 ht
      rw [c1] at hel
      obtain ⟨z0, z1, z2, rfl⟩ : ∃ z0 z1 z2, cs = [z0, z1, z2] := by
        match cs, hlen with
        | [z0, z1, z2], _ => exact ⟨_, _, _, rfl⟩
      have k0 := hel 0 (by omega)
      have k1 := hel 1 (by omega)
      have k2 := hel 2 (by omega)
      have hys : ys.length = 3 := by assumption
      rw [List.getElem?_eq_getElem (by omega)] at k0 k1 k2
      obtain ⟨x0, e0, _, w0⟩ := DataW.trod_int Try.underlying3 k0
      obtain ⟨x1, e1, _, w1⟩ := DataW.trod_int Try.underlying3 k1
      obtain ⟨x2, e2, _, w2⟩ := DataW.trod_int Try.underlying3 k2
      simp at e0 e1 e2
      subst e0 e1 e2
      refine ⟨(x0, x1, x2), fun j u hu => ?_, bounds_i64 w0⟩
      simp only [evC] at hu
      have hj := (List.getElem?_eq_some_iff.1 hu).1
      rw [← add_add', hat j (by simpa using hj)]
      exact hu)
    refine ⟨some a, c0, L, by rw [hl], fun _ => ⟨a, rfl, fun j u hu => ?_⟩, by rw [hl]; exact hlc, hcm, fun x hx => ?_⟩
    · have hj := (List.getElem?_eq_some_iff.1 hu).1
      rw [flat_len evC 3 (fun _ => rfl)] at hj
      have hd : j / 3 < L.length := by omega
      have h1 := flat_get evC 3 (fun _ => rfl) L (j / 3) hd (j % 3) (Nat.mod_lt _ (by omega))
      have e : j / 3 * 3 + j % 3 = j := by omega
      rw [e, hu] at h1
      have h2 := (hL _ hd).1 (j % 3) u h1.symm
      rw [e] at h2
      exact h2
    · obtain ⟨i, hi, rfl⟩ := List.getElem_of_mem hx
      exact (hL i hi).2
end Go.Proofs.Ytkihfafkglkjnaa

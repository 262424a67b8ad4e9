/- An argument that is a slice of acts, down to its cells. -/
import Derived.Test.YtljagggankmnkaaDoorL3Do
import Derived.Deep.Slices
import Derived.ChangeMaps5
import Derived.ProofKit
import Derived.OpenShut
namespace Go.Proofs.YtljagggankmnkaaDoor
open Go.ChangeShapes Go.WideShapes Go.ChangeAt Go.RowKit Go.Deep
open Go.ChangeMaps (open_string)

theorem str_of (s : ByteArray) : str s.data.toList = s := by
  cases s
  rfl
theorem flatk_len {α : Type} (cells : α → List Value) (k : Nat) (hk : ∀ a, (cells a).length = k) : ∀ l : List α, (l.flatMap cells).length = l.length * k
  | [] => by simp
  | a :: l => by rw [List.flatMap_cons, List.length_append, hk, flatk_len cells k hk l, List.length_cons, Nat.add_mul, Nat.one_mul]; omega
theorem flatk_get {α : Type} (cells : α → List Value) (k : Nat) (hk : ∀ a, (cells a).length = k) (l : List α) (i : Nat) (hi : i < l.length) (j : Nat) (hj : j < k) : (l.flatMap cells)[i * k + j]? = (cells l[i])[j]? := by
  induction l generalizing i with
  | nil => cases hi
  | cons s T ih =>
    rw [List.flatMap_cons]
    cases i with
    | zero => rw [Nat.zero_mul, Nat.zero_add, List.getElem?_append_left (by rw [hk]; omega)]; rfl
    | succ i =>
      have e1 : (i + 1) * k + j = k + (i * k + j) := by rw [Nat.add_mul, Nat.one_mul]; omega
      rw [List.getElem?_append_right (by rw [hk]; omega), hk, e1, Nat.add_sub_cancel_left, ih i (by simpa using hi)]
      rfl
theorem list_choose {α : Type} (P : Nat → α → Prop) : ∀ n : Nat, (∀ i, i < n → ∃ a, P i a) → ∃ l : List α, l.length = n ∧ ∀ i, (hi : i < l.length) → P i l[i]
  | 0, _ => ⟨[], rfl, fun i hi => by cases hi⟩
  | n + 1, h => by
    obtain ⟨l, hl, hp⟩ := list_choose P n (fun i hi => h i (by omega))
    obtain ⟨a, ha⟩ := h n (by omega)
    refine ⟨l ++ [a], by simp [hl], fun i hi => ?_⟩
    by_cases hin : i < l.length
    · rw [List.getElem_append_left hin]; exact hp i hin
    · have he : i = l.length := by simp at hi; omega
      subst he
      rw [List.getElem_append_right (by omega)]
      simp only [Nat.sub_self, List.getElem_cons_zero]
      rw [hl]; exact ha
/-- What is known of an act that came in. -/
def ActOk (a : Act3) : Prop := (-9223372036854775808 ≤ a.kind ∧ a.kind ≤ 9223372036854775807) ∧ a.nm.length ≤ maxLen ∧ a.to.length ≤ maxLen ∧ a.b.length ≤ maxLen ∧ (-9223372036854775808 ≤ a.steps ∧ a.steps ≤ 9223372036854775807) ∧ (-9223372036854775808 ≤ a.part ∧ a.part ≤ 9223372036854775807)
/-- The cells behind an address are acts. -/
def RdA (w : World) (A : Option Addr) (L : List Act3) : Prop := Rd w A (L.flatMap actCells)

set_option maxRecDepth 100000 in
theorem open_acts {H : Type} {enc : TypeId × Value → H} {r : Reach} {b0 base : Nat} {sp : Nat → Bool} {held : Bool} {W : World} {v : Value} {d : DataW H} {p : List MemPlace}
    (hval : Value.okWide Tryd.prog W r b0 22 v) (h : DataW.Trod enc Tryd.prog W base sp held 22 v d p) :
    ∃ (A : Option Addr) (c : Nat) (L : List Act3), v = .slice A L.length c ∧ RdA W A L ∧ L.length ≤ c ∧ c ≤ maxLen ∧ ∀ a ∈ L, ActOk a := by
  obtain ⟨a0, n0, c0, rfl⟩ := okWide_slice Tryd.underlying22 hval
  obtain ⟨fuel, hf⟩ := h
  rcases open_slice Tryd.underlying22 hf with ⟨hcs, _⟩ | ⟨a, len, cap, m, n, D, Pl, hcs, _, hlc, hcm, hm, _, hcell⟩
  · simp only [Value.cells, List.cons.injEq, and_true] at hcs
    injection hcs with e1 e2 e3
    subst e1; subst e2; subst e3
    exact ⟨none, 0, [], rfl, Rd.nil, Nat.le_refl _, Nat.zero_le _, fun z h => by cases h⟩
  · simp only [Value.cells, List.cons.injEq, and_true] at hcs
    injection hcs with e1 e2 e3
    subst e1; subst e2; subst e3
    have hml : n0 ≤ m := by rw [hm]; split <;> omega
    have h6 : Tryd.prog.cellsOf 30 = 6 := by kernel_rfl
    have c3 : Tryd.prog.cellsOf 3 = 1 := by kernel_rfl
    have c9 : Tryd.prog.cellsOf 9 = 1 := by kernel_rfl
    obtain ⟨L, hl, hL⟩ := list_choose (fun i (x : Act3) => (∀ j u, (actCells x)[j]? = some u → W.cell? (a.add (i * 6 + j)) = some u) ∧ ActOk x) n0 (fun i hi => by
      obtain ⟨cs, hc, ht⟩ := hcell i (by omega)
      rw [h6] at hc
      obtain ⟨_, hlen, hat⟩ := World.cells?_some hc
      obtain ⟨ys, k, _, _, _, _, hfl⟩ := DataW.trod_struct Tryd.underlying30 ht
      obtain ⟨z0, z1, z2, z3, z4, z5, rfl⟩ : ∃ z0 z1 z2 z3 z4 z5, cs = [z0, z1, z2, z3, z4, z5] := by
        match cs, hlen with
        | [z0, z1, z2, z3, z4, z5], _ => exact ⟨_, _, _, _, _, _, rfl⟩
      have g0 := hfl 0 _ rfl
      have g1 := hfl 1 _ rfl
      have g2 := hfl 2 _ rfl
      have g3 := hfl 3 _ rfl
      have g4 := hfl 4 _ rfl
      have g5 := hfl 5 _ rfl
      have hys : ys.length = 6 := by assumption
      obtain ⟨y0, y1, y2, y3, y4, y5, rfl⟩ : ∃ y0 y1 y2 y3 y4 y5, ys = [y0, y1, y2, y3, y4, y5] := by
        match ys, hys with
        | [y0, y1, y2, y3, y4, y5], _ => exact ⟨_, _, _, _, _, _, rfl⟩
      simp [c3, c9] at g0 g1 g2 g3 g4 g5
      obtain ⟨x0, e0, _, w0⟩ := DataW.trod_int Tryd.underlying3 g0
      obtain ⟨x1, e1, _, w1⟩ := DataW.trod_string Tryd.underlying9 g1
      obtain ⟨x2, e2, _, w2⟩ := DataW.trod_string Tryd.underlying9 g2
      obtain ⟨x3, e3, _, w3⟩ := DataW.trod_string Tryd.underlying9 g3
      obtain ⟨x4, e4, _, w4⟩ := DataW.trod_int Tryd.underlying3 g4
      obtain ⟨x5, e5, _, w5⟩ := DataW.trod_int Tryd.underlying3 g5
      simp only [List.cons.injEq, and_true] at e0 e1 e2 e3 e4 e5
      subst e0 e1 e2 e3 e4 e5
      refine ⟨⟨x0, x1.data.toList, x2.data.toList, x3.data.toList, x4, x5⟩, fun j u hu => ?_, bounds_i64 w0, w1, w2, w3, bounds_i64 w4, bounds_i64 w5⟩
      simp only [actCells, str_of] at hu
      have hj := (List.getElem?_eq_some_iff.1 hu).1
      rw [← add_add', hat j (by simpa using hj)]
      exact hu)
    refine ⟨some a, c0, L, by rw [hl], fun _ => ⟨a, rfl, fun j u hu => ?_⟩, by rw [hl]; exact hlc, hcm, fun x hx => ?_⟩
    · have hj := (List.getElem?_eq_some_iff.1 hu).1
      rw [flatk_len actCells 6 (fun _ => rfl)] at hj
      have hd : j / 6 < L.length := by omega
      have h1 := flatk_get actCells 6 (fun _ => rfl) L (j / 6) hd (j % 6) (Nat.mod_lt _ (by omega))
      have e : j / 6 * 6 + j % 6 = j := by omega
      rw [e, hu] at h1
      have h2 := (hL _ hd).1 (j % 6) u h1.symm
      rw [e] at h2
      exact h2
    · obtain ⟨i, hi, rfl⟩ := List.getElem_of_mem hx
      exact (hL i hi).2
/-- The cells of one act. -/
theorem RdA.at_ {w : World} {A : Option Addr} {L : List Act3} (h : RdA w A L) (i : Nat) (hi : i < L.length) : ∃ ad, A = some ad ∧ ∀ j u, j < 6 → (actCells L[i])[j]? = some u → w.cell? (ad.add (i * 6 + j)) = some u := by
  obtain ⟨ad, e, hc⟩ := h (by rw [flatk_len actCells 6 (fun _ => rfl)]; omega)
  exact ⟨ad, e, fun j u hj hu => hc _ u (by rw [flatk_get actCells 6 (fun _ => rfl) L i hi j hj]; exact hu)⟩
end Go.Proofs.YtljagggankmnkaaDoor

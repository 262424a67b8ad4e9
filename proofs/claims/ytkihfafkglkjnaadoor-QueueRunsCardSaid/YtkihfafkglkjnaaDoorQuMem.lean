/- Layer 15: events as they lie in memory. -/
import Derived.Test.YtkihfafkglkjnaaDoorAppQ
import Derived.Test.YtkihfafkglkjnaaDoorQuS
namespace Go.Proofs.YtkihfafkglkjnaaDoor
open Go.RowKit

def evC (e : Ev) : List Value := [.int .i64 e.1, .int .i64 e.2.1, .int .i64 e.2.2]
def evV (e : Ev) : Value := .agg #[.int .i64 e.1, .int .i64 e.2.1, .int .i64 e.2.2]
/-- A slice of events. -/
def RowE (w : World) (v : Value) (L : List Ev) : Prop := ∃ A c, v = .slice A L.length c ∧ L.length ≤ c ∧ c ≤ maxLen ∧ Rd w A (L.flatMap evC)
theorem RowE.below {w w' : World} {v : Value} {L : List Ev} (h : RowE w v L) (hb : Below w.heap.size w w') : RowE w' v L := by
  obtain ⟨A, c, e, h1, h2, h3⟩ := h
  exact ⟨A, c, e, h1, h2, h3.below hb⟩
theorem RowE.nil (w : World) : RowE w (.slice none 0 0) [] := ⟨none, 0, rfl, Nat.le_refl _, Nat.zero_le _, Rd.nil⟩
theorem RowE.form {w : World} {v : Value} {L : List Ev} (h : RowE w v L) : ∃ A c, v = .slice A L.length c ∧ RowE w (.slice A L.length c) L := by
  obtain ⟨A, c, e, h1, h2, h3⟩ := h
  exact ⟨A, c, e, A, c, rfl, h1, h2, h3⟩
theorem RowE.owned {w : World} {base : Nat} {e : TypeId} {v : Value} {n : Nat} {L : List Ev} (hn : L.length = n) (h : w.ownsRow base e 3 v n (L.flatMap evC)) : RowE w v L := by
  obtain ⟨A, c, rfl, h1, h2, _, h3, _⟩ := owns_formk h
  subst hn
  exact ⟨A, c, rfl, h1, h2, h3⟩
theorem RowE.parts {w : World} {A : Option Addr} {n c : Nat} {L : List Ev} (h : RowE w (.slice A n c) L) : n = L.length ∧ n ≤ c ∧ c ≤ maxLen ∧ Rd w A (L.flatMap evC) ∧
    ∀ i, (hi : i < n) → ∀ p, L[i]? = some p → ∃ ad X, A = some ad ∧ ad.add (i * 3) = X ∧ w.cell? X = some (.int .i64 p.1) ∧ w.cell? { block := X.block, off := X.off + 1 } = some (.int .i64 p.2.1) ∧ w.cell? { block := X.block, off := X.off + 2 } = some (.int .i64 p.2.2) := by
  obtain ⟨A', c', h1, h2, h3, h4⟩ := h
  injection h1 with h1 h1' h1''
  subst h1 h1' h1''
  refine ⟨rfl, h2, h3, h4, fun i hi p hp => ?_⟩
  obtain ⟨hl, e⟩ := List.getElem?_eq_some_iff.1 hp
  obtain ⟨ad, X, e1, e2, e3, e4, e5⟩ := rd_three (cells := evC) (fun _ => rfl) h4 i hl (a := .int .i64 L[i].1) (b := .int .i64 L[i].2.1) (c := .int .i64 L[i].2.2) rfl
  rw [e] at e3 e4 e5
  exact ⟨ad, X, e1, e2, e3, e4, e5⟩
theorem evC_len (L : List Ev) : (L.flatMap evC).length = L.length * 3 := flat_len evC 3 (fun _ => rfl) L
theorem one_ev (L : List Ev) : ∀ u ∈ L.flatMap evC, u.oneCell' = true := fun u hu => by
  obtain ⟨e, _, h⟩ := List.mem_flatMap.1 hu
  unfold evC at h
  simp only [List.mem_cons, List.not_mem_nil, or_false] at h
  rcases h with rfl | rfl | rfl <;> rfl
theorem infoEd : (Tryd.prog.info? 35).map (fun i => (i.zero, i.size, i.bytes)) = some (some (.agg #[.int .i64 0, .int .i64 0, .int .i64 0]), 3, 24) := by kernel_rfl
theorem infoEq : (Tryd.prog.info? 38).map (fun i => (i.zero, i.size, i.bytes)) = some (some (.agg #[.int .i64 0, .int .i64 0, .int .i64 0]), 3, 24) := by kernel_rfl
theorem rd_oneE (W : World) (e : Ev) (t : TypeId) : Rd (W.alloc (.cells #[.int .i64 e.1, .int .i64 e.2.1, .int .i64 e.2.2] t)) (some ⟨W.heap.size, 0, none⟩) (evC e) := Rd.block (MapKept.heap_alloc W (.cells #[.int .i64 e.1, .int .i64 e.2.1, .int .i64 e.2.2] t)).1
set_option maxRecDepth 100000 in
theorem cutQ_head (A : Option Addr) (L : List Ev) (p c a : Nat) (_ : L.length = p) (ha : a ≤ p) (hc : p ≤ c) :
    ∃ A1 C1, (∀ W, (Instr.slice 29 (.slice A p c) none (some (.int .i64 (a : Int))) none).run Tryd.prog W = .ok (.slice A1 a C1) W) ∧ ∀ W, Rd W A (L.flatMap evC) → Rd W A1 ((L.take a).flatMap evC) := by
  have hel : Tryd.prog.elem 29 = 35 := by kernel_rfl
  have hsz : ∀ W, (sizeOf 35).run Tryd.prog W = .ok 3 W := fun W => by kernel_rfl
  refine ⟨if c = 0 then A else A.map (·.add 0), c, fun W => ?_, fun W h => ?_⟩
  · rw [run_slice_h _ _ _ _ _ (by rw [hel]; exact Tryd.underlying29) .i64 (a : Int) (by omega) (by omega), hel, hsz]
    simp [Result.andThen, sliced]
  · have e : (if c = 0 then A else A.map (·.add 0)) = A := by
      split
      · rfl
      · cases A with
        | none => rfl
        | some ad =>
          show some (ad.add 0) = some ad
          unfold Addr.add
          rw [if_pos rfl]
    rw [e]
    have e2 : (L.take a).flatMap evC = (L.flatMap evC).take (a * 3) := by
      have h1 : L.flatMap evC = (L.take a).flatMap evC ++ (L.drop a).flatMap evC := by rw [← List.flatMap_append, List.take_append_drop]
      rw [h1, List.take_left' (by rw [evC_len, List.length_take]; congr 1; omega)]
    rw [e2]
    exact Rd.take h
set_option maxRecDepth 100000 in
theorem cutQ_tail (A : Option Addr) (L : List Ev) (p c a : Nat) (hp : L.length = p) (ha : a ≤ p) (hc : p ≤ c) :
    ∃ A1 C1, (∀ W, (Instr.slice 29 (.slice A p c) (some (.int .i64 (a : Int))) none none).run Tryd.prog W = .ok (.slice A1 (p - a) C1) W) ∧ ∀ W, Rd W A (L.flatMap evC) → Rd W A1 ((L.drop a).flatMap evC) := by
  have hel : Tryd.prog.elem 29 = 35 := by kernel_rfl
  have hsz : ∀ W, (sizeOf 35).run Tryd.prog W = .ok 3 W := fun W => by kernel_rfl
  refine ⟨if c = a then A else A.map (·.add (a * 3)), c - a, fun W => ?_, fun W h hne => ?_⟩
  · rw [run_slice_l _ _ _ _ _ (by rw [hel]; exact Tryd.underlying29) .i64 (a : Int) (by omega) (by omega), hel, hsz]
    simp [Result.andThen, sliced]
  · rw [evC_len, List.length_drop, hp] at hne
    obtain ⟨ad, hA, hcell⟩ := h (by rw [evC_len, hp]; omega)
    subst hA
    rw [if_neg (by omega)]
    refine ⟨_, rfl, fun j u hu => ?_⟩
    rw [add_add']
    refine hcell _ u ?_
    have e2 : (L.drop a).flatMap evC = (L.flatMap evC).drop (a * 3) := by
      have h1 : L.flatMap evC = (L.take a).flatMap evC ++ (L.drop a).flatMap evC := by rw [← List.flatMap_append, List.take_append_drop]
      rw [h1, List.drop_left' (by rw [evC_len, List.length_take]; congr 1; omega)]
    rw [e2, List.getElem?_drop] at hu
    exact hu
end Go.Proofs.YtkihfafkglkjnaaDoor

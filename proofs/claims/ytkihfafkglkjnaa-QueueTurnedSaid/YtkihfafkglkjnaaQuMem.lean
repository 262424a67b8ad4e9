/- Layer 15: events as they lie in memory. -/
import Derived.Test.YtkihfafkglkjnaaAppQ
import Derived.Test.YtkihfafkglkjnaaQuS
namespace Go.Proofs.Ytkihfafkglkjnaa
open Go.RowKit

def evC (e : Ev) : List Value := [.int .i64 e.1, .int .i64 e.2.1, .int .i64 e.2.2]
def evV (e : Ev) : Value := .agg #[.int .i64 e.1, .int .i64 e.2.1, .int .i64 e.2.2]
/-- A slice of events. -/
def RowE (w : World) (v : Value) (L : List Ev) : Prop := ∃ A c, v = .slice A L.length c ∧ L.length ≤ c ∧ c ≤ maxLen ∧ Rd w A (L.flatMap evC)
theorem RowE.below {w w' : World} {v : Value} {L : List Ev} (h : RowE w v L) (hb : Below w.heap.size w w') : RowE w' v L := by
  obtain ⟨A, c, e, h1, h2, h3⟩ := h
  exact ⟨A, c, e, h1, h2, h3.below hb⟩
theorem RowE.nil (w : World) : RowE w (.slice none 0 0) [] := ⟨none, 0, rfl, Nat.le_refl _, Nat.zero_le _, Rd.nil⟩
theorem RowE.form {w : World} {v : Value} {L : List Ev} (h : RowE w v L) : ∃ A c, v = .slice A L.length c ∧ RowE w (.slice A L.length c) L := by
  obtain ⟨A, c, e, h1, h2, h3⟩ := h
  exact ⟨A, c, e, A, c, rfl, h1, h2, h3⟩
theorem RowE.owned {w : World} {base : Nat} {e : TypeId} {v : Value} {n : Nat} {L : List Ev} (hn : L.length = n) (h : w.ownsRow base e 3 v n (L.flatMap evC)) : RowE w v L := by
  obtain ⟨A, c, rfl, h1, h2, _, h3, _⟩ := owns_formk h
  subst hn
  exact ⟨A, c, rfl, h1, h2, h3⟩
theorem RowE.parts {w : World} {A : Option Addr} {n c : Nat} {L : List Ev} (h : RowE w (.slice A n c) L) : n = L.length ∧ n ≤ c ∧ c ≤ maxLen ∧ Rd w A (L.flatMap evC) ∧
    ∀ i, (hi : i < n) → ∀ p, L[i]? = some p → ∃ ad X, A = some ad ∧ ad.add (i * 3) = X ∧ w.cell? X = some (.int .i64 p.1) ∧ w.cell? { block := X.block, off := X.off + 1 } = some (.int .i64 p.2.1) ∧ w.cell? { block := X.block, off := X.off + 2 } = some (.int .i64 p.2.2) := by
  obtain ⟨A', c', h1, h2, h3, h4⟩ := h
  injection h1 with h1 h1' h1''
  subst h1 h1' h1''
  refine ⟨rfl, h2, h3, h4, fun i hi p hp => ?_⟩
  obtain ⟨hl, e⟩ := List.getElem?_eq_some_iff.1 hp
  obtain ⟨ad, X, e1, e2, e3, e4, e5⟩ := rd_three (cells := evC) (fun _ => rfl) h4 i hl (a := .int .i64 L[i].1) (b := .int .i64 L[i].2.1) (c := .int .i64 L[i].2.2) rfl
  rw [e] at e3 e4 e5
  exact ⟨ad, X, e1, e2, e3, e4, e5⟩
theorem evC_len (L : List Ev) : (L.flatMap evC).length = L.length * 3 := flat_len evC 3 (fun _ => rfl) L
theorem one_ev (L : List Ev) : ∀ u ∈ L.flatMap evC, u.oneCell' = true := fun u hu => by
  obtain ⟨e, _, h⟩ := List.mem_flatMap.1 hu
  unfold evC at h
  simp only [List.mem_cons, List.not_mem_nil, or_false] at h
  rcases h with rfl | rfl | rfl <;> rfl
theorem infoEd : (Try.prog.info? 39).map (fun i => (i.zero, i.size, i.bytes)) = some (some (.agg #[.int .i64 0, .int .i64 0, .int .i64 0]), 3, 24) := by kernel_rfl
theorem infoEq : (Try.prog.info? 31).map (fun i => (i.zero, i.size, i.bytes)) = some (some (.agg #[.int .i64 0, .int .i64 0, .int .i64 0]), 3, 24) := by kernel_rfl
theorem rd_oneE (W : World) (e : Ev) (t : TypeId) : Rd (W.alloc (.cells #[.int .i64 e.1, .int .i64 e.2.1, .int .i64 e.2.2] t)) (some ⟨W.heap.size, 0, none⟩) (evC e) := Rd.block (MapKept.heap_alloc W (.cells #[.int .i64 e.1, .int .i64 e.2.1, .int .i64 e.2.2] t)).1
end Go.Proofs.Ytkihfafkglkjnaa

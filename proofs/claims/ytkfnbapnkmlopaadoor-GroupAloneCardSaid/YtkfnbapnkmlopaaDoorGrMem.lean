/- Ways as they lie in memory; the document's Check, leads. -/
import Derived.Test.YtkfnbapnkmlopaaDoorGrMath
import Derived.Test.YtkfnbapnkmlopaaDoorBol
import Derived.Test.YtkfnbapnkmlopaaDoorRn
namespace Go.Proofs.YtkfnbapnkmlopaaDoor
open Go.RowKit

def wyC (p : Int × Int) : List Value := [.int .i64 p.1, .int .i64 p.2]
def cst (M : Wt) : List (Int × Int) := M.map fun p => ((p.1 : Int), (p.2 : Int))
/-- A slice of ways. -/
def RowW (w : World) (v : Value) (L : List (Int × Int)) : Prop := ∃ A c, v = .slice A L.length c ∧ L.length ≤ c ∧ c ≤ maxLen ∧ Rd w A (L.flatMap wyC)
theorem RowW.below {w w' : World} {v : Value} {L : List (Int × Int)} (h : RowW w v L) (hb : Below w.heap.size w w') : RowW w' v L := by
  obtain ⟨A, c, e, h1, h2, h3⟩ := h
  exact ⟨A, c, e, h1, h2, h3.below hb⟩
theorem RowW.form {w : World} {v : Value} {L : List (Int × Int)} (h : RowW w v L) : ∃ A c, v = .slice A L.length c ∧ RowW w (.slice A L.length c) L := by
  obtain ⟨A, c, e, h1, h2, h3⟩ := h
  exact ⟨A, c, e, A, c, rfl, h1, h2, h3⟩
theorem RowW.owned {w : World} {base : Nat} {e : TypeId} {v : Value} {n : Nat} {L : List (Int × Int)} (hn : L.length = n) (h : w.ownsRow base e 2 v n (L.flatMap wyC)) : RowW w v L := by
  obtain ⟨A, c, rfl, h1, h2, _, h3, _⟩ := owns_formk h
  subst hn
  exact ⟨A, c, rfl, h1, h2, h3⟩
theorem RowW.parts {w : World} {A : Option Addr} {n c : Nat} {L : List (Int × Int)} (h : RowW w (.slice A n c) L) : n = L.length ∧ n ≤ c ∧ c ≤ maxLen ∧
    ∀ i, (hi : i < n) → ∀ p, L[i]? = some p → ∃ ad X, A = some ad ∧ ad.add (i * 2) = X ∧ w.cell? X = some (.int .i64 p.1) ∧ w.cell? { block := X.block, off := X.off + 1 } = some (.int .i64 p.2) := by
  obtain ⟨A', c', h1, h2, h3, h4⟩ := h
  injection h1 with h1 h1' h1''
  subst h1 h1' h1''
  refine ⟨rfl, h2, h3, fun i hi p hp => ?_⟩
  obtain ⟨hl, e⟩ := List.getElem?_eq_some_iff.1 hp
  obtain ⟨ad, ea, hc⟩ := h4 (by rw [flat_len wyC 2 fun _ => rfl]; omega)
  have hj : ∀ j u, j < 2 → (wyC L[i])[j]? = some u → w.cell? (ad.add (i * 2 + j)) = some u := fun j u hj hu => hc _ u (by rw [flat_get wyC 2 (fun _ => rfl) L i hl j hj]; exact hu)
  rw [e] at hj
  have h5 := hj 1 _ (by omega) rfl
  rw [← add_add'] at h5
  exact ⟨ad, _, ea, rfl, hj 0 _ (by omega) rfl, h5⟩
theorem cst_len (M : Wt) : (cst M).length = M.length := by unfold cst; simp
theorem cst_get {M : Wt} {i : Nat} {p : Nat × Nat} (h : M[i]? = some p) : (cst M)[i]? = some ((p.1 : Int), (p.2 : Int)) := by
  unfold cst
  rw [List.getElem?_map, h]
  rfl
theorem add_nil (X : Addr) : X.add 0 = X := by unfold Addr.add; rw [if_pos rfl]
theorem add_one (X : Addr) : X.add 1 = { block := X.block, off := X.off + 1 } := by unfold Addr.add; rw [if_neg (by decide)]
def badE (n : Int) (p : Int × Int) : Bool := decide (p.1 < 0) || decide (n ≤ p.1) || decide (p.2 < 0) || decide (n ≤ p.2)
theorem ckW_eq (n : Int) (L : List (Int × Int)) : ckW n L = if n < 0 ∨ 4096 < n ∨ 1048576 < L.length then 2 else if L.any (badE n) = true then 5 else 0 := rfl
end Go.Proofs.YtkfnbapnkmlopaaDoor

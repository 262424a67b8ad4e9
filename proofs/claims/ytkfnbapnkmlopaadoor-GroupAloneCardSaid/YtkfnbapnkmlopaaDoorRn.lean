/- A slice of places; rows of one's own kept from world to world. -/
import Derived.Test.YtkfnbapnkmlopaaDoorLx8
namespace Go.Proofs.YtkfnbapnkmlopaaDoor
open Go.RowKit

def nilS : Value := .slice none 0 0
def intC (j : Nat) : Value := .int .i64 (j : Int)
/-- A slice of places. -/
def RowN (w : World) (v : Value) (L : List Nat) : Prop := ∃ A c, v = .slice A L.length c ∧ L.length ≤ c ∧ c ≤ maxLen ∧ Rd w A (L.map intC)
theorem RowN.below {w w' : World} {v : Value} {L : List Nat} (h : RowN w v L) (hb : Below w.heap.size w w') : RowN w' v L := by
  obtain ⟨A, c, e, h1, h2, h3⟩ := h
  exact ⟨A, c, e, h1, h2, Rd.below h3 hb⟩
theorem RowN.none (w : World) : RowN w (.slice none 0 0) [] := ⟨Option.none, 0, rfl, Nat.le_refl _, Nat.zero_le _, Rd.nil⟩
theorem RowN.owned {w : World} {base : Nat} {e : TypeId} {v : Value} {n : Nat} {L : List Nat} (hn : L.length = n) (h : w.ownsRow base e 1 v n (L.map intC)) : RowN w v L := by
  obtain ⟨A, c, rfl, h1, h2, _, h3, _⟩ := owns_form h
  subst hn
  exact ⟨A, c, rfl, h1, h2, h3⟩
theorem elN : Elem Tryd.prog 48 3 (.int .i64 0) 8 := ⟨Tryd.underlying48, by kernel_rfl, rfl⟩
theorem own_sameO {w w' : World} {base k n : Nat} {e : TypeId} {v : Value} {xs : List Value} (h : w.ownsRow base e k v n xs) (hb : Below w.heap.size w w') : w'.ownsRow base e k v n xs := by
  have hlt := fun g hg => (h.lt g hg).2
  obtain ⟨h1, h2⟩ := h
  refine ⟨h1, h2.imp id ?_⟩
  rintro ⟨g, cap, cur, rfl, hb', hh, rest⟩
  exact ⟨g, cap, cur, rfl, hb', (hb.block g (hlt g rfl)).trans hh, rest⟩
end Go.Proofs.YtkfnbapnkmlopaaDoor

/- Contract: the document's Words. -/
import Derived.Test.YtencapplbedcmaaGreatDoorLxR
namespace Go.Proofs.YtencapplbedcmaaGreatDoor
open Go.RowKit

def txC (l : Tx) : Value := .string (str l)
def RdS (w : World) (A : Option Addr) (L : List Tx) : Prop := Rd w A (L.map txC)
/-- A slice of strings. -/
def RowS (w : World) (v : Value) (L : List Tx) : Prop := ∃ A c, v = .slice A L.length c ∧ L.length ≤ c ∧ c ≤ maxLen ∧ RdS w A L
theorem RowS.below {w w' : World} {v : Value} {L : List Tx} (h : RowS w v L) (hb : Below w.heap.size w w') : RowS w' v L := by
  obtain ⟨A, c, e, h1, h2, h3⟩ := h
  exact ⟨A, c, e, h1, h2, Rd.below h3 hb⟩
theorem RowS.owned {w : World} {base : Nat} {e : TypeId} {v : Value} {n : Nat} {L : List Tx} (hn : L.length = n) (h : w.ownsRow base e 1 v n (L.map txC)) : RowS w v L := by
  obtain ⟨A, c, rfl, h1, h2, _, h3, _⟩ := owns_form h
  subst hn
  exact ⟨A, c, rfl, h1, h2, h3⟩
theorem elStr : Elem Tryz.prog 38 9 (.string .empty) 16 := ⟨Tryz.underlying38, by kernel_rfl, rfl⟩
/-- A byte of a string, and the piece that it is. -/
theorem at_facts (l : Tx) (n k : Nat) (hn : l.length = n) (hk : k < n) : ∃ x r, l.drop k = x :: r ∧ l.drop (k + 1) = r ∧ ∃ S, str l = S ∧ ∃ hs : S.size = n, S[k]'(hs ▸ hk) = x ∧ S.extract k (k + 1) = str [x] := by
  subst hn
  refine ⟨l[k], l.drop (k + 1), List.drop_eq_getElem_cons hk, rfl, _, rfl, rfl, rfl, ?_⟩
  rw [str_cut, List.drop_eq_getElem_cons hk]
  congr 1
  rw [Nat.add_sub_cancel_left]
  rfl
theorem slice_run (S D : ByteArray) (k n : Nat) (hs : S.size = n) (hk : k < n) (_ : n ≤ 4611686018427387904) (hc : S.extract k (k + 1) = D) (W : World) :
    (Instr.slice 9 (.string S) (some (.int .i64 (k : Int))) (some (.int .i64 ((k : Int) + 1))) none).run Tryz.prog W = .ok (.string D) W := by
  rw [run_slice_string _ _ _ _ _ _ _ Tryz.underlying9 (by omega) (by omega) (by rw [hs]; omega)]
  rw [show ((k : Int)).toNat = k by omega, show ((k : Int) + 1).toNat = k + 1 by omega, hc]
theorem str_ne8 {l : Tx} {b : Bool} (h : l.isEmpty = b) : (str l).toList.isEmpty = b := by rw [str_toList]; exact h
end Go.Proofs.YtencapplbedcmaaGreatDoor

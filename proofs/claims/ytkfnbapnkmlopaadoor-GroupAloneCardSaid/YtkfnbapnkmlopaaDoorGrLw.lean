/- What layer 12's package answers, as contracts; its law package's ints, huge. -/
import Derived.Test.YtkfnbapnkmlopaaDoorGrOr
import Derived.Deep.QuietTactic
import Derived.BigQuiet
import Derived.Deep.Cut
namespace Go.Proofs.YtkfnbapnkmlopaaDoor
open Go.RowKit

def errK (n : Int) : Value := .iface 69 (.int .i64 n)
def errE (k : Nat) : Value := if k = 0 then .nilIface else errK k
theorem errE_zero : errE 0 = .nilIface := if_pos rfl
theorem errE_pos {k : Nat} (h : k ≠ 0) : errE k = errK k := if_neg h
noncomputable def lpA (n : Int) (L : List (Int × Int)) : Int × Bool × Nat := if ckW n L = 0 then (match lpT (ntW L) n.toNat with | some x => ((x : Int), true, 0) | none => (0, false, 0)) else (0, false, ckW n L)
noncomputable def orA (n : Int) (L : List (Int × Int)) : List Nat × Nat := if ckW n L = 0 then (if lpT (ntW L) n.toNat = none then (ordT (ntW L) n.toNat, 0) else ([], 9)) else ([], ckW n L)
noncomputable def dpA (n : Int) (L : List (Int × Int)) : List Nat × Nat := if ckW n L = 0 then (if lpT (ntW L) n.toNat = none then ((List.range n.toNat).map (dpT (ntW L) n.toNat), 0) else ([], 9)) else ([], ckW n L)
noncomputable def rcA (n : Int) (L : List (Int × Int)) (f : Int) : List Nat × Nat := if ckW n L = 0 then (if f < 0 ∨ n ≤ f then ([], 5) else (rcT (ntW L) n.toNat f.toNat, 0)) else ([], ckW n L)
/-- A list, or an error. -/
def AnsL (w : World) (R : List Nat × Nat) (e : Ending) (w' : World) : Prop := ∃ A c, e = .returned (.tuple #[.slice A R.1.length c, errE R.2]) ∧ RowN w' (.slice A R.1.length c) R.1 ∧ Below w.heap.size w w'
def I64 (n : Int) : Prop := -9223372036854775808 ≤ n ∧ n ≤ 9223372036854775807
theorem RowN.at9 {w : World} {A : Option Addr} {n c : Nat} {L : List Nat} (h : RowN w (.slice A n c) L) : n = L.length ∧ n ≤ c ∧ c ≤ maxLen ∧ ∀ k, k < n → ∃ ad j, A = some ad ∧ L[k]? = some j ∧ w.cell? (ad.add k) = some (.int .i64 (j : Nat)) := by
  obtain ⟨A', c', h1, h2, h3, h4⟩ := h
  injection h1 with h1 h1' h1''
  subst h1 h1' h1''
  refine ⟨rfl, h2, h3, fun k hk => ?_⟩
  obtain ⟨ad, ea, hc⟩ := h4 (by rw [List.length_map]; omega)
  exact ⟨ad, L[k], ea, List.getElem?_eq_getElem hk, hc k _ (by rw [List.getElem?_map, List.getElem?_eq_getElem hk]; rfl)⟩
theorem RowN.form {w : World} {v : Value} {L : List Nat} (h : RowN w v L) : ∃ A c, v = .slice A L.length c ∧ RowN w (.slice A L.length c) L := by
  obtain ⟨A, c, rfl, h2⟩ := h
  exact ⟨A, c, rfl, A, c, rfl, h2⟩
theorem take_ne {L M : List Nat} {k a b : Nat} (ha : L[k]? = some a) (hb : M[k]? = some b) (h : a ≠ b) : L ≠ M := fun e => by
  rw [e, hb] at ha
  exact h (Option.some.inj ha).symm
def hugeB (n : Int) (m : Nat) : Bool := decide (40 < n ∧ n ≤ 4096 ∨ 80 < m)
theorem ret_true9 {w w' : World} (h : Below w.heap.size w w') : Ending.returned (.bool true) = .returned (.bool true) ∧ Below w.heap.size w w' := ⟨rfl, h⟩
theorem rcA_bad {n : Int} {L : List (Int × Int)} {f : Int} (h : ckW n L ≠ 0) : rcA n L f = ([], ckW n L) := by unfold rcA; rw [if_neg h]
theorem rcA_out {n : Int} {L : List (Int × Int)} {f : Int} (h : ckW n L = 0) (h2 : f < 0 ∨ n ≤ f) : rcA n L f = ([], 5) := by unfold rcA; rw [if_pos h, if_pos h2]
theorem rcA_ok {n : Int} {L : List (Int × Int)} {f : Int} (h : ckW n L = 0) (h2 : ¬ (f < 0 ∨ n ≤ f)) : rcA n L f = (rcT (ntW L) n.toNat f.toNat, 0) := by unfold rcA; rw [if_pos h, if_neg h2]
theorem lpA_bad {n : Int} {L : List (Int × Int)} (h : ckW n L ≠ 0) : lpA n L = (0, false, ckW n L) := by unfold lpA; rw [if_neg h]
theorem lpA_yes {n : Int} {L : List (Int × Int)} {x : Nat} (h : ckW n L = 0) (h2 : lpT (ntW L) n.toNat = some x) : lpA n L = ((x : Int), true, 0) := by unfold lpA; rw [if_pos h, h2]
theorem lpA_no {n : Int} {L : List (Int × Int)} (h : ckW n L = 0) (h2 : lpT (ntW L) n.toNat = none) : lpA n L = (0, false, 0) := by unfold lpA; rw [if_pos h, h2]
theorem orA_bad {n : Int} {L : List (Int × Int)} (h : ckW n L ≠ 0) : orA n L = ([], ckW n L) := by unfold orA; rw [if_neg h]
theorem orA_loop {n : Int} {L : List (Int × Int)} (h : ckW n L = 0) (h2 : lpT (ntW L) n.toNat ≠ none) : orA n L = ([], 9) := by unfold orA; rw [if_pos h, if_neg h2]
theorem orA_ok {n : Int} {L : List (Int × Int)} (h : ckW n L = 0) (h2 : lpT (ntW L) n.toNat = none) : orA n L = (ordT (ntW L) n.toNat, 0) := by unfold orA; rw [if_pos h, if_pos h2]
theorem dpA_bad {n : Int} {L : List (Int × Int)} (h : ckW n L ≠ 0) : dpA n L = ([], ckW n L) := by unfold dpA; rw [if_neg h]
theorem dpA_loop {n : Int} {L : List (Int × Int)} (h : ckW n L = 0) (h2 : lpT (ntW L) n.toNat ≠ none) : dpA n L = ([], 9) := by unfold dpA; rw [if_pos h, if_neg h2]
theorem dpA_ok {n : Int} {L : List (Int × Int)} (h : ckW n L = 0) (h2 : lpT (ntW L) n.toNat = none) : dpA n L = ((List.range n.toNat).map (dpT (ntW L) n.toNat), 0) := by unfold dpA; rw [if_pos h, if_pos h2]
theorem err9 : errE 9 = .iface 69 (.int .i64 9) := errE_pos (by decide)
end Go.Proofs.YtkfnbapnkmlopaaDoor

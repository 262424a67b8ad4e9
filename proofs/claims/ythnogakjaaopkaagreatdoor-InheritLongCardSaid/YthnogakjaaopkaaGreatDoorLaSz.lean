/- Lengths of blocks that the laws go over. -/
import Derived.Test.YthnogakjaaopkaaGreatDoorIhSr
import Derived.Test.YthnogakjaaopkaaGreatDoorIhNt
import Derived.Test.YthnogakjaaopkaaGreatDoorBh
namespace Go.Proofs.YthnogakjaaopkaaGreatDoor
open Go.RowKit

theorem smal_len {b : MB} (h : Smal 9000 b) : b.2.1.length ≤ 9000 ∧ b.2.2.length ≤ 80 ∧ ∀ f ∈ b.2.2, f.2.1.length ≤ 9000 ∧ f.2.2.length ≤ 9000 := by
  obtain ⟨h1, h2, h3⟩ := h
  refine ⟨by omega, h1, fun f hf => ?_⟩
  obtain ⟨h4, h5⟩ := h3 f hf
  omega
theorem allN_len : ∀ {l : List MB} {m : Nat}, (∀ b ∈ l, b.2.2.length ≤ m) → (allN l).length ≤ l.length * m
  | [], _, _ => by simp [allN]
  | b :: l, m, h => by
    have ih := allN_len (l := l) (m := m) fun x hx => h x (by simp [hx])
    have h1 := h b (by simp)
    unfold allN at ih ⊢
    rw [List.flatMap_cons, List.length_append, List.length_cons, Nat.succ_mul, List.length_map]
    omega
theorem szs_of {l : List MB} (hl : l.length ≤ 60) (hs : ∀ b ∈ l, Smal 9000 b) : Szs l := by
  refine ⟨by omega, fun b hb => ?_, ?_⟩
  · obtain ⟨h1, h2, h3⟩ := smal_len (hs b hb)
    refine ⟨by omega, by omega, fun f hf => ?_⟩
    obtain ⟨h4, h5⟩ := h3 f hf
    omega
  · have h1 := allN_len (l := l) (m := 80) fun b hb => (hs b hb).1
    omega
/-- Resolve, where nothing is wrong. -/
theorem resolve_ok {l : List MB} (h : chkI l = none) (lv : Value) (w : World) (hs : Szs l) (hE : ErrT w) (hv : RowB w lv l) :
    Calls Tryz.prog 12 #[lv] w fun e w' => (∃ v, e = .returned (.tuple #[v, plV 0 0, .nilIface]) ∧ RowB w' v (rsK l l.length)) ∧ Below w.heap.size w w' := by
  have h1 := resolve_any lv l w hs hE hv
  unfold RsE at h1
  rw [h] at h1
  exact h1
theorem resolve_no {l : List MB} {q : Int × Nat} (h : chkI l = some q) (lv : Value) (w : World) (hs : Szs l) (hE : ErrT w) (hv : RowB w lv l) :
    Calls Tryz.prog 12 #[lv] w fun e w' => e = .returned (.tuple #[.slice none 0 0, plV q.1 (q.2 : Nat), errK (q.2 : Nat)]) ∧ Below w.heap.size w w' := by
  have h1 := resolve_any lv l w hs hE hv
  unfold RsE at h1
  rw [h] at h1
  exact h1
theorem value_ok {l : List MB} (h : chkI l = none) (lv : Value) (k : Nat) (nm : Tx) (w : World) (hk : k < l.length) (hs : Szs l) (hE : ErrT w) (hv : RowB w lv l) (hnm : nm.length ≤ 1000000) :
    Calls Tryz.prog 16 #[lv, .int .i64 (k : Nat), .string (str nm)] w fun e w' => e = .returned (.tuple #[.string (str (valF (gotP l nm k))), .bool (gotP l nm k).isSome, .nilIface]) ∧ Below w.heap.size w w' := by
  have h1 := value_any lv l k nm w hs hE hv (by omega) (by have := hs.1; omega) hnm
  unfold VlE at h1
  rw [h] at h1
  dsimp only at h1
  simp only [if_pos (show (0 : Int) ≤ k ∧ (k : Int) < l.length by omega), Int.toNat_natCast] at h1
  exact h1
end Go.Proofs.YthnogakjaaopkaaGreatDoor

/- Contracts: the document's blank, Trim, ends. -/
import Derived.Test.YtencapplbedcmaaGreatDoorLxMem
namespace Go.Proofs.YtencapplbedcmaaGreatDoor
open Go.RowKit

theorem blk_int (c : UInt8) : blk c = (((c.toNat : Int) == 32) || ((c.toNat : Int) == 9) || ((c.toNat : Int) == 13)) := by
  have h : ∀ k : UInt8, (((c.toNat : Int)) == ((k.toNat : Nat) : Int)) = (c == k) := fun k => by
    rw [Bool.eq_iff_iff]
    simp only [beq_iff_eq]
    exact ⟨fun e => UInt8.toNat_inj.1 (by omega), fun e => by rw [e]⟩
  have h1 := h 32
  have h2 := h 9
  have h3 := h 13
  unfold blk
  rw [← h1, ← h2, ← h3]
  rfl
theorem ret_bool8 {a b : Bool} (h : a = b) : Ending.returned (.bool a) = .returned (.bool b) := by rw [h]
theorem ret_str8 {a b : ByteArray} (h : a = b) : Ending.returned (.string a) = .returned (.string b) := by rw [h]
/-- The byte that a string ends with. -/
theorem last_at (l : Tx) (n : Nat) (hn : l.length = n + 1) : ∃ t x, l = t ++ [x] ∧ t.length = n ∧ goes l = (x == 92) := by
  rcases List.eq_nil_or_concat l with rfl | ⟨t, x, rfl⟩
  · cases hn
  · rw [List.concat_eq_append] at hn ⊢
    exact ⟨t, x, rfl, by simpa using hn, goes_snoc t x⟩
theorem u8_eq92 (x : UInt8) : (((x.toNat : Int)) == 92) = (x == 92) := by
  rw [Bool.eq_iff_iff]
  simp only [beq_iff_eq]
  exact ⟨fun e => UInt8.toNat_inj.1 (by have : (92 : UInt8).toNat = 92 := rfl; omega), fun e => by rw [e]; rfl⟩
def szOf : Value → Nat
  | .string b => b.size
  | _ => 0
/-- A string that begins with x, that ends with x. -/
theorem cons_facts (x : UInt8) (r : Tx) (m : Nat) (h : r.length = m) : ∃ S, str (x :: r) = S ∧ ∃ hs : S.size = m + 1, S[0]'(hs ▸ Nat.succ_pos m) = x ∧ S.extract 1 (m + 1) = str r := by
  subst h
  refine ⟨_, rfl, rfl, rfl, ?_⟩
  rw [str_cut]
  simp
theorem snoc_facts (r : Tx) (x : UInt8) (m : Nat) (h : r.length = m) : ∃ S, str (r ++ [x]) = S ∧ ∃ hs : S.size = m + 1, S[m]'(hs ▸ Nat.lt_succ_self m) = x ∧ S.extract 0 m = str r := by
  have hl : (r ++ [x]).length = m + 1 := by rw [List.length_append, h]; rfl
  refine ⟨_, rfl, hl, ?_, ?_⟩
  · rw [str_at _ m (by rw [hl]; omega)]
    subst h
    simp
  · subst h
    rw [str_cut]
    simp
theorem ldr_cases (t l : Tx) (ht : ldr t = ldr l) : (∃ x r, t = x :: r ∧ blk x = true ∧ ldr r = ldr l) ∨ (t = [] ∧ ldr l = []) ∨ ∃ x r, t = x :: r ∧ blk x = false ∧ ldr l = x :: r := by
  rcases t with _ | ⟨x, r⟩
  · exact .inr (.inl ⟨rfl, ht.symm⟩)
  · cases hb : blk x <;> rw [ldr_cons, hb] at ht
    · exact .inr (.inr ⟨x, r, rfl, hb, ht.symm⟩)
    · exact .inl ⟨x, r, rfl, hb, ht⟩
theorem rdr_cases (t l : Tx) (ht : rdr t = rdr l) : (∃ r x, t = r ++ [x] ∧ blk x = true ∧ rdr r = rdr l) ∨ (t = [] ∧ rdr l = []) ∨ ∃ r x, t = r ++ [x] ∧ blk x = false ∧ rdr l = r ++ [x] := by
  rcases List.eq_nil_or_concat t with rfl | ⟨r, x, rfl⟩
  · exact .inr (.inl ⟨rfl, ht.symm⟩)
  · rw [List.concat_eq_append] at ht ⊢
    cases hb : blk x <;> rw [rdr_snoc, hb] at ht
    · exact .inr (.inr ⟨r, x, rfl, hb, ht.symm⟩)
    · exact .inl ⟨r, x, rfl, hb, ht⟩
end Go.Proofs.YtencapplbedcmaaGreatDoor

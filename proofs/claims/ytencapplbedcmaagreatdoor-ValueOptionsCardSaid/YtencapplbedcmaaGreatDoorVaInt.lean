/- Plain numbers of layer 10, second part: which texts are a number's, and how the library reads them; of no program. -/
import Derived.Test.YtencapplbedcmaaGreatDoorVaNum
import Derived.Lib.AtoiAllCases
import Derived.Shelf.GgClosure.StringsIndexFunc
namespace Go.Proofs.YtencapplbedcmaaGreatDoor
open Go.RowKit

def dgB (c : UInt8) : Bool := decide (48 ≤ c.toNat) && decide (c.toNat ≤ 57)
def digs (s : Tx) : Tx := if (s.head? == some 45) = true then s.tail else s
def numT (s : Tx) : Bool := s == [48] || (!(digs s).isEmpty && !((digs s).head? == some 48) && (digs s).all dgB)
def noDg (r : Nat) : Bool := decide (r < 48) || decide (57 < r)
theorem noDg_byte (c : UInt8) : noDg c.toNat = !dgB c := by
  unfold noDg dgB
  rw [Bool.eq_iff_iff]
  simp
theorem digit_some {c : UInt8} (h : dgB c = true) : Lib.digitVal c = some (c.toNat - 48) := by
  unfold dgB at h
  simp only [Bool.and_eq_true, decide_eq_true_eq] at h
  unfold Lib.digitVal
  rw [if_pos h]
theorem digit_none {c : UInt8} (h : dgB c = false) : Lib.digitVal c = none := by
  unfold dgB at h
  unfold Lib.digitVal
  rw [if_neg]
  rintro ⟨h1, h2⟩
  simp [h1, h2] at h
theorem dec_some : ∀ (l : Tx) (acc k : Nat), l.all dgB = true → acc < 10 ^ k → ∃ n, Lib.decFrom acc l = some n ∧ n < 10 ^ (l.length + k)
  | [], acc, k, _, h => ⟨acc, rfl, by simpa using h⟩
  | c :: l, acc, k, h, ha => by
    rw [List.all_cons, Bool.and_eq_true] at h
    obtain ⟨n, h1, h2⟩ := dec_some l (acc * 10 + (c.toNat - 48)) (k + 1) h.2 (by
      have h3 := h.1
      unfold dgB at h3
      simp only [Bool.and_eq_true, decide_eq_true_eq] at h3
      rw [Nat.pow_succ]
      omega)
    refine ⟨n, ?_, ?_⟩
    · rw [Lib.decFrom, digit_some h.1]
      exact h1
    · rw [List.length_cons, Nat.add_assoc, Nat.add_comm 1 k]
      exact h2
theorem dec_none : ∀ (l : Tx) (acc : Nat), l.all dgB = false → Lib.decFrom acc l = none
  | c :: l, acc, h => by
    rw [List.all_cons] at h
    cases hc : dgB c
    · rw [Lib.decFrom, digit_none hc]
    · rw [hc, Bool.true_and] at h
      rw [Lib.decFrom, digit_some hc]
      exact dec_none l _ h
theorem parse_some : ∀ (l : Tx) (acc k n : Nat), l.all dgB = true → acc < 10 ^ k → l.length + k ≤ 19 → Lib.decFrom acc l = some n → Lib.parseUint10 acc l = .ok n
  | [], acc, k, n, _, _, _, h => by
    rw [Lib.decFrom] at h
    rw [Lib.parseUint10, Option.some.inj h]
  | c :: l, acc, k, n, h, ha, hk, hd => by
    rw [List.all_cons, Bool.and_eq_true] at h
    have h3 := h.1
    unfold dgB at h3
    simp only [Bool.and_eq_true, decide_eq_true_eq] at h3
    rw [Lib.decFrom, digit_some h.1] at hd
    rw [List.length_cons] at hk
    have hp : 10 ^ k ≤ 10 ^ 18 := Nat.pow_le_pow_right (by decide) (by omega)
    have e18 : (10 : Nat) ^ 18 = 1000000000000000000 := by decide
    rw [Lib.parseUint10, if_pos h3, if_neg (by omega), if_neg (by omega)]
    exact parse_some l _ (k + 1) n h.2 (by rw [Nat.pow_succ]; omega) (by omega) hd
theorem mag_some {l : Tx} {n : Nat} (hne : l ≠ []) (hall : l.all dgB = true) (hk : l.length ≤ 19) (h : Lib.decFrom 0 l = some n) : Lib.parseMag l = .ok n := by
  unfold Lib.parseMag
  rw [if_neg hne]
  exact parse_some l 0 0 n hall (by decide) (by omega) h
/-- A text that is no number's. -/
theorem int_bad {s : Tx} {lo hi : Int} (hs : s ≠ []) (h : 19 < s.length ∨ numT s = false) : intT s lo hi = (0, 3) := by
  unfold intT
  rw [if_neg hs]
  simp only []
  have hd : (if (s.head? == some 45) = true then s.tail else s) = digs s := rfl
  rw [hd]
  by_cases hf : digs s = [] ∨ 19 < s.length ∨ ((digs s).head? = some 48 ∧ (1 < (digs s).length ∨ (s.head? == some 45) = true))
  · rw [if_pos hf]
  · rw [if_neg hf]
    have hn : numT s = false := by
      rcases h with h | h
      · exact absurd (.inr (.inl h)) hf
      · exact h
    unfold numT at hn
    rw [Bool.or_eq_false_iff] at hn
    obtain ⟨h0, hn⟩ := hn
    have h1 : (digs s).isEmpty = false := by
      cases hq : (digs s).isEmpty
      · rfl
      · exact absurd (.inl (List.isEmpty_iff.1 hq)) hf
    have h2 : ((digs s).head? == some 48) = false := by
      cases hq : (digs s).head? == some 48
      · rfl
      · exfalso
        have hq' : (digs s).head? = some 48 := by simpa using hq
        have hh : ¬ (1 < (digs s).length ∨ (s.head? == some 45) = true) := fun h => hf (.inr (.inr ⟨hq', h⟩))
        have hm : (s.head? == some 45) = false := by
          cases hm : (s.head? == some 45)
          · rfl
          · exact absurd (.inr hm) hh
        have hds : digs s = s := by unfold digs; rw [hm, if_neg (by simp)]
        rw [hds] at hq' hh
        rcases s with _ | ⟨c, _ | ⟨d, s⟩⟩
        · exact hs rfl
        · have : c = 48 := by simpa using hq'
          subst this
          simp at h0
        · exact hh (.inl (by simp))
    rw [h1, h2] at hn
    have h3 : (digs s).all dgB = false := by simpa using hn
    rw [dec_none _ 0 h3]
/-- A number's text, as the library reads it. -/
theorem int_num {s : Tx} (lo hi : Int) (hs : s ≠ []) (hl : s.length ≤ 19) (hn : numT s = true) :
    (∃ v, Lib.atoiAll s = .ok v ∧ intT s lo hi = (if v < lo ∨ hi < v then (0, 5) else (v, 0)) ∧ -9223372036854775808 ≤ v ∧ v ≤ 9223372036854775807) ∨ (Lib.atoiAll s = .range ∧ intT s lo hi = (0, 5)) := by
  unfold numT at hn
  rw [Bool.or_eq_true] at hn
  rcases hn with hn | hn
  · have : s = [48] := by simpa using hn
    subst this
    refine .inl ⟨0, by decide, ?_, by decide, by decide⟩
    unfold intT
    rw [if_neg (by simp)]
    have e1 : (([48] : Tx).head? == some 45) = false := by decide
    simp only [e1, Bool.false_eq_true, if_false]
    rw [if_neg (by simp)]
    have e2 : Lib.decFrom 0 [48] = some 0 := by decide
    rw [e2]
    simp only []
    rw [if_neg (by decide)]
    rfl
  · simp only [Bool.and_eq_true, Bool.not_eq_true'] at hn
    obtain ⟨⟨h1, h2⟩, h3⟩ := hn
    have hne : digs s ≠ [] := fun h => by rw [h] at h1; cases h1
    obtain ⟨n, hd, hb⟩ := dec_some (digs s) 0 0 h3 (by decide)
    have hform : ¬ (digs s = [] ∨ 19 < s.length ∨ ((digs s).head? = some 48 ∧ (1 < (digs s).length ∨ (s.head? == some 45) = true))) := by
      rintro (h | h | ⟨h, _⟩)
      · exact hne h
      · omega
      · rw [h] at h2
        simp at h2
    have hint : intT s lo hi = if 9223372036854775807 < n then (0, 5) else if (if (s.head? == some 45) = true then -(n : Int) else (n : Int)) < lo ∨ hi < (if (s.head? == some 45) = true then -(n : Int) else (n : Int)) then (0, 5) else (if (s.head? == some 45) = true then -(n : Int) else (n : Int), 0) := by
      unfold intT
      rw [if_neg hs]
      simp only []
      have hdd : (if (s.head? == some 45) = true then s.tail else s) = digs s := rfl
      rw [hdd, if_neg hform, hd]
    cases hm : (s.head? == some 45)
    · have hds : digs s = s := by unfold digs; rw [hm, if_neg (by simp)]
      rw [hds] at h3 hd hb hne
      rw [hm] at hint
      simp only [Bool.false_eq_true, if_false] at hint
      rcases s with _ | ⟨c, r⟩
      · exact absurd rfl hs
      have hc : dgB c = true := by
        rw [List.all_cons, Bool.and_eq_true] at h3
        exact h3.1
      unfold dgB at hc
      simp only [Bool.and_eq_true, decide_eq_true_eq] at hc
      rw [Lib.atoiAll_plain c r (by omega) (by omega), mag_some hne h3 hl hd]
      by_cases h63 : 9223372036854775808 ≤ n
      · right
        refine ⟨by rw [Lib.signless, if_pos h63], ?_⟩
        rw [hint, if_pos (by omega)]
      · left
        refine ⟨n, by rw [Lib.signless, if_neg h63], ?_, by omega, by omega⟩
        rw [hint, if_neg (by omega)]
    · have hds : digs s = s.tail := by unfold digs; rw [hm, if_pos rfl]
      rw [hds] at h3 hd hb hne
      rw [hm] at hint
      simp only [if_true] at hint
      rcases s with _ | ⟨c, r⟩
      · exact absurd rfl hs
      have hc : c = 45 := by simpa using hm
      subst hc
      rw [List.tail_cons] at h3 hd hb hne
      rw [List.length_cons] at hl
      have hp : 10 ^ (r.length + 0) ≤ 10 ^ 18 := Nat.pow_le_pow_right (by decide) (by omega)
      have e18 : (10 : Nat) ^ 18 = 1000000000000000000 := by decide
      rw [Lib.atoiAll_minus, mag_some hne h3 (by omega) hd]
      left
      refine ⟨-(n : Int), by rw [Lib.signed, if_neg (by omega)], ?_, by omega, by omega⟩
      rw [hint, if_neg (by omega)]
/-- What ContainsFunc finds. -/
theorem idx_from (s : ByteArray) : ∀ (f pos : Nat), s.size ≤ pos + f → decide (0 ≤ Lib.idxFuncFrom noDg true s f pos) = (s.data.toList.drop pos).any (fun c => !dgB c)
  | 0, pos, h => by
    have hd : s.data.toList.drop pos = [] := List.drop_eq_nil_of_le (by rw [← Lib.size_eq]; omega)
    rw [hd]
    rfl
  | f + 1, pos, h => by
    unfold Lib.idxFuncFrom
    by_cases hlt : pos < s.size
    · rw [if_pos hlt]
      have hl : pos < s.data.toList.length := by rw [← Lib.size_eq]; exact hlt
      have g0 : s.get! pos = s.data.toList[pos]'hl := by
        rw [← Lib.getD_get!', List.getD_eq_getElem?_getD, List.getElem?_eq_getElem hl]
        rfl
      have hat := Lib.decode_at s pos
      rw [List.drop_eq_getElem_cons hl, List.any_cons, ← g0]
      by_cases hb : (s.get! pos).toNat < 128
      · rw [Lib.decodeN_ascii _ _ _ _ _ hb] at hat
        rw [hat]
        simp only [noDg_byte]
        cases hq : dgB (s.get! pos)
        · rw [if_pos (by rfl), Bool.not_false, Bool.true_or]
          exact decide_eq_true (by omega)
        · rw [if_neg (by simp), Bool.not_true, Bool.false_or]
          exact idx_from s f (pos + 1) (by omega)
      · obtain ⟨h1, _⟩ := dec_bytes (s.size - pos) (s.get! pos).toNat (s.get! (pos + 1)).toNat (s.get! (pos + 2)).toNat (s.get! (pos + 3)).toNat (by omega)
        rw [← hat] at h1
        have hp : noDg (Utf8.decode s pos).1 = true := by unfold noDg; rw [Bool.or_eq_true]; right; exact decide_eq_true (by omega)
        have hq : dgB (s.get! pos) = false := by
          unfold dgB
          rw [decide_eq_false (show ¬ (s.get! pos).toNat ≤ 57 by omega), Bool.and_false]
        rw [if_pos hp, hq, Bool.not_false, Bool.true_or]
        exact decide_eq_true (by omega)
    · rw [if_neg hlt]
      have hd : s.data.toList.drop pos = [] := List.drop_eq_nil_of_le (by rw [← Lib.size_eq]; omega)
      rw [hd]
      rfl
theorem idx_noDg (l : Tx) : decide (0 ≤ Lib.idxFunc noDg true (str l)) = !(l.all dgB) := by
  unfold Lib.idxFunc
  rw [idx_from (str l) _ 0 (by omega), List.drop_zero]
  show l.any _ = _
  rw [List.any_eq_not_all_not]
  simp
end Go.Proofs.YtencapplbedcmaaGreatDoor

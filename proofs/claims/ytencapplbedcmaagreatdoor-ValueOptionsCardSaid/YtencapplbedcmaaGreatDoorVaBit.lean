/- Plain: bits of letters, one by one. -/
import Derived.Test.YtencapplbedcmaaGreatDoorVaFn
namespace Go.Proofs.YtencapplbedcmaaGreatDoor
open Go.RowKit

theorem or_add : ∀ (i x : Nat), x.testBit i = false → x ||| 2 ^ i = x + 2 ^ i
  | 0, x, h => by
    have hx : x % 2 = 0 := by
      rw [Nat.testBit_zero] at h
      have := Nat.mod_two_eq_zero_or_one x
      rcases this with h1 | h1
      · exact h1
      · rw [h1] at h; simp at h
    rw [Nat.pow_zero]
    have hd : x ||| 1 = 2 * ((x ||| 1) / 2) + (x ||| 1) % 2 := (Nat.div_add_mod _ _).symm
    rw [Nat.or_div_two, Nat.or_mod_two_eq_one.2 (.inr rfl)] at hd
    rw [hd]
    have : x / 2 ||| 1 / 2 = x / 2 := by simp
    rw [this]
    omega
  | i + 1, x, h => by
    have hx : (x / 2).testBit i = false := by rw [← Nat.testBit_succ]; exact h
    have ih := or_add i (x / 2) hx
    have hp : 2 ^ (i + 1) = 2 * 2 ^ i := by rw [Nat.pow_succ]; omega
    have hd : x ||| 2 ^ (i + 1) = 2 * ((x ||| 2 ^ (i + 1)) / 2) + (x ||| 2 ^ (i + 1)) % 2 := (Nat.div_add_mod _ _).symm
    have h2 : 2 ^ (i + 1) / 2 = 2 ^ i := by rw [hp]; omega
    have hm : (x ||| 2 ^ (i + 1)) % 2 = x % 2 := by
      have := Nat.testBit_or x (2 ^ (i + 1)) 0
      rw [Nat.testBit_zero, Nat.testBit_zero, Nat.testBit_zero] at this
      have h3 : 2 ^ (i + 1) % 2 = 0 := by rw [hp]; omega
      rw [h3] at this
      have a := Nat.mod_two_eq_zero_or_one (x ||| 2 ^ (i + 1))
      have b := Nat.mod_two_eq_zero_or_one x
      rcases a with a | a <;> rcases b with b | b <;> first | (rw [a, b]; done) | (rw [a, b] at this; exact absurd this (by decide))
    rw [hd, Nat.or_div_two, h2, ih, hm, hp]
    omega
/-- A part's place among the letters. -/
def idxP (L : Tx) (p : Tx) : Nat := match p with
  | [c] => idxT L c
  | _ => 0
theorem idx_get : ∀ (L : Tx) (c : UInt8), c ∈ L → L[idxT L c]? = some c
  | d :: L, c, h => by
    rw [idxT]
    by_cases e : d = c
    · rw [if_pos e, e]; rfl
    · rw [if_neg e]
      have : c ∈ L := by
        rcases List.mem_cons.1 h with h | h
        · exact absurd h.symm e
        · exact h
      exact idx_get L c this
theorem idx_lt {L : Tx} {c : UInt8} (h : c ∈ L) : idxT L c < L.length := (List.getElem?_eq_some_iff.1 (idx_get L c h)).1
theorem idx_inj {L : Tx} {c d : UInt8} (h1 : c ∈ L) (h2 : d ∈ L) (h : idxT L c = idxT L d) : c = d := by
  have a := idx_get L c h1
  rw [h, idx_get L d h2] at a
  exact (Option.some.inj a).symm
theorem idx_byte : ∀ (L : Tx) (c : UInt8), c ∈ L → Lib.indexByte L c = (idxT L c : Int)
  | d :: L, c, h => by
    rw [Lib.indexByte, idxT]
    by_cases e : d = c
    · rw [if_pos (beq_iff_eq.2 e), if_pos e]; rfl
    · have hm : c ∈ L := by
        rcases List.mem_cons.1 h with h | h
        · exact absurd h.symm e
        · exact h
      rw [if_neg (by simpa using e), if_neg e, idx_byte L c hm, if_neg (by simp)]
      omega
/-- A part that is one of the letters. -/
def isLet (L : Tx) (p : Tx) : Prop := ∃ c ∈ L, p = [c]
theorem sum_bits (L : Tx) : ∀ q : List Tx, (∀ p ∈ q, isLet L p) → dupT q = false → ∀ j, ((q.map (bitT L)).sum).testBit j = q.any (fun p => idxP L p == j)
  | [], _, _, j => by simp
  | p :: q, h, hd, j => by
    obtain ⟨c, hc, rfl⟩ := h p (by simp)
    rw [dupT, Bool.or_eq_false_iff] at hd
    have ih := sum_bits L q (fun p hp => h p (by simp [hp])) hd.2
    have hno : ((q.map (bitT L)).sum).testBit (idxT L c) = false := by
      rw [ih, List.any_eq_false]
      intro p hp he
      obtain ⟨d, hd2, rfl⟩ := h p (by simp [hp])
      have he' : idxT L d = idxT L c := by simpa [idxP] using he
      have := idx_inj hd2 hc he'
      subst this
      have h1 := hd.1
      rw [List.contains_iff_mem.2 hp] at h1
      cases h1
    have hs : (([c] :: q).map (bitT L)).sum = (q.map (bitT L)).sum ||| 2 ^ idxT L c := by
      rw [List.map_cons, List.sum_cons, or_add _ _ hno]
      show 2 ^ idxT L c + _ = _
      omega
    rw [hs, Nat.testBit_or, ih j, Nat.testBit_two_pow, List.any_cons, Bool.or_comm]
    rfl
theorem odd_no {L p : Tx} (h : oddP L p = false) : isLet L p := by
  unfold oddP at h
  split at h
  · rename_i c
    exact ⟨c, List.contains_iff_mem.1 (by simpa using h), rfl⟩
  · cases h
theorem sum_lt {L : Tx} {q : List Tx} (hL : L.length ≤ 16) (h : ∀ p ∈ q, isLet L p) (hd : dupT q = false) : (q.map (bitT L)).sum < 65536 := by
  have e : (65536 : Nat) = 2 ^ 16 := by decide
  rw [e]
  refine Nat.lt_pow_two_of_testBit _ fun j hj => ?_
  rw [sum_bits L q h hd, List.any_eq_false]
  intro p hp he
  obtain ⟨c, hc, rfl⟩ := h p hp
  have := idx_lt hc
  have he' : idxT L c = j := by simpa [idxP] using he
  omega
theorem sum_next {L : Tx} {q : List Tx} {c : UInt8} (h : ∀ p ∈ q, isLet L p) (hc : c ∈ L) (hd : dupT (q ++ [[c]]) = false) :
    (q.map (bitT L)).sum ||| 2 ^ idxT L c = ((q ++ [[c]]).map (bitT L)).sum := by
  rw [dup_snoc, Bool.or_eq_false_iff] at hd
  have hno : ((q.map (bitT L)).sum).testBit (idxT L c) = false := by
    rw [sum_bits L q h hd.1, List.any_eq_false]
    intro p hp he
    obtain ⟨d, hd2, rfl⟩ := h p hp
    have he' : idxT L d = idxT L c := by simpa [idxP] using he
    have := idx_inj hd2 hc he'
    subst this
    have h1 := hd.2
    rw [List.any_eq_false] at h1
    exact h1 _ hp (by simp)
  rw [or_add _ _ hno, List.map_append, List.sum_append]
  show _ = _ + (2 ^ idxT L c + 0)
  omega
theorem i64_small (a : Nat) (ha : a < 4611686018427387904) : (BitVec.ofInt 64 (a : Int)).toNat = a := by
  rw [BitVec.ofInt_natCast, BitVec.toNat_ofNat]
  exact Nat.mod_eq_of_lt (by omega)
theorem i64_or (a b : Nat) (ha : a < 4611686018427387904) (hb : b < 4611686018427387904) : bits .or .i64 (a : Int) (b : Int) = ((a ||| b : Nat) : Int) := by
  have hx : a ||| b < 2 ^ 62 := Nat.or_lt_two_pow (by omega) (by omega)
  show IntKind.i64.wrap ((BitVec.ofInt 64 (a : Int) ||| BitVec.ofInt 64 (b : Int)).toNat : Int) = _
  rw [BitVec.toNat_or, i64_small a ha, i64_small b hb, IntKind.wrap_i64]
  omega
theorem i64_and1 (a : Nat) (ha : a < 4611686018427387904) : bits .and .i64 (a : Int) 1 = ((a % 2 : Nat) : Int) := by
  show IntKind.i64.wrap ((BitVec.ofInt 64 (a : Int) &&& BitVec.ofInt 64 ((1 : Nat) : Int)).toNat : Int) = _
  rw [BitVec.toNat_and, i64_small a ha, i64_small 1 (by decide), Nat.and_one_is_mod, IntKind.wrap_i64]
  omega
end Go.Proofs.YtencapplbedcmaaGreatDoor

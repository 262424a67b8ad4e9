/- Plain facts: bits changed that lie within 32 bits turn the register's end. -/
import Derived.Test.YtbemloijgabfcaaDoorCrcMath
import Derived.Test.YtbemloijgabfcaaDoorCrcB
namespace Go.Proofs.YtbemloijgabfcaaDoor

/-- Bytes as one number, the lowest first, by exclusive or. -/
def num8 : List UInt8 → Nat
  | [] => 0
  | c :: l => c.toNat ^^^ (256 * num8 l)
theorem mul256_xor (a b : Nat) : 256 * (a ^^^ b) = (256 * a) ^^^ (256 * b) := by
  have h := Nat.shiftLeft_xor_distrib (a := a) (b := b) (i := 8)
  simp only [Nat.shiftLeft_eq] at h
  rw [Nat.mul_comm, Nat.mul_comm 256 a, Nat.mul_comm 256 b]
  exact h
theorem mulpow_xor (k a b : Nat) : 2 ^ k * (a ^^^ b) = (2 ^ k * a) ^^^ (2 ^ k * b) := by
  have h := Nat.shiftLeft_xor_distrib (a := a) (b := b) (i := k)
  simp only [Nat.shiftLeft_eq] at h
  rw [Nat.mul_comm, Nat.mul_comm _ a, Nat.mul_comm _ b]
  exact h
theorem reg_num : ∀ (l : List UInt8) (r : Nat), reg r l = sts (8 * l.length) (r ^^^ num8 l)
  | [], r => by simp [reg, num8, sts]
  | c :: l, r => by
    show reg (turn r c.toNat) l = _
    rw [reg_num l, turn_sts, show 8 * (c :: l).length = 8 + 8 * l.length by simp; omega, sts_add]
    congr 1
    show sts 8 (r ^^^ c.toNat) ^^^ num8 l = sts 8 (r ^^^ (c.toNat ^^^ 256 * num8 l))
    rw [← Nat.xor_assoc, sts_xor 8 (r ^^^ c.toNat), show (256 : Nat) = 2 ^ 8 from rfl, sts_shift]
theorem num8_set : ∀ (l : List UInt8) (j b : Nat) (y : UInt8), (hj : j < l.length) → y.toNat = l[j].toNat ^^^ 2 ^ b → num8 (l.set j y) = num8 l ^^^ 2 ^ (8 * j + b)
  | c :: l, 0, b, y, _, h => by
    simp only [List.getElem_cons_zero] at h
    simp only [List.set_cons_zero, num8, h, Nat.mul_zero, Nat.zero_add]
    ac_rfl
  | c :: l, j + 1, b, y, hj, h => by
    simp only [List.getElem_cons_succ] at h
    simp only [List.set_cons_succ, num8]
    have e : (2 : Nat) ^ (8 * (j + 1) + b) = 256 * 2 ^ (8 * j + b) := by
      rw [show 8 * (j + 1) + b = 8 + (8 * j + b) by omega, Nat.pow_add 2 8]
    rw [num8_set l j b y (by simpa using hj) h, mul256_xor, e, Nat.xor_assoc]
theorem mod_next (p i : Nat) : p % 2 ^ (i + 1) = p % 2 ^ i ^^^ (if p / 2 ^ i % 2 = 1 then 2 ^ i else 0) := by
  apply Nat.eq_of_testBit_eq
  intro j
  rw [Nat.testBit_xor, Nat.testBit_mod_two_pow, Nat.testBit_mod_two_pow]
  have hb : p.testBit i = decide (p / 2 ^ i % 2 = 1) := Nat.testBit_eq_decide_div_mod_eq
  by_cases h : p / 2 ^ i % 2 = 1
  · rw [if_pos h, Nat.testBit_two_pow]
    rcases Nat.lt_trichotomy j i with hj | hj | hj
    · simp [hj, show j < i + 1 by omega, show i ≠ j by omega]
    · subst hj
      simp [hb, h]
    · simp [show ¬ j < i by omega, show ¬ j < i + 1 by omega, show i ≠ j by omega]
  · rw [if_neg h, Nat.zero_testBit]
    rcases Nat.lt_trichotomy j i with hj | hj | hj
    · simp [hj, show j < i + 1 by omega]
    · subst hj
      simp [hb, h]
    · simp [show ¬ j < i by omega, show ¬ j < i + 1 by omega]
theorem st_zero (r : Nat) (h : r < 4294967296) (h0 : st r = 0) : r = 0 := by
  unfold st at h0
  rcases Nat.mod_two_eq_zero_or_one r with hr | hr
  · rw [if_neg (by omega), Nat.xor_zero] at h0
    omega
  · rw [if_pos hr] at h0
    have : r / 2 = 3988292384 := by
      have h1 := congrArg (fun q => q ^^^ 3988292384) h0
      simp only [Nat.xor_assoc, Nat.xor_self, Nat.xor_zero, Nat.zero_xor] at h1
      exact h1
    omega
theorem sts_ne (n : Nat) : ∀ r, r < 4294967296 → r ≠ 0 → sts n r ≠ 0 := by
  induction n with
  | zero => intro r _ h; exact h
  | succ n ih => intro r h h0; exact ih _ (st_lt r h) (fun h1 => h0 (st_zero r h h1))

theorem le4_num (s : Nat) (h : s < 4294967296) : num8 (le4 s) = s := by
  simp only [le4, num8, UInt8.toNat_ofNat', Nat.mul_zero, Nat.xor_zero]
  have e : ∀ a q : Nat, (a % 256) ^^^ (256 * q) = a % 256 + 256 * q := fun a q => by
    have h1 := Nat.two_pow_add_eq_or_of_lt (i := 8) (b := a % 256) (Nat.mod_lt _ (by omega)) q
    have h2 : (2 ^ 8 * q) ||| (a % 256) = (2 ^ 8 * q) ^^^ (a % 256) := by
      apply Nat.eq_of_testBit_eq
      intro j
      rw [Nat.testBit_or, Nat.testBit_xor, Nat.testBit_two_pow_mul, show (256 : Nat) = 2 ^ 8 from rfl, Nat.testBit_mod_two_pow]
      by_cases hj : j < 8
      · simp [hj, show ¬ 8 ≤ j by omega]
      · simp [hj]
    rw [show (256 : Nat) = 2 ^ 8 from rfl] at *
    rw [Nat.xor_comm, ← h2, ← h1]
    omega
  have e2 : s / 16777216 % 2 ^ 8 = s / 16777216 := Nat.mod_eq_of_lt (by omega)
  rw [show (2 : Nat) ^ 8 = 256 from rfl] at *
  rw [e2, e, e, e]
  omega
/-- What is sealed: the register ends at what all ones come to in 32 bits. -/
theorem reg_sealed (l : List UInt8) : reg 4294967295 (sealed l) = sts 32 4294967295 := by
  have hr := reg_lt l 4294967295 (by omega)
  unfold sealed
  rw [reg_append, reg_num (le4 _), le4_num _ (more_lt _ _), le4_length]
  unfold more
  simp only [Nat.sub_zero]
  congr 1
  have := congrArg BitVec.toNat (BitVec.allOnes_xor (x := BitVec.ofNat 32 (reg 4294967295 l)))
  rw [BitVec.toNat_xor, BitVec.toNat_not, BitVec.toNat_allOnes, BitVec.toNat_ofNat, Nat.mod_eq_of_lt (by omega)] at this
  rw [show (4294967295 : Nat) - reg 4294967295 l = 4294967295 ^^^ reg 4294967295 l from this.symm]
  rw [Nat.xor_comm 4294967295, ← Nat.xor_assoc, Nat.xor_self, Nat.zero_xor]
/-- With a pattern of bits changed from bit k on, what was sealed isn't sealed any more. -/
theorem burst (l z : List UInt8) (m k p : Nat) (hp : p < 4294967296) (hp0 : p ≠ 0) (hk : k + 32 ≤ 8 * (l.length + 4)) (hz : z.length = l.length + 4) (hn : num8 z = num8 (sealed l) ^^^ (2 ^ k * p)) :
    z ≠ sealed (z.take m) := by
  intro h
  have h1 := reg_sealed (z.take m)
  rw [← h, reg_num, hz, hn, ← Nat.xor_assoc, sts_xor] at h1
  have h2 := reg_sealed l
  rw [reg_num, seal_length] at h2
  rw [h2] at h1
  have h3 : sts (8 * (l.length + 4)) (2 ^ k * p) = 0 := by
    have := congrArg (fun q => sts 32 4294967295 ^^^ q) h1
    simp only [← Nat.xor_assoc, Nat.xor_self, Nat.zero_xor] at this
    exact this
  obtain ⟨q, hq⟩ : ∃ q, 8 * (l.length + 4) = k + q := ⟨8 * (l.length + 4) - k, by omega⟩
  rw [hq, sts_add, sts_shift] at h3
  exact sts_ne q p hp hp0 h3
end Go.Proofs.YtbemloijgabfcaaDoor

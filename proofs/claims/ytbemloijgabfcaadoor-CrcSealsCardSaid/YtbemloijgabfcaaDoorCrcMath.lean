/- Plain facts on the sum: the register turned by bytes at once is the register turned bit by bit. -/
import Derived.Test.YtbemloijgabfcaaDoorCrcA
namespace Go.Proofs.YtbemloijgabfcaaDoor

/-- One bit of the register. -/
def st (r : Nat) : Nat := (r / 2) ^^^ (if r % 2 = 1 then 3988292384 else 0)
/-- One bit of the register with one bit of the bytes: told apart, as the chapter has it. -/
def bstep (x c : Nat) : Nat := if x % 2 ≠ c % 2 then (x / 2) ^^^ 3988292384 else x / 2
def brun : Nat → Nat → Nat → Nat
  | 0, x, _ => x
  | n + 1, x, c => brun n (bstep x c) (c / 2)
def sts : Nat → Nat → Nat
  | 0, r => r
  | n + 1, r => sts n (st r)

theorem st_lt (r : Nat) (h : r < 4294967296) : st r < 4294967296 := by
  unfold st
  exact Nat.xor_lt_two_pow (n := 32) (by omega) (by split <;> omega)
theorem sts_lt (n : Nat) : ∀ r, r < 4294967296 → sts n r < 4294967296 := by
  induction n with
  | zero => intro r h; exact h
  | succ n ih => intro r h; exact ih _ (st_lt r h)
theorem xor_div2 (a b : Nat) : (a ^^^ b) / 2 = (a / 2) ^^^ (b / 2) := by
  apply Nat.eq_of_testBit_eq; intro i
  simp [Nat.testBit_div_two]
theorem xor_mod2 (a b : Nat) : (a ^^^ b) % 2 = (a % 2 + b % 2) % 2 := by
  have := Nat.testBit_xor (x := a) (y := b) (i := 0)
  simp only [Nat.testBit_zero] at this
  rcases Nat.mod_two_eq_zero_or_one a with ha | ha <;> rcases Nat.mod_two_eq_zero_or_one b with hb | hb <;> rcases Nat.mod_two_eq_zero_or_one (a ^^^ b) with hc | hc <;> simp_all
theorem st_xor (a b : Nat) : st (a ^^^ b) = st a ^^^ st b := by
  unfold st
  rw [xor_div2, xor_mod2]
  rcases Nat.mod_two_eq_zero_or_one a with ha | ha <;> rcases Nat.mod_two_eq_zero_or_one b with hb | hb <;> simp only [ha, hb]
  · simp
  · simp [Nat.xor_assoc]
  · simp only [if_true, Nat.zero_ne_one, if_false, Nat.xor_zero]
    ac_rfl
  · simp only [Nat.reduceAdd, Nat.reduceMod, if_true, Nat.zero_ne_one, if_false, Nat.xor_zero]
    rw [show a / 2 ^^^ 3988292384 ^^^ (b / 2 ^^^ 3988292384) = a / 2 ^^^ b / 2 ^^^ (3988292384 ^^^ 3988292384) by ac_rfl]
    simp
theorem sts_xor (n : Nat) : ∀ a b, sts n (a ^^^ b) = sts n a ^^^ sts n b := by
  induction n with
  | zero => intro a b; rfl
  | succ n ih => intro a b; simp only [sts, st_xor, ih]
theorem sts_zero (n : Nat) : sts n 0 = 0 := by
  induction n with
  | zero => rfl
  | succ n ih => simp only [sts]; exact ih
theorem sts_add (m n : Nat) : ∀ r, sts (m + n) r = sts n (sts m r) := by
  induction m with
  | zero => intro r; simp [sts]
  | succ m ih => intro r; rw [Nat.succ_add]; simp only [sts, ih]
theorem st_double (q : Nat) : st (2 * q) = q := by unfold st; simp
theorem sts_shift (n : Nat) : ∀ q, sts n (2 ^ n * q) = q := by
  induction n with
  | zero => intro q; simp [sts]
  | succ n ih => intro q; simp only [sts]; rw [Nat.pow_succ, Nat.mul_comm (2 ^ n) 2, Nat.mul_assoc, st_double, ih]
theorem xor_split (a k : Nat) : a = (2 ^ k * (a / 2 ^ k)) ^^^ (a % 2 ^ k) := by
  apply Nat.eq_of_testBit_eq; intro i
  rw [Nat.testBit_xor, Nat.testBit_mod_two_pow, Nat.testBit_two_pow_mul, Nat.testBit_div_two_pow]
  by_cases h : i < k
  · simp [h, Nat.not_le.2 h]
  · have h' : k ≤ i := by omega
    simp [h, h', show i - k + k = i by omega]
theorem bstep_eq (x c : Nat) : bstep x c = st (x ^^^ (c % 2)) := by
  unfold bstep st
  rw [xor_div2, xor_mod2, show c % 2 / 2 = 0 by omega, Nat.xor_zero, show c % 2 % 2 = c % 2 by omega]
  rcases Nat.mod_two_eq_zero_or_one x with hx | hx <;> rcases Nat.mod_two_eq_zero_or_one c with hc | hc <;> simp [hx, hc]
theorem sts_one (r : Nat) : sts 1 r = st r := rfl
theorem brun_eq (n : Nat) : ∀ x c, c < 2 ^ n → brun n x c = sts n (x ^^^ c) := by
  induction n with
  | zero => intro x c h; have : c = 0 := by simpa using h
            subst this; simp [brun, sts]
  | succ n ih =>
    intro x c h
    simp only [brun, sts]
    rw [ih _ _ (by rw [Nat.pow_succ] at h; omega), bstep_eq]
    congr 1
    have hc : c = (2 * (c / 2)) ^^^ (c % 2) := by simpa using xor_split c 1
    conv => rhs; rw [hc, Nat.xor_comm (2 * (c / 2)), ← Nat.xor_assoc, st_xor, st_double]
theorem sts4_tbl : ∀ t, t < 16 → sts 4 t = tbl t := by
  have : ∀ t : Fin 16, sts 4 t = tbl t := by decide +kernel
  exact fun t ht => this ⟨t, ht⟩
theorem half_sts (r : Nat) : half r = sts 4 r := by
  have h := xor_split r 4
  rw [show (2 : Nat) ^ 4 = 16 from rfl] at h
  conv => rhs; rw [h, sts_xor, show (16 : Nat) = 2 ^ 4 from rfl, sts_shift 4, show (2 : Nat) ^ 4 = 16 from rfl, sts4_tbl _ (Nat.mod_lt _ (by omega))]
  rfl
theorem turn_sts (r x : Nat) : turn r x = sts 8 (r ^^^ x) := by
  unfold turn
  rw [half_sts, half_sts, ← sts_add]
theorem brun_turn (r x : Nat) (h : x < 256) : brun 8 r x = turn r x := by rw [turn_sts, brun_eq 8 r x h]
end Go.Proofs.YtbemloijgabfcaaDoor

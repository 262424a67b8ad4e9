/- Layer 4's days and dates, plain arithmetic: leap years, where years begin, months' lengths, the weekday. -/
import Derived.Test.YtlogapkpllgdcaaDoorBase
namespace Go.Proofs.YtlogapkpllgdcaaDoor

/-- A leap year. -/
def leapB (y : Int) : Bool := decide ((y % 4 = 0 ∧ y % 100 ≠ 0) ∨ y % 400 = 0)
def leapN (y : Int) : Int := if leapB y = true then 1 else 0
theorem leapN_eq (y : Int) : leapN y = if (y % 4 = 0 ∧ y % 100 ≠ 0) ∨ y % 400 = 0 then 1 else 0 := by
  unfold leapN leapB
  simp only [decide_eq_true_eq]
theorem leapN_le (y : Int) : 0 ≤ leapN y ∧ leapN y ≤ 1 := by unfold leapN; split <;> omega
theorem leapN_true {y : Int} (h : leapB y = true) : leapN y = 1 := if_pos h
theorem leapN_false {y : Int} (h : leapB y = false) : leapN y = 0 := if_neg (by rw [h]; decide)
theorem leapB_400 (y q : Int) : leapB (y + 400 * q) = leapB y := by
  unfold leapB
  rw [decide_eq_decide]
  omega
theorem leapN_400 (y q : Int) : leapN (y + 400 * q) = leapN y := by unfold leapN; rw [leapB_400]
/-- Where a year begins. -/
def bgn (y : Int) : Int := (y - 1) * 365 + ((y - 1) / 4 - (y - 1) / 100 + (y - 1) / 400) - 719162
theorem bgn_1970 : bgn 1970 = 0 := by decide
theorem bgn_succ (y : Int) : bgn (y + 1) = bgn y + 365 + leapN y := by
  rw [leapN_eq]
  unfold bgn
  split <;> omega
theorem bgn_400 (y q : Int) : bgn (y + 400 * q) = bgn y + 146097 * q := by unfold bgn; omega
theorem bgn_nat (a : Int) (k : Nat) : bgn a + 365 * k ≤ bgn (a + k) := by
  induction k with
  | zero => simp
  | succ k ih =>
    have h := bgn_succ (a + k)
    have := leapN_le (a + k)
    have e : a + ((k + 1 : Nat) : Int) = a + k + 1 := by omega
    rw [e]
    omega
theorem bgn_le {a b : Int} (h : a ≤ b) : bgn a + 365 * (b - a) ≤ bgn b := by
  have h1 := bgn_nat a (b - a).toNat
  have e : a + ((b - a).toNat : Int) = b := by omega
  rw [e] at h1
  omega
/-- A year is told by a day that lies in it. -/
theorem bgn_one {a b n : Int} (h1 : bgn a ≤ n) (h2 : n < bgn (a + 1)) (h3 : bgn b ≤ n) (h4 : n < bgn (b + 1)) : a = b := by
  rcases Int.lt_trichotomy a b with h | h | h
  · have := bgn_le (show a + 1 ≤ b by omega); omega
  · exact h
  · have := bgn_le (show b + 1 ≤ a by omega); omega

theorem year_ex (n : Int) : ∃ Y, bgn Y ≤ n ∧ n < bgn (Y + 1) := by
  have h0 : ∀ z : Int, 400 * (bgn z) ≤ 146097 * (z - 1970) + 100000 ∧ 146097 * (z - 1970) - 100000 ≤ 400 * bgn z := by
    intro z
    unfold bgn
    omega
  have h1 := h0 (1970 + n * 400 / 146097 - 1)
  have h2 := h0 (1970 + n * 400 / 146097 + 1 + 1)
  by_cases a : n < bgn (1970 + n * 400 / 146097)
  · refine ⟨1970 + n * 400 / 146097 - 1, by omega, ?_⟩
    rw [Int.sub_add_cancel]
    exact a
  · by_cases b : bgn (1970 + n * 400 / 146097 + 1) ≤ n
    · exact ⟨1970 + n * 400 / 146097 + 1, b, by omega⟩
    · exact ⟨1970 + n * 400 / 146097, by omega, by omega⟩
theorem year_bd {n Y : Int} (h1 : bgn Y ≤ n) (h2 : n < bgn (Y + 1)) (hn1 : -70368744177664 ≤ n) (hn2 : n ≤ 70368744177664) : -274877906944 ≤ Y ∧ Y < 274877906944 := by
  have h0 := bgn_1970
  rcases Int.lt_or_le Y 1970 with h | h
  · have := bgn_le (show Y + 1 ≤ 1970 by omega)
    omega
  · have := bgn_le h
    omega

/-- A month's length, m from 1. -/
def mtab (m : Nat) : Int := [31, 28, 31, 30, 31, 30, 31, 31, 30, 31, 30, 31].getD (m - 1) 0
def mlen (y : Int) (m : Nat) : Int := mtab m + if m = 2 then leapN y else 0
theorem mtab_le {m : Nat} (h1 : 1 ≤ m) (h2 : m ≤ 12) : 28 ≤ mtab m ∧ mtab m ≤ 31 := by
  have : ∀ i : Fin 13, 1 ≤ i.val → 28 ≤ mtab i ∧ mtab i ≤ 31 := by decide
  exact this ⟨m, by omega⟩ h1
theorem mlen_le {y : Int} {m : Nat} (h1 : 1 ≤ m) (h2 : m ≤ 12) : 28 ≤ mlen y m ∧ mlen y m ≤ 31 := by
  have := mtab_le h1 h2
  have hl := leapN_le y
  unfold mlen
  split
  · subst_vars
    have : mtab 2 = 28 := rfl
    omega
  · omega
theorem mlen_400 (y q : Int) (m : Nat) : mlen (y + 400 * q) m = mlen y m := by unfold mlen; rw [leapN_400]
/-- The first k months' lengths together. -/
def cum (y : Int) : Nat → Int
  | 0 => 0
  | k + 1 => cum y k + mlen y (k + 1)
theorem cum_succ (y : Int) (k : Nat) : cum y (k + 1) = cum y k + mlen y (k + 1) := rfl
theorem cum_12 (y : Int) : cum y 12 = 365 + leapN y := by
  simp only [cum, mlen, mtab]
  simp
  omega
theorem cum_400 (y q : Int) (k : Nat) : cum (y + 400 * q) k = cum y k := by
  induction k with
  | zero => rfl
  | succ k ih => rw [cum_succ, cum_succ, ih, mlen_400]
theorem cum_nn (y : Int) : ∀ k, k ≤ 12 → 28 * k ≤ cum y k ∧ cum y k ≤ 31 * k
  | 0, _ => by simp [cum]
  | k + 1, h => by
    have := cum_nn y k (by omega)
    have := mlen_le (y := y) (m := k + 1) (by omega) h
    rw [cum_succ]
    omega
theorem cum_mono (y : Int) {k : Nat} : ∀ {l : Nat}, k ≤ l → l ≤ 12 → cum y k ≤ cum y l
  | 0, h, _ => by
    obtain rfl : k = 0 := by omega
    exact Int.le_refl _
  | l + 1, h, hl => by
    rcases Nat.lt_or_ge l k with h1 | h1
    · obtain rfl : k = l + 1 := by omega
      exact Int.le_refl _
    · have := cum_mono y h1 (by omega)
      have := mlen_le (y := y) (m := l + 1) (by omega) hl
      rw [cum_succ]
      omega
/-- A date that is. -/
structure Is (y : Int) (m : Nat) (d : Int) : Prop where
  m1 : 1 ≤ m
  m12 : m ≤ 12
  d1 : 1 ≤ d
  dl : d ≤ mlen y m
/-- Its number. -/
def nr (y : Int) (m : Nat) (d : Int) : Int := bgn y + cum y (m - 1) + d - 1
theorem nr_in {y : Int} {m : Nat} {d : Int} (h : Is y m d) : bgn y ≤ nr y m d ∧ nr y m d < bgn (y + 1) := by
  obtain ⟨h1, h2, h3, h4⟩ := h
  have hs := bgn_succ y
  have h12 := cum_12 y
  have hm := cum_mono y (k := m) (l := 12) h2 (Nat.le_refl _)
  have e : cum y m = cum y (m - 1) + mlen y m := by
    obtain ⟨k, rfl⟩ : ∃ k, m = k + 1 := ⟨m - 1, by omega⟩
    exact cum_succ y k
  have h0 := cum_nn y (m - 1) (by omega)
  unfold nr
  omega
/-- A date is told by its number. -/
theorem nr_one {y y' : Int} {m m' : Nat} {d d' : Int} (h : Is y m d) (h' : Is y' m' d') (e : nr y m d = nr y' m' d') : y = y' ∧ m = m' ∧ d = d' := by
  have a := nr_in h
  have b := nr_in h'
  rw [← e] at b
  obtain rfl := bgn_one a.1 a.2 b.1 b.2
  have key : ∀ {m m' : Nat} {d d' : Int}, Is y m d → Is y m' d' → nr y m d = nr y m' d' → ¬ m < m' := by
    intro m m' d d' h h' e hlt
    obtain ⟨h1, h2, h3, h4⟩ := h
    obtain ⟨h1', h2', h3', h4'⟩ := h'
    have hm := cum_mono y (k := m) (l := m' - 1) (by omega) (by omega)
    have e1 : cum y m = cum y (m - 1) + mlen y m := by
      obtain ⟨k, rfl⟩ : ∃ k, m = k + 1 := ⟨m - 1, by omega⟩
      exact cum_succ y k
    unfold nr at e
    omega
  have hm : m = m' := by
    rcases Nat.lt_trichotomy m m' with h1 | h1 | h1
    · exact absurd h1 (key h h' e)
    · exact h1
    · exact absurd h1 (key h' h e.symm)
  subst hm
  refine ⟨rfl, rfl, ?_⟩
  unfold nr at e
  omega
theorem nr_400 (y q : Int) (m : Nat) (d : Int) : nr (y + 400 * q) m d = nr y m d + 146097 * q := by
  unfold nr
  rw [bgn_400, cum_400]
  omega
theorem Is.y400 {y : Int} {m : Nat} {d : Int} (h : Is y m d) (q : Int) : Is (y + 400 * q) m d := ⟨h.m1, h.m12, h.d1, by rw [mlen_400]; exact h.dl⟩
/-- How far numbers go. -/
theorem bgn_lo {y : Int} (h : y ≤ 1) : 366 * (y - 1) - 719162 ≤ bgn y := by unfold bgn; omega
theorem bgn_hi {y : Int} (h : 1 ≤ y) : bgn y ≤ 366 * (y - 1) - 719162 := by unfold bgn; omega

theorem bgn_bd {y : Int} (h1 : -274877906944 ≤ y) (h2 : y ≤ 274877906945) : -140737488355328 ≤ bgn y ∧ bgn y ≤ 140737488355328 := by
  rcases Int.lt_or_le y 1 with h | h
  · have := bgn_lo (y := y) (by omega)
    have := bgn_le (show y ≤ 1970 by omega)
    have := bgn_1970
    omega
  · have := bgn_hi h
    have := bgn_le h
    have : bgn 1 = -719162 := by decide
    omega
/-- The weekday of a number. -/
def wd (n : Int) : Int := (n + 4) % 7
theorem wd_bd (n : Int) : 0 ≤ wd n ∧ wd n < 7 := by unfold wd; omega
theorem wd_7 (n : Int) : wd (n + 7) = wd n := by unfold wd; omega
theorem wd_m7 (n : Int) : wd (n - 7) = wd n := by unfold wd; omega
theorem wd_1 (n : Int) : wd (n + 1) = (wd n + 1) % 7 := by unfold wd; omega
theorem wd_cycle (n : Int) : wd (n + 146097) = wd n := by unfold wd; omega

/-! Go's '/' and '%' cut toward nought. -/
theorem tmod_pos (a b : Int) (h : 0 ≤ a) : a.tmod b = a % b := Int.tmod_eq_emod_of_nonneg h
theorem tdiv_neg (a b : Int) (h : a < 0) : a.tdiv b = -((-a) / b) := by
  have := Int.neg_tdiv (-a) b
  rw [Int.neg_neg] at this
  rw [this, Int.tdiv_eq_ediv_of_nonneg (by omega)]
theorem tmod_neg (a b : Int) (h : a < 0) : a.tmod b = -((-a) % b) := by
  have := Int.neg_tmod (-a) b
  rw [Int.neg_neg] at this
  rw [this, Int.tmod_eq_emod_of_nonneg (by omega)]
theorem tmod_zero (a b : Int) : (a.tmod b = 0) ↔ (a % b = 0) := by
  rw [← Int.dvd_iff_tmod_eq_zero, ← Int.dvd_iff_emod_eq_zero]
theorem floor_neg (a b : Int) (h : a < 0) (hb : 0 < b) : a.tmod b ≤ 0 ∧ (a.tmod b < 0 → a.tdiv b - 1 = a / b) ∧ (0 ≤ a.tmod b → a.tdiv b = a / b) ∧ a ≤ a.tdiv b ∧ a.tdiv b ≤ 0 := by
  rw [tmod_neg a b h, tdiv_neg a b h]
  have h1 := Int.mul_ediv_add_emod (-a) b
  have h2 := Int.emod_nonneg (-a) (show b ≠ 0 by omega)
  have h3 := Int.emod_lt_of_pos (-a) hb
  have h4 : 0 ≤ (-a) / b := Int.ediv_nonneg (by omega) (by omega)
  have h5 : (-a) / b ≤ -a := Int.ediv_le_self b (by omega)
  generalize (-a) / b = q at *
  generalize (-a) % b = r at *
  refine ⟨by omega, fun hr => ?_, fun hr => ?_, by omega, by omega⟩
  · refine (((Int.ediv_emod_unique (a := a) (b := b) (r := b - r) (q := -q - 1) hb).2 ⟨?_, by omega, by omega⟩).1).symm
    rw [Int.mul_sub, Int.mul_neg, Int.mul_one]
    omega
  · refine (((Int.ediv_emod_unique (a := a) (b := b) (r := 0) (q := -q) hb).2 ⟨?_, by omega, by omega⟩).1).symm
    rw [Int.mul_neg]
    omega
theorem floor_half (a b : Int) (h : a < 0) (hb : 2 ≤ b) : a ≤ 2 * a.tdiv b := by
  rw [tdiv_neg a b h]
  have h1 := Int.mul_ediv_add_emod (-a) b
  have h2 := Int.emod_nonneg (-a) (show b ≠ 0 by omega)
  have h4 : 0 ≤ (-a) / b := Int.ediv_nonneg (by omega) (by omega)
  have h5 := Int.mul_le_mul_of_nonneg_right hb h4
  omega
theorem mod_neg (a b : Int) (h : a < 0) (hb : 0 < b) : -b < a.tmod b ∧ (a.tmod b < 0 → a.tmod b + b = a % b) ∧ (0 ≤ a.tmod b → a.tmod b = a % b) := by
  rw [tmod_neg a b h]
  have h1 := Int.mul_ediv_add_emod (-a) b
  have h2 := Int.emod_nonneg (-a) (show b ≠ 0 by omega)
  have h3 := Int.emod_lt_of_pos (-a) hb
  generalize (-a) / b = q at *
  generalize (-a) % b = r at *
  refine ⟨by omega, fun hr => ?_, fun hr => ?_⟩
  · refine (((Int.ediv_emod_unique (a := a) (b := b) (r := -r + b) (q := -q - 1) hb).2 ⟨?_, by omega, by omega⟩).2).symm
    rw [Int.mul_sub, Int.mul_neg, Int.mul_one]
    omega
  · refine (((Int.ediv_emod_unique (a := a) (b := b) (r := -r) (q := -q) hb).2 ⟨?_, by omega, by omega⟩).2).symm
    rw [Int.mul_neg]
    omega
theorem tmod7 (n : Int) : -7 < n.tmod 7 ∧ n.tmod 7 < 7 ∧ (n.tmod 7 + 7 + 4) % 7 = wd n ∧ (n.tmod 7 < 0 → n.tmod 7 + 7 = n % 7) ∧ (0 ≤ n.tmod 7 → n.tmod 7 = n % 7) := by
  unfold wd
  rcases Int.lt_or_le n 0 with h | h
  · rw [tmod_neg n 7 h]; omega
  · rw [tmod_pos n 7 h]; omega
theorem leapB_iff (y : Int) : leapB y = true ↔ (y % 4 = 0 ∧ y % 100 ≠ 0) ∨ y % 400 = 0 := by unfold leapB; rw [decide_eq_true_eq]
theorem leapB_of (y : Int) (p : Bool) (h : p = true ↔ (y % 4 = 0 ∧ y % 100 ≠ 0) ∨ y % 400 = 0) : p = leapB y := by
  rw [Bool.eq_iff_iff, leapB_iff]; exact h
end Go.Proofs.YtlogapkpllgdcaaDoor

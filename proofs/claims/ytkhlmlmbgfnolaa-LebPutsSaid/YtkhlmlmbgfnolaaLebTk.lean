/- What is taken off bytes (LB1): cnt, tk; plain arithmetic. -/
import Derived.Test.YtkhlmlmbgfnolaaLebMath
namespace Go.Proofs.Ytkhlmlmbgfnolaa

/-- How many bytes ahead are 128 or more. -/
def cnt : List UInt8 → Nat
  | [] => 0
  | c :: l => if 128 ≤ c.toNat then cnt l + 1 else 0
theorem cnt_le (m : List UInt8) : cnt m ≤ m.length := by
  induction m with
  | nil => exact Nat.le_refl _
  | cons c l ih => rw [cnt]; split <;> simp <;> omega
theorem cnt_eq : ∀ (m : List UInt8) (k : Nat) (_ : k ≤ cnt m) (hl : k < m.length), m[k].toNat < 128 → cnt m = k
  | c :: l, 0, _, _, h => by
    rw [cnt, if_neg]
    have : c.toNat < 128 := h
    omega
  | c :: l, k + 1, hk, hl, h => by
    rw [cnt] at hk ⊢
    split at hk
    · rename_i h1
      rw [if_pos h1, cnt_eq l k (by omega) (by simpa using hl) (by simpa using h)]
    · omega
theorem cnt_succ : ∀ (m : List UInt8) (k : Nat) (_ : k ≤ cnt m) (hl : k < m.length), 128 ≤ m[k].toNat → k + 1 ≤ cnt m
  | c :: l, 0, _, _, h => by
    have : 128 ≤ c.toNat := h
    rw [cnt, if_pos this]
    omega
  | c :: l, k + 1, hk, hl, h => by
    rw [cnt] at hk ⊢
    split at hk
    · rename_i h1
      rw [if_pos h1]
      have := cnt_succ l k (by omega) (by simpa using hl) (by simpa using h)
      omega
    · omega
theorem cnt_get (m : List UInt8) (k : Nat) (hk : k < cnt m) : ∃ h : k < m.length, 128 ≤ m[k].toNat := by
  induction m generalizing k with
  | nil => exact absurd hk (by simp [cnt])
  | cons c l ih =>
    rw [cnt] at hk
    split at hk
    · rename_i h1
      cases k with
      | zero => exact ⟨by simp, h1⟩
      | succ k =>
        obtain ⟨h, h2⟩ := ih k (by omega)
        exact ⟨by simpa using h, by simpa using h2⟩
    · omega
/-- The bytes up to the first one below 128, if there is one among the first ten. -/
def tk (l : List UInt8) : Nat × Nat × Nat :=
  if cnt (l.take 10) < (l.take 10).length then
    if dig (val (l.take (cnt (l.take 10) + 1)) % 18446744073709551616) = l.take (cnt (l.take 10) + 1) then (0, val (l.take (cnt (l.take 10) + 1)) % 18446744073709551616, cnt (l.take 10) + 1)
    else (3, 0, 0)
  else if l.length < 10 then (4, 0, 0) else (3, 0, 0)
theorem tk_cases (l : List UInt8) : (∃ v n, tk l = (0, v, n) ∧ v < 18446744073709551616 ∧ n ≤ l.length ∧ n ≤ 10 ∧ dig v = l.take n ∧ (dig v).length = n) ∨ tk l = (3, 0, 0) ∨ tk l = (4, 0, 0) := by
  unfold tk
  split
  · rename_i h
    split
    · rename_i h1
      left
      have h2 : cnt (l.take 10) + 1 ≤ l.length ∧ cnt (l.take 10) + 1 ≤ 10 := by
        rw [List.length_take] at h
        omega
      refine ⟨_, _, rfl, Nat.mod_lt _ (by omega), h2.1, h2.2, h1, ?_⟩
      rw [h1, List.length_take]
      omega
    · exact .inr (.inl rfl)
  · split
    · exact .inr (.inr rfl)
    · exact .inr (.inl rfl)
/-- The end of the search, however it comes. -/
theorem tk_at (l : List UInt8) (k : Nat) (hk : cnt (l.take 10) = k) (hl : k < (l.take 10).length) :
    tk l = if dig (val (l.take (k + 1)) % 18446744073709551616) = l.take (k + 1) then (0, val (l.take (k + 1)) % 18446744073709551616, k + 1) else (3, 0, 0) := by
  subst hk
  unfold tk
  rw [if_pos hl]
theorem tk_none (l : List UInt8) (hk : ¬ cnt (l.take 10) < (l.take 10).length) : tk l = if l.length < 10 then (4, 0, 0) else (3, 0, 0) := by
  unfold tk
  rw [if_neg hk]

theorem cnt_dig (v : Nat) (rest : List UInt8) : cnt (dig v ++ rest) + 1 = (dig v).length := by
  induction v using Nat.strongRecOn with
  | ind v ih =>
    rcases Nat.lt_or_ge v 128 with h | h
    · rw [dig_lt h, List.cons_append, cnt, if_neg (by rw [UInt8.toNat_ofNat']; omega)]
      rfl
    · rw [dig_ge h, List.cons_append, cnt, if_pos (by rw [UInt8.toNat_ofNat']; omega), ih (v / 128) (by omega), List.length_cons]
/-- What was put is taken. -/
theorem tk_dig (v : Nat) (rest : List UInt8) (h : v < 18446744073709551616) : tk (dig v ++ rest) = (0, v, (dig v).length) := by
  have h10 := dig_len10 h
  have hp := dig_pos v
  have e : (dig v ++ rest).take 10 = dig v ++ rest.take (10 - (dig v).length) := by rw [List.take_append, List.take_of_length_le h10]
  have hc := cnt_dig v (rest.take (10 - (dig v).length))
  have hl : (dig v).length - 1 < ((dig v ++ rest).take 10).length := by
    rw [e, List.length_append]
    omega
  rw [tk_at (dig v ++ rest) ((dig v).length - 1) (by rw [e]; omega) hl]
  have e2 : (dig v ++ rest).take ((dig v).length - 1 + 1) = dig v := by
    rw [show (dig v).length - 1 + 1 = (dig v).length by omega]
    exact List.take_left
  rw [e2, val_dig, Nat.mod_eq_of_lt h, if_pos rfl]
  congr 2
  omega
/-- With bytes missing it ends too soon. -/
theorem cnt_cut (l : List UInt8) : ∀ (k : Nat), k ≤ cnt l → cnt (l.take k) = k := by
  induction l with
  | nil => intro k hk; have : k = 0 := by simpa [cnt] using hk
           subst this; rfl
  | cons c l ih =>
    intro k hk
    cases k with
    | zero => rfl
    | succ k =>
      rw [cnt] at hk
      split at hk
      · rename_i h1
        rw [List.take_succ_cons, cnt, if_pos h1, ih k (by omega)]
      · omega
theorem val_lt : ∀ l : List UInt8, val l < 128 ^ l.length
  | [] => by simp [val]
  | c :: l => by
    have := val_lt l
    rw [val, List.length_cons, Nat.pow_succ]
    omega
theorem val_snoc (l : List UInt8) (c : UInt8) : val (l ++ [c]) = val l + 128 ^ l.length * (c.toNat % 128) := by
  induction l with
  | nil => simp [val]
  | cons d l ih =>
    rw [List.cons_append, val, val, ih, List.length_cons, Nat.pow_succ, Nat.mul_add, Nat.mul_comm (128 ^ l.length) 128, Nat.mul_assoc]
    omega
/-- One byte more, its bits laid above those that are there. -/
theorem or_step (v i x : Nat) (hv : v < 2 ^ (7 * i)) (hi : i ≤ 9) : v ||| ((x * 2 ^ (7 * i)) % 18446744073709551616) = (v + x * 2 ^ (7 * i)) % 18446744073709551616 := by
  have e : (18446744073709551616 : Nat) = 2 ^ (7 * i) * 2 ^ (64 - 7 * i) := by
    rw [← Nat.pow_add, show 7 * i + (64 - 7 * i) = 64 by omega]
  have h1 : (x * 2 ^ (7 * i)) % 18446744073709551616 = 2 ^ (7 * i) * (x % 2 ^ (64 - 7 * i)) := by
    rw [e, Nat.mul_comm x, Nat.mul_mod_mul_left]
  rw [h1, Nat.or_comm, ← Nat.two_pow_add_eq_or_of_lt hv, e, Nat.add_comm v, Nat.mul_comm x]
  have h2 : x % 2 ^ (64 - 7 * i) < 2 ^ (64 - 7 * i) := Nat.mod_lt _ (Nat.two_pow_pos _)
  have h3 : 2 ^ (7 * i) * (x % 2 ^ (64 - 7 * i)) + v < 2 ^ (7 * i) * 2 ^ (64 - 7 * i) := by
    have := Nat.mul_le_mul_left (2 ^ (7 * i)) (show x % 2 ^ (64 - 7 * i) + 1 ≤ 2 ^ (64 - 7 * i) from h2)
    rw [Nat.mul_add, Nat.mul_one] at this
    omega
  rw [Nat.mod_mul, Nat.mul_add_mod, Nat.mod_eq_of_lt hv, Nat.mul_add_div (Nat.two_pow_pos _), Nat.div_eq_of_lt hv, Nat.add_zero]
  omega
theorem val_step (l : List UInt8) (k : Nat) (hk : k < l.length) (h9 : k ≤ 9) :
    val (l.take k) % 18446744073709551616 ||| (((l[k].toNat % 128) * 2 ^ (7 * k)) % 18446744073709551616) = val (l.take (k + 1)) % 18446744073709551616 := by
  have e : 128 ^ k = 2 ^ (7 * k) := by rw [show (128 : Nat) = 2 ^ 7 from rfl, ← Nat.pow_mul]
  have hlen : (l.take k).length = k := by rw [List.length_take]; omega
  have h1 : val (l.take k) < 2 ^ (7 * k) := by
    have := val_lt (l.take k)
    rw [hlen, e] at this
    exact this
  have h2 : 2 ^ (7 * k) ≤ 2 ^ 63 := Nat.pow_le_pow_right (by omega) (by omega)
  rw [Nat.mod_eq_of_lt (Nat.lt_of_lt_of_le h1 (by omega)), or_step _ _ _ h1 h9, List.take_succ_eq_append_getElem hk, val_snoc, hlen, e, Nat.mul_comm (2 ^ (7 * k))]
end Go.Proofs.Ytkhlmlmbgfnolaa

/- Numbers as bytes, by sevens (LB1): dig, val, what is taken (tk); plain arithmetic. -/
import Derived.Test.YtkhlmlmbgfnolaaBase
namespace Go.Proofs.Ytkhlmlmbgfnolaa

/-- A number's bytes. -/
def dig (v : Nat) : List UInt8 := if v < 128 then [UInt8.ofNat v] else UInt8.ofNat (v % 128 + 128) :: dig (v / 128)
termination_by v
decreasing_by omega
theorem dig_lt {v : Nat} (h : v < 128) : dig v = [UInt8.ofNat v] := by rw [dig, if_pos h]
theorem dig_ge {v : Nat} (h : 128 ≤ v) : dig v = UInt8.ofNat (v % 128 + 128) :: dig (v / 128) := by rw [dig, if_neg (by omega)]
theorem dig_pos (v : Nat) : 0 < (dig v).length := by
  rcases Nat.lt_or_ge v 128 with h | h
  · rw [dig_lt h]; simp
  · rw [dig_ge h]; simp
theorem dig_one (v : Nat) : (dig v).length = 1 ↔ v < 128 := by
  rcases Nat.lt_or_ge v 128 with h | h
  · rw [dig_lt h]; simp [h]
  · rw [dig_ge h]
    have := dig_pos (v / 128)
    rw [List.length_cons]
    omega
def val : List UInt8 → Nat
  | [] => 0
  | x :: l => x.toNat % 128 + 128 * val l
theorem val_dig (v : Nat) : val (dig v) = v := by
  induction v using Nat.strongRecOn with
  | ind v ih =>
    rcases Nat.lt_or_ge v 128 with h | h
    · rw [dig_lt h]
      simp only [val, UInt8.toNat_ofNat']
      omega
    · rw [dig_ge h]
      simp only [val, UInt8.toNat_ofNat', ih (v / 128) (by omega)]
      omega
theorem dig_inj {v w : Nat} (h : dig v = dig w) : v = w := by rw [← val_dig v, h, val_dig]
theorem dig_mono {v : Nat} : ∀ {w : Nat}, v ≤ w → (dig v).length ≤ (dig w).length := by
  induction v using Nat.strongRecOn with
  | ind v ih =>
    intro w hw
    rcases Nat.lt_or_ge v 128 with h | h
    · rw [dig_lt h]; exact dig_pos w
    · rw [dig_ge h, dig_ge (v := w) (by omega), List.length_cons, List.length_cons]
      exact Nat.succ_le_succ (ih (v / 128) (by omega) (by omega))
theorem dig_len {n : Nat} : ∀ {v : Nat}, v < 128 ^ (n + 1) → (dig v).length ≤ n + 1 := by
  induction n with
  | zero => intro v h; rw [dig_lt (by simpa using h)]; simp
  | succ n ih =>
    intro v h
    rcases Nat.lt_or_ge v 128 with h1 | h1
    · rw [dig_lt h1]; simp
    · rw [dig_ge h1, List.length_cons]
      have : v / 128 < 128 ^ (n + 1) := by
        rw [Nat.div_lt_iff_lt_mul (by omega)]
        rw [Nat.pow_succ] at h
        exact h
      have := ih this
      omega
theorem dig_len10 {v : Nat} (h : v < 18446744073709551616) : (dig v).length ≤ 10 := dig_len (n := 9) (by omega)
theorem dig_add (v : Nat) (rest : List UInt8) : ∃ k, (dig v).length = k + 1 ∧ (∀ j, j < k → ∃ c, (dig v ++ rest)[j]? = some c ∧ 128 ≤ c.toNat) ∧ ∃ c, (dig v ++ rest)[k]? = some c ∧ c.toNat < 128 := by
  induction v using Nat.strongRecOn with
  | ind v ih =>
    rcases Nat.lt_or_ge v 128 with h | h
    · rw [dig_lt h]
      exact ⟨0, rfl, fun j hj => absurd hj (by omega), _, rfl, by rw [UInt8.toNat_ofNat']; omega⟩
    · obtain ⟨k, h1, h2, c, h3, h4⟩ := ih (v / 128) (by omega)
      rw [dig_ge h]
      refine ⟨k + 1, by rw [List.length_cons, h1], fun j hj => ?_, c, ?_, h4⟩
      · cases j with
        | zero => exact ⟨_, rfl, by rw [UInt8.toNat_ofNat']; omega⟩
        | succ j =>
          obtain ⟨c, hc, hc'⟩ := h2 j (by omega)
          exact ⟨c, by simpa using hc, hc'⟩
      · simpa using h3

/-- How many bits a number has; of how many bytes it is. -/
theorem log2_or_one (v : Nat) (h : 0 < v) : (v ||| 1).log2 = v.log2 := by
  have h2 := Nat.log2_self_le (n := v) (by omega)
  have h3 := Nat.lt_log2_self (n := v)
  have he : v ||| 1 = v ∨ (v % 2 = 0 ∧ v ||| 1 = v + 1) := by
    rcases Nat.mod_two_eq_zero_or_one v with h' | h'
    · right
      refine ⟨h', ?_⟩
      have := Nat.two_pow_add_eq_or_of_lt (i := 1) (b := 1) (by omega) (v / 2)
      rw [show 2 ^ 1 * (v / 2) = v by omega] at this
      exact this.symm
    · left
      have := Nat.two_pow_add_eq_or_of_lt (i := 1) (b := 1) (by omega) (v / 2)
      rw [show 2 ^ 1 * (v / 2) + 1 = v by omega] at this
      conv => lhs; rw [this]
      rw [Nat.or_assoc, Nat.or_self, ← this]
  rcases he with he | ⟨he, he'⟩
  · rw [he]
  · rw [he']
    have hlo : v.log2 ≤ (v + 1).log2 := by
      rw [Nat.le_log2 (by omega)]; omega
    have hhi : (v + 1).log2 < v.log2 + 1 := by
      rw [Nat.log2_lt (by omega)]
      have : 2 ^ (v.log2 + 1) = 2 * 2 ^ v.log2 := by rw [Nat.pow_succ]; omega
      omega
    omega
theorem log2_div128 (v : Nat) (h : 128 ≤ v) : v.log2 = (v / 128).log2 + 7 := by
  have h2 := Nat.log2_self_le (n := v / 128) (by omega)
  have h3 := Nat.lt_log2_self (n := v / 128)
  have e1 : 2 ^ ((v / 128).log2 + 7) = 128 * 2 ^ (v / 128).log2 := by rw [Nat.pow_add]; omega
  have e2 : 2 ^ ((v / 128).log2 + 1 + 7) = 128 * 2 ^ ((v / 128).log2 + 1) := by rw [Nat.pow_add 2 _ 7]; omega
  have hlo : (v / 128).log2 + 7 ≤ v.log2 := by rw [Nat.le_log2 (by omega)]; omega
  have hhi : v.log2 < (v / 128).log2 + 1 + 7 := by rw [Nat.log2_lt (by omega)]; omega
  omega
theorem dig_log2 (v : Nat) : (dig v).length = (v ||| 1).log2 / 7 + 1 := by
  rcases Nat.eq_zero_or_pos v with rfl | h0
  · rw [dig_lt (by omega)]; decide
  · rw [log2_or_one v h0]
    clear h0
    induction v using Nat.strongRecOn with
    | ind v ih =>
      rcases Nat.lt_or_ge v 128 with h | h
      · rw [dig_lt h]
        have : v.log2 < 7 := by
          rcases Nat.eq_zero_or_pos v with rfl | h0
          · simp
          · rw [Nat.log2_lt (by omega)]; omega
        rw [Nat.div_eq_of_lt this]
        simp
      · rw [dig_ge h, List.length_cons, ih (v / 128) (by omega), log2_div128 v h]
        omega
end Go.Proofs.Ytkhlmlmbgfnolaa

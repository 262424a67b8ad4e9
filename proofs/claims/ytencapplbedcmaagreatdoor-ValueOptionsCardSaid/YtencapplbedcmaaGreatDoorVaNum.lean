/- Plain numbers of layer 10 (chapter 10's words; of no program). -/
import Derived.Test.YtencapplbedcmaaGreatDoorLxMath
import Derived.Lib.Atoi
import Derived.Lib.ItoaNum
namespace Go.Proofs.YtencapplbedcmaaGreatDoor
open Go.RowKit

def intT (s : Tx) (lo hi : Int) : Int × Nat :=
  if s = [] then (0, 13)
  else
    let m := s.head? == some 45
    let d := if m then s.tail else s
    if d = [] ∨ 19 < s.length ∨ (d.head? = some 48 ∧ (1 < d.length ∨ m = true)) then (0, 3)
    else match Lib.decFrom 0 d with
      | none => (0, 3)
      | some n =>
        if 9223372036854775807 < n then (0, 5)
        else if (if m then -(n : Int) else (n : Int)) < lo ∨ hi < (if m then -(n : Int) else (n : Int)) then (0, 5)
        else (if m then -(n : Int) else (n : Int), 0)
def flagT (s : Tx) : Bool × Nat := if s = [] then (false, 13) else if s = [48] then (false, 0) else if s = [49] then (true, 0) else (false, 3)
/-- A unit's seconds; 0: no unit. -/
def unitT (c : UInt8) : Nat := if c = 115 then 1 else if c = 109 then 60 else if c = 104 then 3600 else if c = 100 then 86400 else 0
def secT (s : Tx) : Int × Nat :=
  if s = [] then (0, 13)
  else match s.getLast? with
    | none => (0, 13)
    | some c => if unitT c = 0 then intT s 0 10000000 else ((intT s.dropLast 0 10000000).1 * unitT c, (intT s.dropLast 0 10000000).2)
/-! Digits. -/
theorem digitVal_nat (d : Nat) (h : d < 10) : Lib.digitVal (UInt8.ofNat (48 + d)) = some d := by
  have : ∀ i : Fin 10, Lib.digitVal (UInt8.ofNat (48 + i.val)) = some i.val := by decide
  exact this ⟨d, h⟩
theorem decFrom_app (l r : Tx) : ∀ acc, Lib.decFrom acc (l ++ r) = (Lib.decFrom acc l).bind fun a => Lib.decFrom a r := by
  induction l with
  | nil => intro acc; rfl
  | cons b l ih =>
    intro acc
    simp only [List.cons_append, Lib.decFrom]
    cases Lib.digitVal b with
    | none => rfl
    | some d => exact ih _
theorem dec_small {u : Nat} (h : u < 10) : Lib.decDigits u = [UInt8.ofNat (48 + u)] := by rw [Lib.decDigits.eq_1 u, dif_pos h]
theorem dec_big {u : Nat} (h : ¬ u < 10) : Lib.decDigits u = Lib.decDigits (u / 10) ++ [UInt8.ofNat (48 + u % 10)] := by rw [Lib.decDigits.eq_1 u, dif_neg h]
theorem decFrom_dec (u : Nat) : Lib.decFrom 0 (Lib.decDigits u) = some u := by
  induction u using Nat.strongRecOn with
  | ind u ih =>
    by_cases h : u < 10
    · rw [dec_small h, Lib.decFrom, digitVal_nat u h]
      simp [Lib.decFrom]
    · rw [dec_big h, decFrom_app, ih (u / 10) (by omega)]
      simp only [Option.bind_some, Lib.decFrom, digitVal_nat (u % 10) (by omega)]
      congr 1
      omega
theorem dec_ne (u : Nat) : Lib.decDigits u ≠ [] := by
  by_cases h : u < 10
  · rw [dec_small h]; simp
  · rw [dec_big h]; simp
theorem byte_dg (d : Nat) (h : d < 10) : 48 ≤ UInt8.ofNat (48 + d) ∧ UInt8.ofNat (48 + d) ≤ 57 := by
  have : ∀ i : Fin 10, 48 ≤ UInt8.ofNat (48 + i.val) ∧ UInt8.ofNat (48 + i.val) ≤ 57 := by decide
  exact this ⟨d, h⟩
theorem dec_all (u : Nat) : ∀ c ∈ Lib.decDigits u, 48 ≤ c ∧ c ≤ 57 := by
  induction u using Nat.strongRecOn with
  | ind u ih =>
    by_cases h : u < 10
    · rw [dec_small h]
      intro c hc
      rw [List.mem_singleton.1 hc]
      exact byte_dg u h
    · rw [dec_big h]
      intro c hc
      rcases List.mem_append.1 hc with h1 | h1
      · exact ih (u / 10) (by omega) c h1
      · rw [List.mem_singleton.1 h1]
        exact byte_dg _ (by omega)
theorem dec_head (u : Nat) : ∀ c l, Lib.decDigits u = c :: l → u ≠ 0 → c ≠ 48 := by
  induction u using Nat.strongRecOn with
  | ind u ih =>
    intro c l e h0
    by_cases h : u < 10
    · rw [dec_small h] at e
      injection e with e1 e2
      rw [← e1]
      have : ∀ i : Fin 10, i.val ≠ 0 → UInt8.ofNat (48 + i.val) ≠ 48 := by decide
      exact this ⟨u, h⟩ h0
    · rw [dec_big h] at e
      rcases hd : Lib.decDigits (u / 10) with _ | ⟨c', l'⟩
      · exact absurd hd (dec_ne _)
      · rw [hd] at e
        injection e with e1 e2
        rw [← e1]
        exact ih (u / 10) (by omega) c' l' hd (by omega)
theorem dec_len (u : Nat) : ∀ k, u < 10 ^ (k + 1) → (Lib.decDigits u).length ≤ k + 1 := by
  intro k
  induction k generalizing u with
  | zero =>
    intro h
    rw [dec_small (by simpa using h)]
    exact Nat.le_refl _
  | succ k ih =>
    intro h
    by_cases h1 : u < 10
    · rw [dec_small h1]
      simp
    · rw [dec_big h1, List.length_append]
      have := ih (u / 10) (by rw [Nat.pow_succ] at h; omega)
      simp only [List.length_cons, List.length_nil]
      omega
/-- A number's digits are that number. -/
theorem int_dec (k : Nat) (hk : k ≤ 10000000) : intT (Lib.decDigits k) 0 10000000 = ((k : Int), 0) := by
  obtain ⟨c, l, e⟩ := List.exists_cons_of_ne_nil (dec_ne k)
  have hc : 48 ≤ c ∧ c ≤ 57 := dec_all k c (by rw [e]; simp)
  have hm : ((Lib.decDigits k).head? == some 45) = false := by
    rw [e]
    simp only [List.head?_cons, beq_eq_false_iff_ne, ne_eq, Option.some.injEq]
    rintro rfl
    exact absurd hc.1 (by decide)
  have hl : (Lib.decDigits k).length ≤ 8 := dec_len k 7 (by omega)
  unfold intT
  rw [if_neg (dec_ne k)]
  simp only [hm]
  rw [if_neg, if_neg (by simp), decFrom_dec]
  · simp only [Bool.false_eq_true, if_false]
    rw [if_neg (by omega), if_neg (by omega)]
  · simp only [Bool.false_eq_true, if_false, or_false]
    rintro (h | h | ⟨h1, h2⟩)
    · exact dec_ne k h
    · omega
    · have h0 : k ≠ 0 := by
        rintro rfl
        rw [dec_small (by omega)] at h2
        simp at h2
      rw [e] at h1
      exact dec_head k c l e h0 (by simpa using h1)
/-! Seconds. -/
theorem last_ne : ∀ {l : Tx} (h : l ≠ []), l.getLast? = some (l.getLast h)
  | _ :: _, _ => rfl
theorem unit_dg {c : UInt8} (h : 48 ≤ c ∧ c ≤ 57) : unitT c = 0 := by
  unfold unitT
  rw [if_neg, if_neg, if_neg, if_neg] <;> (rintro rfl; exact absurd h.2 (by decide))
theorem sec_dec (k : Nat) (hk : k ≤ 10000000) : secT (Lib.decDigits k) = ((k : Int), 0) := by
  unfold secT
  rw [if_neg (dec_ne k), last_ne (dec_ne k)]
  simp only []
  rw [if_pos (unit_dg (dec_all k _ (List.getLast_mem (dec_ne k)))), int_dec k hk]
theorem sec_unit (k : Nat) (c : UInt8) (hk : k ≤ 10000000) (hc : unitT c ≠ 0) : secT (Lib.decDigits k ++ [c]) = ((k : Int) * unitT c, 0) := by
  unfold secT
  rw [if_neg (by simp), List.getLast?_concat, List.dropLast_concat]
  simp only []
  rw [if_neg hc, int_dec k hk]
theorem int_form {s : Tx} {lo hi : Int} (h1 : s ≠ []) (h2 : (s.head? == some 45) = false) (h3 : Lib.decFrom 0 s = none) : intT s lo hi = (0, 3) := by
  unfold intT
  rw [if_neg h1]
  simp only [h2, Bool.false_eq_true, if_false, h3]
  split <;> rfl
theorem dec_head45 (k : Nat) (r : Tx) : ((Lib.decDigits k ++ r).head? == some 45) = false := by
  obtain ⟨c, l, e⟩ := List.exists_cons_of_ne_nil (dec_ne k)
  have hc : 48 ≤ c ∧ c ≤ 57 := dec_all k c (by rw [e]; simp)
  rw [e]
  simp only [List.cons_append, List.head?_cons, beq_eq_false_iff_ne, ne_eq, Option.some.injEq]
  rintro rfl
  exact absurd hc.1 (by decide)
theorem sec_w (k : Nat) : secT (Lib.decDigits k ++ [119]) = (0, 3) := by
  unfold secT
  rw [if_neg (by simp), List.getLast?_concat]
  simp only []
  rw [if_pos (by decide)]
  refine int_form (by simp) (dec_head45 k _) ?_
  rw [decFrom_app, decFrom_dec]
  rfl
theorem sec_nought (k : Nat) : secT (48 :: Lib.decDigits k) = (0, 3) := by
  unfold secT
  have hne : (48 :: Lib.decDigits k) ≠ [] := by simp
  have hall : ∀ c ∈ (48 :: Lib.decDigits k), 48 ≤ c ∧ c ≤ 57 := fun c hc => by
    rcases List.mem_cons.1 hc with rfl | hc
    · exact ⟨by decide, by decide⟩
    · exact dec_all k c hc
  rw [if_neg hne, last_ne hne]
  simp only []
  rw [if_pos (unit_dg (hall _ (List.getLast_mem hne)))]
  unfold intT
  rw [if_neg (by simp)]
  have h45 : ((48 :: Lib.decDigits k).head? == some 45) = false := rfl
  simp only [h45, Bool.false_eq_true, if_false]
  rw [if_pos]
  refine .inr (.inr ⟨rfl, .inl ?_⟩)
  have := List.length_pos_iff.2 (dec_ne k)
  simp only [List.length_cons]
  omega
theorem sec_big : secT [49, 48, 48, 48, 48, 48, 48, 49, 115] = (0, 5) := by decide
end Go.Proofs.YtencapplbedcmaaGreatDoor

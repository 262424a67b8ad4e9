/- Layer 6's words, plain lists: numbers as texts and back, a list cut at bytes, rules and their texts. -/
import Derived.Test.YtjfmnflcgenpaaaDoorCkMath
import Derived.Test.YtjfmnflcgenpaaaDoorCvMath
import Derived.Lib.IndexMore
import Derived.Lib.AtoiTie
import Derived.Lib.ItoaMem
namespace Go.Proofs.YtjfmnflcgenpaaaDoor

/-! Numbers. -/
theorem digitVal_of (d : Nat) (h : d < 10) : Lib.digitVal (UInt8.ofNat (48 + d)) = some d := by
  have : ∀ i : Fin 10, Lib.digitVal (UInt8.ofNat (48 + i.val)) = some i.val := by decide
  exact this ⟨d, h⟩
theorem isDg_of_nat (d : Nat) (h : d < 10) : isDg (UInt8.ofNat (48 + d)) = true := by
  have : ∀ i : Fin 10, isDg (UInt8.ofNat (48 + i.val)) = true := by decide
  exact this ⟨d, h⟩
theorem ofNat_ne48 (d : Nat) (h : d < 10) (h0 : d ≠ 0) : UInt8.ofNat (48 + d) ≠ 48 := by
  have : ∀ i : Fin 10, i.val ≠ 0 → UInt8.ofNat (48 + i.val) ≠ 48 := by decide
  exact this ⟨d, h⟩ h0
theorem digitVal_some {b : UInt8} {d : Nat} (h : Lib.digitVal b = some d) : d < 10 ∧ b = UInt8.ofNat (48 + d) := by
  obtain ⟨h1, h2, h3⟩ := Lib.digitVal_eq h
  exact ⟨by omega, u8_of b _ (by omega)⟩
theorem decFrom_append (l r : List UInt8) : ∀ acc, Lib.decFrom acc (l ++ r) = (Lib.decFrom acc l).bind fun a => Lib.decFrom a r := by
  induction l with
  | nil => intro acc; rfl
  | cons b l ih =>
    intro acc
    simp only [List.cons_append, Lib.decFrom]
    cases Lib.digitVal b with
    | none => rfl
    | some d => exact ih _
theorem dig_big {u : Nat} (h : ¬ u < 10) : Lib.decDigits u = Lib.decDigits (u / 10) ++ [UInt8.ofNat (48 + u % 10)] := by
  rw [Lib.decDigits.eq_1 u, dif_neg h]
theorem decFrom_digits (u : Nat) : Lib.decFrom 0 (Lib.decDigits u) = some u := by
  induction u using Nat.strongRecOn with
  | ind u ih =>
    by_cases h : u < 10
    · rw [Lib.decDigits_one h, Lib.decFrom, digitVal_of u h]
      simp [Lib.decFrom]
    · rw [dig_big h, decFrom_append, ih (u / 10) (by omega)]
      simp only [Option.bind_some, Lib.decFrom, digitVal_of (u % 10) (by omega)]
      congr 1
      omega
theorem dig_ne (u : Nat) : Lib.decDigits u ≠ [] := by
  by_cases h : u < 10
  · rw [Lib.decDigits_one h]; simp
  · rw [dig_big h]; simp
theorem dig_all (u : Nat) : ∀ c ∈ Lib.decDigits u, isDg c = true := by
  induction u using Nat.strongRecOn with
  | ind u ih =>
    by_cases h : u < 10
    · rw [Lib.decDigits_one h]
      intro c hc
      rw [List.mem_singleton] at hc
      rw [hc]
      exact isDg_of_nat u h
    · rw [dig_big h]
      intro c hc
      rcases List.mem_append.1 hc with h1 | h1
      · exact ih (u / 10) (by omega) c h1
      · rw [List.mem_singleton] at h1
        rw [h1]
        exact isDg_of_nat _ (by omega)
theorem dig_head (u : Nat) : ∀ c l, Lib.decDigits u = c :: l → u ≠ 0 → c ≠ 48 := by
  induction u using Nat.strongRecOn with
  | ind u ih =>
    intro c l e h0
    by_cases h : u < 10
    · rw [Lib.decDigits_one h] at e
      injection e with e1 e2
      rw [← e1]
      exact ofNat_ne48 u h h0
    · rw [dig_big h] at e
      rcases hd : Lib.decDigits (u / 10) with _ | ⟨c', l'⟩
      · exact absurd hd (dig_ne _)
      · rw [hd] at e
        injection e with e1 e2
        rw [← e1]
        exact ih (u / 10) (by omega) c' l' hd (by omega)
theorem digits_of : ∀ (k : Nat) (t : List UInt8) (m : Nat), t.length = k → t ≠ [] → Lib.decFrom 0 t = some m → (∀ c l, t = c :: l → l ≠ [] → c ≠ 48) → t = Lib.decDigits m := by
  intro k
  induction k with
  | zero => intro t m hl hn _ _; exact absurd (List.eq_nil_of_length_eq_zero hl) hn
  | succ k ih =>
    intro t m hl hn hd hh
    rcases List.eq_nil_or_concat t with rfl | ⟨t', c, rfl⟩
    · exact absurd rfl hn
    · rw [List.concat_eq_append] at hd hl hh ⊢
      rw [decFrom_append] at hd
      cases h1 : Lib.decFrom 0 t' with
      | none => rw [h1] at hd; cases hd
      | some m' =>
        rw [h1] at hd
        simp only [Option.bind_some, Lib.decFrom] at hd
        cases h2 : Lib.digitVal c with
        | none => rw [h2] at hd; cases hd
        | some d =>
          rw [h2] at hd
          injection hd with hd
          obtain ⟨h3, h4⟩ := digitVal_some h2
          rcases t' with _ | ⟨b, t''⟩
          · have h5 : m' = 0 := by injection h1 with h1; exact h1.symm
            subst h5
            rw [Lib.decDigits_one (show m < 10 by omega), h4, List.nil_append, show d = m by omega]
          · have h6 := ih (b :: t'') m' (by simpa using hl) (by simp) h1 (fun c' l' e hl' => hh c' (l' ++ [c]) (by rw [e]; rfl) (by simp))
            have h7 : m' ≠ 0 := by
              intro e
              rw [e, Lib.decDigits_one (by omega)] at h6
              exact hh b (t'' ++ [c]) rfl (by simp) (by injection h6)
            rw [dig_big (show ¬ m < 10 by omega), h6, h4, show m / 10 = m' by omega, show m % 10 = d by omega]
theorem nDigits_le : ∀ (k u : Nat), u < 10 ^ (k + 1) → Lib.nDigits u ≤ k + 1
  | 0, u, h => by rw [Lib.nDigits_small (by simpa using h)]; omega
  | k + 1, u, h => by
    by_cases h1 : u < 10
    · rw [Lib.nDigits_small h1]; omega
    · rw [Lib.nDigits_big h1]
      have := nDigits_le k (u / 10) (by rw [Nat.pow_succ] at h; omega)
      omega
theorem dig_len9 (u : Nat) : (Lib.decDigits u).length ≤ 9 ↔ u ≤ 999999999 := by
  rw [Lib.decDigits_length]
  constructor
  · intro h
    have h1 := Lib.lt_pow_nDigits u
    have h2 : 10 ^ Lib.nDigits u ≤ 10 ^ 9 := Nat.pow_le_pow_right (by omega) h
    omega
  · intro h
    exact nDigits_le 8 u (by omega)

/-- Digits without needless noughts, nine at most. -/
def okN (t : List UInt8) : Prop := t ≠ [] ∧ t.length ≤ 9 ∧ (∀ c l, t = c :: l → l ≠ [] → c ≠ 48)
theorem okN_digits (u : Nat) (h : u ≤ 999999999) : okN (Lib.decDigits u) := by
  refine ⟨dig_ne u, (dig_len9 u).2 h, fun c l e hl => dig_head u c l e ?_⟩
  intro h0
  rw [h0, Lib.decDigits_one (by omega)] at e
  injection e with e1 e2
  exact hl e2.symm
theorem okN_of {t : List UInt8} {m : Nat} (h : okN t) (hd : Lib.decFrom 0 t = some m) : t = Lib.decDigits m ∧ m ≤ 999999999 := by
  have e := digits_of t.length t m rfl h.1 hd h.2.2
  exact ⟨e, (dig_len9 m).1 (by rw [← e]; exact h.2.1)⟩
open Classical in
/-- The number of a text. -/
noncomputable def num9 : List UInt8 → Option Int
  | [] => none
  | c :: r =>
    if c = 45 then (if okN r ∧ r ≠ [48] then (Lib.decFrom 0 r).map fun (m : Nat) => -(m : Int) else none)
    else if okN (c :: r) then (Lib.decFrom 0 (c :: r)).map fun (m : Nat) => (m : Int) else none
theorem itoa_nn (u : Nat) : Lib.itoa (u : Int) = Lib.decDigits u := Lib.itoa_nonneg u
theorem itoa_neg (u : Nat) (h : u ≠ 0) : Lib.itoa (-(u : Int)) = 45 :: Lib.decDigits u := Lib.itoa_neg u (by omega)
theorem dg_ne {c : UInt8} (h : isDg c = true) : c ≠ 45 ∧ c ≠ 32 ∧ c ≠ 43 := by
  unfold isDg at h
  simp at h
  refine ⟨?_, ?_, ?_⟩ <;> (rintro rfl; revert h; decide)
theorem num9_itoa (n : Int) (h1 : -999999999 ≤ n) (h2 : n ≤ 999999999) : num9 (Lib.itoa n) = some n := by
  rcases Int.lt_or_le n 0 with h | h
  · obtain ⟨u, rfl⟩ : ∃ u : Nat, n = -(u : Int) := ⟨n.natAbs, by omega⟩
    rw [itoa_neg u (by omega)]
    have hne : Lib.decDigits u ≠ [48] := by
      intro e
      have := decFrom_digits u
      rw [e] at this
      have e2 : Lib.decFrom 0 [48] = some 0 := rfl
      rw [e2] at this
      injection this
      omega
    rw [num9, if_pos rfl, if_pos ⟨okN_digits u (by omega), hne⟩, decFrom_digits]
    rfl
  · obtain ⟨u, rfl⟩ := Int.eq_ofNat_of_zero_le h
    rw [itoa_nn]
    have hk := okN_digits u (by omega)
    have hd := decFrom_digits u
    have ha := dig_all u
    rcases he : Lib.decDigits u with _ | ⟨c, r⟩
    · exact absurd he (dig_ne u)
    · rw [he] at hk hd ha
      rw [num9, if_neg (dg_ne (ha c (by simp))).1, if_pos hk, hd]
      rfl
theorem num9_some {l : List UInt8} {n : Int} (h : num9 l = some n) : l = Lib.itoa n ∧ -999999999 ≤ n ∧ n ≤ 999999999 := by
  rcases l with _ | ⟨c, r⟩
  · cases h
  · rw [num9] at h
    split at h
    · rename_i hc
      split at h
      · rename_i hk
        cases hd : Lib.decFrom 0 r with
        | none => rw [hd] at h; cases h
        | some m =>
          rw [hd] at h
          injection h with h
          have h : -(m : Int) = n := h
          obtain ⟨e1, e2⟩ := okN_of hk.1 hd
          have h0 : m ≠ 0 := by
            intro e
            rw [e, Lib.decDigits_one (by omega)] at e1
            exact hk.2 e1
          subst h
          rw [itoa_neg m h0, hc, ← e1]
          exact ⟨rfl, by omega, by omega⟩
      · cases h
    · split at h
      · rename_i hk
        cases hd : Lib.decFrom 0 (c :: r) with
        | none => rw [hd] at h; cases h
        | some m =>
          rw [hd] at h
          injection h with h
          have h : (m : Int) = n := h
          obtain ⟨e1, e2⟩ := okN_of hk hd
          subst h
          rw [itoa_nn m, ← e1]
          exact ⟨rfl, by omega, by omega⟩
      · cases h
/-- What Atoi tells, whatever it says beside. -/
def av (l : List UInt8) : Int := match Lib.atoiAll l with
  | .ok v => v
  | .range => Lib.atoiSat l
  | _ => 0
theorem av_itoa (n : Int) (h1 : -999999999 ≤ n) (h2 : n ≤ 999999999) : Lib.atoiAll (Lib.itoa n) = .ok n ∧ av (Lib.itoa n) = n := by
  have key : Lib.atoiAll (Lib.itoa n) = .ok n := by
    rcases Int.lt_or_le n 0 with h | h
    · obtain ⟨u, rfl⟩ : ∃ u : Nat, n = -(u : Int) := ⟨n.natAbs, by omega⟩
      have hl := (dig_len9 u).2 (by omega)
      rw [itoa_neg u (by omega), Lib.atoiAll_short _ (by simp only [List.length_cons]; omega)]
      rw [Lib.atoi, if_pos (by decide), Lib.decNat, if_neg (by simp [dig_ne]), decFrom_digits]
      rfl
    · obtain ⟨u, rfl⟩ := Int.eq_ofNat_of_zero_le h
      have hl := (dig_len9 u).2 (by omega)
      rw [itoa_nn, Lib.atoiAll_short _ (by omega)]
      have hd := decFrom_digits u
      have ha := dig_all u
      rcases he : Lib.decDigits u with _ | ⟨c, r⟩
      · exact absurd he (dig_ne u)
      · rw [he] at hd ha
        have hc := dg_ne (ha c (by simp))
        rw [Lib.atoi, if_neg (by simpa using hc.1), if_neg (by simpa using hc.2.2), Lib.decNat, if_neg (by simp), hd]
        rfl
  exact ⟨key, by unfold av; rw [key]⟩
theorem av_bd (l : List UInt8) : -9223372036854775808 ≤ av l ∧ av l ≤ 9223372036854775807 := by
  unfold av
  split
  · rename_i v h
    exact Lib.atoiAll_bounds h
  · exact Lib.atoiSat_bounds l
  · omega
theorem itoa_no (n : Int) : (32 : UInt8) ∉ Lib.itoa n := by
  rcases Int.lt_or_le n 0 with h | h
  · obtain ⟨u, rfl⟩ : ∃ u : Nat, n = -(u : Int) := ⟨n.natAbs, by omega⟩
    rw [itoa_neg u (by omega)]
    intro hm
    rcases List.mem_cons.1 hm with h1 | h1
    · revert h1; decide
    · exact (dg_ne (dig_all u _ h1)).2.1 rfl
  · obtain ⟨u, rfl⟩ := Int.eq_ofNat_of_zero_le h
    rw [itoa_nn]
    intro hm
    exact (dg_ne (dig_all u _ hm)).2.1 rfl
theorem itoa_no45 (n : Int) (h : 0 ≤ n) : (45 : UInt8) ∉ Lib.itoa n := by
  obtain ⟨u, rfl⟩ := Int.eq_ofNat_of_zero_le h
  rw [itoa_nn]
  intro hm
  exact (dg_ne (dig_all u _ hm)).1 rfl
/-- A number without a minus in its text. -/
theorem num9_nn {l : List UInt8} {n : Int} (h : num9 l = some n) (hl : (45 : UInt8) ∉ l) : 0 ≤ n := by
  rcases Int.lt_or_le n 0 with h0 | h0
  · obtain ⟨u, rfl⟩ : ∃ u : Nat, n = -(u : Int) := ⟨n.natAbs, by omega⟩
    have := (num9_some h).1
    rw [itoa_neg u (by omega)] at this
    exact absurd (by rw [this]; simp) hl
  · exact h0

/-! Lists cut at a byte. -/
theorem cutAt_none (c : UInt8) : ∀ l : List UInt8, c ∉ l → cutAt c l = [l]
  | [], _ => rfl
  | b :: l, h => by
    have hb : b ≠ c := fun e => h (by rw [e]; simp)
    rw [cutAt, if_neg hb, cutAt_none c l (fun hm => h (List.mem_cons_of_mem _ hm))]
theorem cutAt_app (c : UInt8) : ∀ l r : List UInt8, c ∉ l → cutAt c (l ++ c :: r) = l :: cutAt c r
  | [], r, _ => by rw [List.nil_append, cutAt_self]
  | b :: l, r, h => by
    have hb : b ≠ c := fun e => h (by rw [e]; simp)
    rw [List.cons_append, cutAt, if_neg hb, cutAt_app c l r (fun hm => h (List.mem_cons_of_mem _ hm))]
theorem cutAt_no (c : UInt8) : ∀ l : List UInt8, ∀ p ∈ cutAt c l, c ∉ p
  | [], p, hp => by
    rw [cutAt, List.mem_singleton] at hp
    rw [hp]; simp
  | b :: l, p, hp => by
    by_cases hb : b = c
    · rw [hb, cutAt_self] at hp
      rcases List.mem_cons.1 hp with h | h
      · rw [h]; simp
      · exact cutAt_no c l p h
    · obtain ⟨q, qs, h1, h2⟩ := cutAt_cons c b l hb
      have ih := cutAt_no c l
      rw [h1] at ih
      rw [h2] at hp
      rcases List.mem_cons.1 hp with h | h
      · rw [h]
        intro hm
        rcases List.mem_cons.1 hm with h3 | h3
        · exact hb h3.symm
        · exact ih q (by simp) h3
      · exact ih p (List.mem_cons_of_mem _ h)
theorem cutAt_inv1 {c : UInt8} {l a : List UInt8} (h : cutAt c l = [a]) : l = a := by
  induction l generalizing a with
  | nil => rw [cutAt] at h; injection h
  | cons b l ih =>
    by_cases hb : b = c
    · rw [hb, cutAt_self] at h
      injection h with h1 h2
      exact absurd h2 (cutAt_ne c l)
    · obtain ⟨q, qs, h1, h2⟩ := cutAt_cons c b l hb
      rw [h2] at h
      injection h with h3 h4
      rw [h4] at h1
      rw [ih h1, h3]
theorem cutAt_inv {c : UInt8} {l a b : List UInt8} {ps : List (List UInt8)} (h : cutAt c l = a :: b :: ps) : ∃ r, l = a ++ c :: r ∧ cutAt c r = b :: ps := by
  induction l generalizing a with
  | nil => rw [cutAt] at h; injection h with h1 h2; cases h2
  | cons x l ih =>
    by_cases hb : x = c
    · rw [hb, cutAt_self] at h
      injection h with h1 h2
      exact ⟨l, by rw [← h1, hb]; rfl, h2⟩
    · obtain ⟨q, qs, h1, h2⟩ := cutAt_cons c x l hb
      rw [h2] at h
      injection h with h3 h4
      rw [h4] at h1
      obtain ⟨r, e1, e2⟩ := ih h1
      exact ⟨r, by rw [← h3, e1]; rfl, e2⟩
theorem index_app (c : UInt8) : ∀ l r : List UInt8, c ∉ l → Lib.index (l ++ c :: r) [c] = l.length
  | [], r, _ => index_self1 c r
  | b :: l, r, h => by
    have hb : b ≠ c := fun e => h (by rw [e]; simp)
    rw [List.cons_append, index_skip1 c b _ hb, index_app c l r (fun hm => h (List.mem_cons_of_mem _ hm)), if_neg (by simp), List.length_cons]
    omega
theorem index_no (c : UInt8) : ∀ l : List UInt8, c ∉ l → Lib.index l [c] = -1
  | [], _ => rfl
  | b :: l, h => by
    have hb : b ≠ c := fun e => h (by rw [e]; simp)
    rw [index_skip1 c b _ hb, index_no c l (fun hm => h (List.mem_cons_of_mem _ hm)), if_pos (by decide)]
theorem cut_app (c : UInt8) (l r : List UInt8) (h : c ∉ l) : Lib.cut (l ++ c :: r) [c] = (l, r, true) := by
  unfold Lib.cut
  rw [index_app c l r h, if_pos (by omega)]
  have e1 : (l.length : Int).toNat = l.length := by omega
  rw [e1]
  have e2 : l.length + [c].length = l.length + 1 := rfl
  rw [e2, List.take_left', List.drop_append]
  · simp [List.drop_of_length_le]
  · rfl
theorem cut_no (c : UInt8) (l : List UInt8) (h : c ∉ l) : Lib.cut l [c] = (l, [], false) := by
  unfold Lib.cut
  rw [index_no c l h, if_neg (by omega)]

/-! Rules. -/
/-- A rule, plain. -/
structure Rl where
  k : Int
  mo : Int
  n : Int
  wk : Int
  fy : Int
  fm : Int
  fd : Int
  ty : Int
  tm : Int
  td : Int
  deriving DecidableEq
def Rl.nil : Rl := ⟨0, 0, 0, 0, 0, 0, 0, 0, 0, 0⟩
/-- What a rule's kind has of it. -/
def ownR (r : Rl) : Rl :=
  if r.k = 0 then ⟨0, 0, 0, r.wk, 0, 0, 0, 0, 0, 0⟩
  else if r.k = 1 then ⟨1, r.mo, r.n, 0, 0, 0, 0, 0, 0, 0⟩
  else if r.k = 2 then ⟨2, r.mo, r.n, r.wk, 0, 0, 0, 0, 0, 0⟩
  else if r.k = 3 then ⟨3, 0, 0, 0, r.fy, r.fm, r.fd, r.ty, r.tm, r.td⟩
  else Rl.nil
/-- A date may be. -/
def okD (y m d : Int) : Bool := decide (-274877906944 ≤ y ∧ y ≤ 274877906944 ∧ 1 ≤ m ∧ m ≤ 12 ∧ 1 ≤ d ∧ d ≤ mlen y m.toNat)
/-- Its number. -/
def dnr (y m d : Int) : Int := nr y m.toNat d
theorem okD_is {y m d : Int} (h : okD y m d = true) : Is y m.toNat d ∧ (m.toNat : Int) = m ∧ -274877906944 ≤ y ∧ y ≤ 274877906944 := by
  unfold okD at h
  simp only [decide_eq_true_eq] at h
  obtain ⟨h1, h2, h3, h4, h5, h6⟩ := h
  exact ⟨⟨by omega, by omega, h5, h6⟩, by omega, h1, h2⟩
theorem okD_of {y d : Int} {m : Nat} (h : Is y m d) (h1 : -274877906944 ≤ y) (h2 : y ≤ 274877906944) : okD y m d = true := by
  unfold okD
  simp only [decide_eq_true_eq]
  have := h.m1
  have := h.m12
  refine ⟨h1, h2, by omega, by omega, h.d1, ?_⟩
  rw [show (m : Int).toNat = m by omega]
  exact h.dl
def inW (n most : Int) : Bool := decide (0 ≤ n ∧ n ≤ most)
def placeR (n most : Int) : Bool := decide (n ≠ 0 ∧ -most ≤ n ∧ n ≤ most)
/-- Whether what a rule's kind has may be. -/
def fitsR (r : Rl) : Bool :=
  if r.k = 0 then inW r.wk 6
  else if r.k = 1 then inW r.mo 12 && placeR r.n 31
  else if r.k = 2 then inW r.mo 12 && placeR r.n 5 && inW r.wk 6
  else okD r.fy r.fm r.fd && okD r.ty r.tm r.td && decide (dnr r.fy r.fm r.fd ≤ dnr r.ty r.tm r.td) && inW r.fy 9999 && inW r.ty 9999
def mayR (r : Rl) : Bool := decide (r = ownR r) && fitsR r
theorem mayR_iff (r : Rl) : mayR r = true ↔ r = ownR r ∧ fitsR r = true := by
  unfold mayR
  simp
theorem may_cases {r : Rl} (h : mayR r = true) :
    (∃ wk, r = ⟨0, 0, 0, wk, 0, 0, 0, 0, 0, 0⟩ ∧ 0 ≤ wk ∧ wk ≤ 6)
    ∨ (∃ mo n, r = ⟨1, mo, n, 0, 0, 0, 0, 0, 0, 0⟩ ∧ 0 ≤ mo ∧ mo ≤ 12 ∧ n ≠ 0 ∧ -31 ≤ n ∧ n ≤ 31)
    ∨ (∃ mo n wk, r = ⟨2, mo, n, wk, 0, 0, 0, 0, 0, 0⟩ ∧ 0 ≤ mo ∧ mo ≤ 12 ∧ n ≠ 0 ∧ -5 ≤ n ∧ n ≤ 5 ∧ 0 ≤ wk ∧ wk ≤ 6)
    ∨ (∃ fy fm fd ty tm td, r = ⟨3, 0, 0, 0, fy, fm, fd, ty, tm, td⟩ ∧ okD fy fm fd = true ∧ okD ty tm td = true ∧ dnr fy fm fd ≤ dnr ty tm td ∧ 0 ≤ fy ∧ fy ≤ 9999 ∧ 0 ≤ ty ∧ ty ≤ 9999) := by
  obtain ⟨h1, h2⟩ := (mayR_iff r).1 h
  obtain ⟨k, mo, n, wk, fy, fm, fd, ty, tm, td⟩ := r
  unfold ownR at h1
  unfold fitsR at h2
  simp only at h1 h2
  split at h1
  · rename_i hk
    rw [if_pos hk] at h2
    unfold inW at h2
    simp only [decide_eq_true_eq] at h2
    exact .inl ⟨wk, h1, h2.1, h2.2⟩
  · rename_i hk
    rw [if_neg hk] at h2
    split at h1
    · rename_i hk
      rw [if_pos hk] at h2
      unfold inW placeR at h2
      simp only [Bool.and_eq_true, decide_eq_true_eq] at h2
      exact .inr (.inl ⟨mo, n, h1, h2.1.1, h2.1.2, h2.2.1, h2.2.2.1, h2.2.2.2⟩)
    · rename_i hk
      rw [if_neg hk] at h2
      split at h1
      · rename_i hk
        rw [if_pos hk] at h2
        unfold inW placeR at h2
        simp only [Bool.and_eq_true, decide_eq_true_eq] at h2
        exact .inr (.inr (.inl ⟨mo, n, wk, h1, h2.1.1.1, h2.1.1.2, h2.1.2.1, h2.1.2.2.1, h2.1.2.2.2, h2.2.1, h2.2.2⟩))
      · rename_i hk
        rw [if_neg hk] at h2
        split at h1
        · unfold inW at h2
          simp only [Bool.and_eq_true, decide_eq_true_eq] at h2
          exact .inr (.inr (.inr ⟨fy, fm, fd, ty, tm, td, h1, h2.1.1.1.1, h2.1.1.1.2, h2.1.1.2, h2.1.2.1, h2.1.2.2, h2.2.1, h2.2.2⟩))
        · exfalso
          unfold Rl.nil at h1
          injection h1
          contradiction

/-! Texts. -/
def wW : List UInt8 := [119, 101, 101, 107, 100, 97, 121]
def dW : List UInt8 := [100, 97, 121]
def nW : List UInt8 := [110, 116, 104]
def tW : List UInt8 := [100, 97, 116, 101, 115]
def dtx (y m d : Int) : List UInt8 := Lib.itoa y ++ 45 :: (Lib.itoa m ++ 45 :: Lib.itoa d)
/-- The text of a rule that may be. -/
def tx (r : Rl) : List UInt8 :=
  if r.k = 0 then wW ++ 32 :: Lib.itoa r.wk
  else if r.k = 1 then dW ++ 32 :: (Lib.itoa r.mo ++ 32 :: Lib.itoa r.n)
  else if r.k = 2 then nW ++ 32 :: (Lib.itoa r.mo ++ 32 :: (Lib.itoa r.n ++ 32 :: Lib.itoa r.wk))
  else tW ++ 32 :: (dtx r.fy r.fm r.fd ++ 32 :: dtx r.ty r.tm r.td)
/-- What is left of a text behind k pieces; the number that piece k tells. -/
def rst (c : UInt8) (s : List UInt8) : Nat → List UInt8
  | 0 => s
  | k + 1 => (Lib.cut (rst c s k) [c]).2.1
def fld (c : UInt8) (s : List UInt8) (k : Nat) : Int := av (Lib.cut (rst c s k) [c]).1
/-- The rule that a text tells, if it is one's. -/
def rd (s : List UInt8) : Rl :=
  let w := (Lib.cut s [32]).1
  let r := (Lib.cut s [32]).2.1
  let a := (Lib.cut r [32]).1
  let b := (Lib.cut r [32]).2.1
  if w = wW then ⟨0, 0, 0, fld 32 r 0, 0, 0, 0, 0, 0, 0⟩
  else if w = dW then ⟨1, fld 32 r 0, fld 32 r 1, 0, 0, 0, 0, 0, 0, 0⟩
  else if w = nW then ⟨2, fld 32 r 0, fld 32 r 1, fld 32 r 2, 0, 0, 0, 0, 0, 0⟩
  else if w = tW then ⟨3, 0, 0, 0, fld 45 a 0, fld 45 a 1, fld 45 a 2, fld 45 b 0, fld 45 b 1, fld 45 b 2⟩
  else Rl.nil
theorem dtx_no {y m d : Int} : (32 : UInt8) ∉ dtx y m d := by
  unfold dtx
  simp only [List.mem_append, List.mem_cons, not_or]
  exact ⟨itoa_no y, by decide, itoa_no m, by decide, itoa_no d⟩
theorem fld1 (c : UInt8) (s : List UInt8) (h : c ∉ s) : fld c s 0 = av s := by
  unfold fld rst
  rw [cut_no c s h]
theorem rst1 (c : UInt8) (a b : List UInt8) (h : c ∉ a) : rst c (a ++ c :: b) 1 = b ∧ fld c (a ++ c :: b) 0 = av a := by
  unfold fld
  simp only [rst, cut_app c a b h, and_self]
theorem rst2 (c : UInt8) (a b : List UInt8) (h : c ∉ a) (hb : c ∉ b) : fld c (a ++ c :: b) 1 = av b := by
  have h1 := (rst1 c a b h).1
  unfold fld
  rw [h1, cut_no c b hb]
theorem rst3 (c : UInt8) (a b d : List UInt8) (h : c ∉ a) (hb : c ∉ b) (hd : c ∉ d) : fld c (a ++ c :: (b ++ c :: d)) 1 = av b ∧ fld c (a ++ c :: (b ++ c :: d)) 2 = av d := by
  have h1 := (rst1 c a (b ++ c :: d) h).1
  have h2 : rst c (a ++ c :: (b ++ c :: d)) 2 = d := by
    show (Lib.cut (rst c (a ++ c :: (b ++ c :: d)) 1) [c]).2.1 = d
    rw [h1, cut_app c b d hb]
  unfold fld
  rw [h1, h2, cut_app c b d hb, cut_no c d hd]
  exact ⟨rfl, rfl⟩
theorem okD_bd {y m d : Int} (h : okD y m d = true) (_h1 : 0 ≤ y) (_h2 : y ≤ 9999) : 0 ≤ m ∧ m ≤ 12 ∧ 0 ≤ d ∧ d ≤ 31 := by
  obtain ⟨hi, e, _, _⟩ := okD_is h
  have := hi.m12
  have := hi.d1
  have := hi.dl
  have := mlen_le (y := y) hi.m1 hi.m12
  omega
theorem date_rd {y m d : Int} (h : okD y m d = true) (h1 : 0 ≤ y) (h2 : y ≤ 9999) : fld 45 (dtx y m d) 0 = y ∧ fld 45 (dtx y m d) 1 = m ∧ fld 45 (dtx y m d) 2 = d := by
  obtain ⟨b1, b2, b3, b4⟩ := okD_bd h h1 h2
  unfold dtx
  obtain ⟨e1, e2⟩ := rst3 45 (Lib.itoa y) (Lib.itoa m) (Lib.itoa d) (itoa_no45 y h1) (itoa_no45 m b1) (itoa_no45 d b3)
  rw [(rst1 45 (Lib.itoa y) _ (itoa_no45 y h1)).2, e1, e2, (av_itoa y (by omega) (by omega)).2, (av_itoa m (by omega) (by omega)).2, (av_itoa d (by omega) (by omega)).2]
  exact ⟨rfl, rfl, rfl⟩
/-- The rule of a rule's text is it. -/
theorem rd_tx {r : Rl} (h : mayR r = true) : rd (tx r) = r := by
  rcases may_cases h with ⟨wk, rfl, h1, h2⟩ | ⟨mo, n, rfl, h1, h2, h3, h4, h5⟩ | ⟨mo, n, wk, rfl, h1, h2, h3, h4, h5, h6, h7⟩ | ⟨fy, fm, fd, ty, tm, td, rfl, h1, h2, h3, h4, h5, h6, h7⟩
  · unfold tx
    simp only [if_true]
    unfold rd
    simp only [cut_app 32 wW _ (by decide), if_true, fld1 32 _ (itoa_no wk), (av_itoa wk (by omega) (by omega)).2]
  · unfold tx
    simp only [show ((1 : Int) = 0) = False by simp, if_false, if_true]
    unfold rd
    simp only [cut_app 32 dW _ (by decide), show (dW = wW) = False by simp [dW, wW], if_false, if_true, (rst1 32 (Lib.itoa mo) (Lib.itoa n) (itoa_no mo)).2, rst2 32 (Lib.itoa mo) (Lib.itoa n) (itoa_no mo) (itoa_no n), (av_itoa mo (by omega) (by omega)).2, (av_itoa n (by omega) (by omega)).2]
  · unfold tx
    simp only [show ((2 : Int) = 0) = False by simp, show ((2 : Int) = 1) = False by simp, if_false, if_true]
    unfold rd
    obtain ⟨e1, e2⟩ := rst3 32 (Lib.itoa mo) (Lib.itoa n) (Lib.itoa wk) (itoa_no mo) (itoa_no n) (itoa_no wk)
    simp only [cut_app 32 nW _ (by decide), show (nW = wW) = False by simp [nW, wW], show (nW = dW) = False by simp [nW, dW], if_false, if_true, (rst1 32 (Lib.itoa mo) _ (itoa_no mo)).2, e1, e2, (av_itoa mo (by omega) (by omega)).2, (av_itoa n (by omega) (by omega)).2, (av_itoa wk (by omega) (by omega)).2]
  · unfold tx
    simp only [show ((3 : Int) = 0) = False by simp, show ((3 : Int) = 1) = False by simp, show ((3 : Int) = 2) = False by simp, if_false]
    unfold rd
    obtain ⟨a1, a2, a3⟩ := date_rd h1 h4 h5
    obtain ⟨b1, b2, b3⟩ := date_rd h2 h6 h7
    simp only [cut_app 32 tW _ (by decide), show (tW = wW) = False by simp [tW, wW], show (tW = dW) = False by simp [tW, dW], show (tW = nW) = False by simp [tW, nW], if_false, if_true, cut_app 32 (dtx fy fm fd) (dtx ty tm td) dtx_no, a1, a2, a3, b1, b2, b3]

/-- The date of a text. -/
noncomputable def prD (s : List UInt8) : Option (Int × Int × Int) :=
  match cutAt 45 s with
  | [a, b, c] => match num9 a, num9 b, num9 c with
    | some y, some m, some d => some (y, m, d)
    | _, _, _ => none
  | _ => none
def chkR (r : Rl) : Option Rl := if mayR r = true then some r else none
/-- The document's rule of a text. -/
noncomputable def pr (s : List UInt8) : Option Rl :=
  match cutAt 32 s with
  | [w, a] => if w = wW then (match num9 a with
      | some x => chkR ⟨0, 0, 0, x, 0, 0, 0, 0, 0, 0⟩
      | none => none) else none
  | [w, a, b] => if w = dW then (match num9 a, num9 b with
      | some x, some y => chkR ⟨1, x, y, 0, 0, 0, 0, 0, 0, 0⟩
      | _, _ => none)
    else if w = tW then (match prD a, prD b with
      | some (x, y, z), some (u, v, t) => chkR ⟨3, 0, 0, 0, x, y, z, u, v, t⟩
      | _, _ => none) else none
  | [w, a, b, c] => if w = nW then (match num9 a, num9 b, num9 c with
      | some x, some y, some z => chkR ⟨2, x, y, z, 0, 0, 0, 0, 0, 0⟩
      | _, _, _ => none) else none
  | _ => none
theorem cutAt_2 {c : UInt8} {l a b : List UInt8} (h : cutAt c l = [a, b]) : l = a ++ c :: b := by
  obtain ⟨r, h1, h2⟩ := cutAt_inv h
  rw [h1, cutAt_inv1 h2]
theorem cutAt_3 {c : UInt8} {l a b d : List UInt8} (h : cutAt c l = [a, b, d]) : l = a ++ c :: (b ++ c :: d) := by
  obtain ⟨r, h1, h2⟩ := cutAt_inv h
  rw [h1, cutAt_2 h2]
theorem cutAt_4 {c : UInt8} {l a b d e : List UInt8} (h : cutAt c l = [a, b, d, e]) : l = a ++ c :: (b ++ c :: (d ++ c :: e)) := by
  obtain ⟨r, h1, h2⟩ := cutAt_inv h
  rw [h1, cutAt_3 h2]
theorem prD_some {s : List UInt8} {x y z : Int} (h : prD s = some (x, y, z)) : s = dtx x y z := by
  unfold prD at h
  split at h
  · rename_i a b c hc
    split at h
    · rename_i u v t h1 h2 h3
      injection h with h
      injection h with e1 h
      injection h with e2 e3
      subst e1 e2 e3
      rw [cutAt_3 hc, (num9_some h1).1, (num9_some h2).1, (num9_some h3).1]
      rfl
    · cases h
  · cases h
theorem prD_dtx {y m d : Int} (h : okD y m d = true) (h1 : 0 ≤ y) (h2 : y ≤ 9999) : prD (dtx y m d) = some (y, m, d) := by
  obtain ⟨b1, b2, b3, b4⟩ := okD_bd h h1 h2
  unfold prD dtx
  rw [cutAt_app 45 _ _ (itoa_no45 y h1), cutAt_app 45 _ _ (itoa_no45 m b1), cutAt_none 45 _ (itoa_no45 d b3)]
  simp only [num9_itoa y (by omega) (by omega), num9_itoa m (by omega) (by omega), num9_itoa d (by omega) (by omega)]
theorem chkR_some {r y : Rl} (h : chkR r = some y) : r = y ∧ mayR y = true := by
  unfold chkR at h
  split at h
  · injection h with h
    subst h
    exact ⟨rfl, by assumption⟩
  · cases h
theorem pr_some {s : List UInt8} {y : Rl} (h : pr s = some y) : mayR y = true ∧ tx y = s := by
  unfold pr at h
  split at h
  · rename_i w a hc
    split at h
    · rename_i hw
      split at h
      · rename_i x hx
        obtain ⟨rfl, hm⟩ := chkR_some h
        refine ⟨hm, ?_⟩
        rw [cutAt_2 hc, hw, (num9_some hx).1]
        rfl
      · cases h
    · cases h
  · rename_i w a b hc
    split at h
    · rename_i hw
      split at h
      · rename_i x y hx hy
        obtain ⟨rfl, hm⟩ := chkR_some h
        refine ⟨hm, ?_⟩
        rw [cutAt_3 hc, hw, (num9_some hx).1, (num9_some hy).1]
        rfl
      · cases h
    · split at h
      · rename_i hw
        split at h
        · rename_i x y z u v t hx hy
          obtain ⟨rfl, hm⟩ := chkR_some h
          refine ⟨hm, ?_⟩
          rw [cutAt_3 hc, hw, prD_some hx, prD_some hy]
          rfl
        · cases h
      · cases h
  · rename_i w a b c hc
    split at h
    · rename_i hw
      split at h
      · rename_i x y z hx hy hz
        obtain ⟨rfl, hm⟩ := chkR_some h
        refine ⟨hm, ?_⟩
        rw [cutAt_4 hc, hw, (num9_some hx).1, (num9_some hy).1, (num9_some hz).1]
        rfl
      · cases h
    · cases h
  · cases h
theorem chkR_may {r : Rl} (h : mayR r = true) : chkR r = some r := if_pos h
theorem pr_tx {r : Rl} (h : mayR r = true) : pr (tx r) = some r := by
  have hm := h
  rcases may_cases h with ⟨wk, rfl, h1, h2⟩ | ⟨mo, n, rfl, h1, h2, h3, h4, h5⟩ | ⟨mo, n, wk, rfl, h1, h2, h3, h4, h5, h6, h7⟩ | ⟨fy, fm, fd, ty, tm, td, rfl, h1, h2, h3, h4, h5, h6, h7⟩
  · unfold tx pr
    simp only [if_true, cutAt_app 32 wW _ (by decide), cutAt_none 32 _ (itoa_no wk), num9_itoa wk (by omega) (by omega)]
    exact chkR_may hm
  · unfold tx pr
    simp only [show ((1 : Int) = 0) = False by simp, if_false, if_true, cutAt_app 32 dW _ (by decide), cutAt_app 32 _ _ (itoa_no mo), cutAt_none 32 _ (itoa_no n), num9_itoa mo (by omega) (by omega), num9_itoa n (by omega) (by omega)]
    exact chkR_may hm
  · unfold tx pr
    simp only [show ((2 : Int) = 0) = False by simp, show ((2 : Int) = 1) = False by simp, if_false, if_true, cutAt_app 32 nW _ (by decide), cutAt_app 32 _ _ (itoa_no mo), cutAt_app 32 _ _ (itoa_no n), cutAt_none 32 _ (itoa_no wk), num9_itoa mo (by omega) (by omega), num9_itoa n (by omega) (by omega), num9_itoa wk (by omega) (by omega)]
    exact chkR_may hm
  · unfold tx pr
    simp only [show ((3 : Int) = 0) = False by simp, show ((3 : Int) = 1) = False by simp, show ((3 : Int) = 2) = False by simp, if_false, if_true, cutAt_app 32 tW _ (by decide), cutAt_app 32 _ _ (dtx_no (y := fy) (m := fm) (d := fd)), cutAt_none 32 _ (dtx_no (y := ty) (m := tm) (d := td)), show (tW = dW) = False by simp [tW, dW], prD_dtx h1 h4 h5, prD_dtx h2 h6 h7]
    exact chkR_may hm
/-- The program's Parse and the document's take the same. -/
theorem rd_some {s : List UInt8} {y : Rl} (h : pr s = some y) : rd s = y ∧ mayR y = true ∧ tx y = s := by
  obtain ⟨h1, h2⟩ := pr_some h
  exact ⟨by rw [← h2]; exact rd_tx h1, h1, h2⟩
theorem rd_none {s : List UInt8} (h : pr s = none) (hm : mayR (rd s) = true) : tx (rd s) ≠ s := by
  intro e
  have := pr_tx hm
  rw [e, h] at this
  cases this

/-! Days that are meant. -/
def hitsR (r : Rl) (y : Int) (m : Nat) (d n : Int) : Bool :=
  if r.k = 0 then decide (wd n = r.wk)
  else if r.k = 1 then decide (r.mo = 0 ∨ r.mo = m) && decide (r.n = d ∨ r.n = -(mlen y m - d + 1))
  else if r.k = 2 then decide (wd n = r.wk) && (decide (r.mo = 0 ∨ r.mo = m) && decide (r.n = (d - 1) / 7 + 1 ∨ r.n = -((mlen y m - d) / 7 + 1)))
  else decide (dnr r.fy r.fm r.fd ≤ n ∧ n ≤ dnr r.ty r.tm r.td)
end Go.Proofs.YtjfmnflcgenpaaaDoor

/- CkMath, CvMath, RlMath, PdMath, PdBits, PdCan, in one text. -/
import Derived.Test.YtlogapkpllgdcaaGreatDoorBase
import Derived.Lib.ItoaNum
import Derived.Lib.SplitLaws
import Derived.Lib.IndexMore
import Derived.Lib.AtoiTie
import Derived.Lib.ItoaMem
import Derived.Lib.TrailingZeros
/- Layer 5's texts of seconds, plain lists: two digits, a second's text, a list cut at a byte. -/
namespace Go.Proofs.YtlogapkpllgdcaaGreatDoor

abbrev Bs' := List UInt8
/-- Two digits. -/
def d2 (n : Nat) : Bs' := [UInt8.ofNat (48 + n / 10), UInt8.ofNat (48 + n % 10)]
/-- A second's text, and the short one. -/
def tx8 (h m s : Nat) : Bs' := d2 h ++ 58 :: (d2 m ++ 58 :: d2 s)
def tx5 (h m : Nat) : Bs' := d2 h ++ 58 :: d2 m
def isDg (c : UInt8) : Bool := 48 ≤ c.toNat && c.toNat ≤ 57
/-- What two digits tell. -/
def num2 : Bs' → Option Nat
  | [a, b] => if (isDg a && isDg b) = true then some ((a.toNat - 48) * 10 + (b.toNat - 48)) else none
  | _ => none
theorem u8_of (c : UInt8) (n : Nat) (h : c.toNat = n) : c = UInt8.ofNat n := by
  subst h
  simp
theorem num2_d2 (n : Nat) (h : n < 100) : num2 (d2 n) = some n := by
  have h1 : (UInt8.ofNat (48 + n / 10)).toNat = 48 + n / 10 := by
    rw [UInt8.toNat_ofNat']; omega
  have h2 : (UInt8.ofNat (48 + n % 10)).toNat = 48 + n % 10 := by
    rw [UInt8.toNat_ofNat']; omega
  unfold num2 d2 isDg
  simp only [h1, h2]
  rw [if_pos (by simp; omega)]
  congr 1
  omega
theorem num2_some {l : Bs'} {n : Nat} (h : num2 l = some n) : n < 100 ∧ l = d2 n := by
  unfold num2 at h
  split at h
  · rename_i a b
    split at h
    · rename_i hd
      unfold isDg at hd
      simp at hd
      injection h with h
      refine ⟨by omega, ?_⟩
      unfold d2
      rw [← u8_of a (48 + n / 10) (by omega), ← u8_of b (48 + n % 10) (by omega)]
    · cases h
  · cases h
theorem num2_len {l : Bs'} (h : l.length ≠ 2) : num2 l = none := by
  unfold num2
  split
  · simp at h
  · rfl
theorem d2_ne (n : Nat) (h : n < 100) : UInt8.ofNat (48 + n / 10) ≠ 58 ∧ UInt8.ofNat (48 + n % 10) ≠ 58 := by
  constructor
  · intro e
    have := congrArg UInt8.toNat e
    rw [UInt8.toNat_ofNat'] at this
    have e58 : (58 : UInt8).toNat = 58 := rfl
    omega
  · intro e
    have := congrArg UInt8.toNat e
    rw [UInt8.toNat_ofNat'] at this
    have e58 : (58 : UInt8).toNat = 58 := rfl
    omega

/-! A list cut at each byte c. -/
def cutAt (c : UInt8) : Bs' → List Bs'
  | [] => [[]]
  | b :: l => if b = c then [] :: cutAt c l else match cutAt c l with
    | [] => [[b]]
    | p :: ps => (b :: p) :: ps
theorem cutAt_ne (c : UInt8) (l : Bs') : cutAt c l ≠ [] := by
  cases l with
  | nil => simp [cutAt]
  | cons b l =>
    unfold cutAt
    split
    · simp
    · split <;> simp
theorem cutAt_cons (c b : UInt8) (l : Bs') (h : b ≠ c) : ∃ p ps, cutAt c l = p :: ps ∧ cutAt c (b :: l) = (b :: p) :: ps := by
  rcases hc : cutAt c l with _ | ⟨p, ps⟩
  · exact absurd hc (cutAt_ne c l)
  · refine ⟨p, ps, rfl, ?_⟩
    rw [cutAt, if_neg h, hc]
theorem cutAt_self (c : UInt8) (l : Bs') : cutAt c (c :: l) = [] :: cutAt c l := by rw [cutAt, if_pos rfl]
theorem index_self1 (c : UInt8) (l : Bs') : Lib.index (c :: l) [c] = 0 := by
  unfold Lib.index
  rw [if_pos (by simp [List.isPrefixOf])]
theorem index_skip1 (c b : UInt8) (l : Bs') (h : b ≠ c) : Lib.index (b :: l) [c] = if Lib.index l [c] == -1 then -1 else Lib.index l [c] + 1 := by
  conv => lhs; unfold Lib.index
  rw [if_neg (by simp [List.isPrefixOf]; exact fun e => h e.symm)]
theorem index_count (c : UInt8) : ∀ l : Bs', (Lib.index l [c] = -1 ∧ l.count c = 0) ∨ (∃ i : Nat, Lib.index l [c] = i ∧ 1 ≤ l.count c)
  | [] => .inl ⟨rfl, rfl⟩
  | b :: l => by
    by_cases h : b = c
    · subst h
      exact .inr ⟨0, index_self1 b l, by rw [List.count_cons_self]; omega⟩
    · rw [List.count_cons_of_ne h, index_skip1 c b l h]
      rcases index_count c l with ⟨h1, h2⟩ | ⟨i, h1, h2⟩
      · exact .inl ⟨by rw [h1]; rfl, h2⟩
      · refine .inr ⟨i + 1, ?_, h2⟩
        rw [h1, if_neg (show ¬ ((i : Int) == -1) = true by simp)]
        omega
theorem splitK_cut (c : UInt8) : ∀ l : Bs', Lib.splitK [c] 0 (l.count c) l = cutAt c l
  | [] => rfl
  | b :: l => by
    by_cases h : b = c
    · subst h
      rw [List.count_cons_self, cutAt_self, Lib.splitK, index_self1, if_neg (by decide)]
      simp
      exact splitK_cut b l
    · have ih := splitK_cut c l
      obtain ⟨p, ps, h1, h2⟩ := cutAt_cons c b l h
      rw [h1] at ih
      rw [List.count_cons_of_ne h, h2]
      rcases index_count c l with ⟨e1, e2⟩ | ⟨i, e1, e2⟩
      · rw [e2] at ih ⊢
        unfold Lib.splitK at ih ⊢
        simp only [List.cons.injEq] at ih
        obtain ⟨rfl, rfl⟩ := ih
        rfl
      · obtain ⟨k, hk⟩ : ∃ k, l.count c = k + 1 := ⟨l.count c - 1, by omega⟩
        rw [hk] at ih ⊢
        unfold Lib.splitK at ih ⊢
        rw [index_skip1 c b l h]
        rw [e1] at ih ⊢
        rw [if_neg (show ¬ ((i : Int) == -1) = true by simp)] at ih
        rw [if_neg (show ¬ ((i : Int) == -1) = true by simp)]
        rw [if_neg (show ¬ ((i : Int) + 1 == -1) = true by simp; omega)]
        rw [show ((i : Int) + 1).toNat = i + 1 by omega]
        rw [show ((i : Int)).toNat = i by omega] at ih
        simp only [List.cons.injEq, Nat.add_zero, List.take_succ_cons, true_and, List.length_cons, List.length_nil] at ih ⊢
        obtain ⟨rfl, rfl⟩ := ih
        refine ⟨rfl, ?_⟩
        rw [show i + 1 + (0 + 1) = (i + 1) + 1 by omega, List.drop_succ_cons]
theorem split_cut (c : UInt8) (l : Bs') : Lib.split l [c] = cutAt c l := by
  unfold Lib.split
  rw [Lib.count_one]
  exact splitK_cut c l
theorem cutAt_length (c : UInt8) : ∀ l : Bs', (cutAt c l).length = l.count c + 1
  | [] => rfl
  | b :: l => by
    by_cases h : b = c
    · subst h
      rw [cutAt_self, List.count_cons_self, List.length_cons, cutAt_length b l]
    · obtain ⟨p, ps, h1, h2⟩ := cutAt_cons c b l h
      have := cutAt_length c l
      rw [h1] at this
      rw [h2, List.count_cons_of_ne h]
      exact this

/-- What the pieces tell together. -/
def pg : List Bs' → Nat → Nat → Option Nat
  | [], _, n => some n
  | p :: ps, i, n => match num2 p with
    | none => none
    | some v => if 0 < i ∧ 60 ≤ v then none else pg ps (i + 1) (n * 60 + v)
theorem pg_none (p : Bs') (ps : List Bs') (i n : Nat) (h : num2 p = none) : pg (p :: ps) i n = none := by simp [pg, h]
theorem pg_some (p : Bs') (ps : List Bs') (i n v : Nat) (h : num2 p = some v) : pg (p :: ps) i n = if 0 < i ∧ 60 ≤ v then none else pg ps (i + 1) (n * 60 + v) := by simp [pg, h]
theorem cut_end (n : Nat) (h : n < 100) : cutAt 58 (d2 n) = [d2 n] := by
  obtain ⟨h1, h2⟩ := d2_ne n h
  unfold d2
  rw [cutAt, if_neg h1, cutAt, if_neg h2, cutAt]
theorem cut_more (n : Nat) (h : n < 100) (l : Bs') : cutAt 58 (d2 n ++ 58 :: l) = d2 n :: cutAt 58 l := by
  obtain ⟨h1, h2⟩ := d2_ne n h
  unfold d2
  simp only [List.cons_append, List.nil_append]
  rw [cutAt, if_neg h1, cutAt, if_neg h2, cutAt_self]
/-- A list whose pieces tell a number begins with two digits. -/
theorem pg_cut {l : Bs'} {i n r : Nat} (h : pg (cutAt 58 l) i n = some r) :
    ∃ v, v < 100 ∧ ¬ (0 < i ∧ 60 ≤ v) ∧ ((l = d2 v ∧ r = n * 60 + v) ∨ ∃ l', l = d2 v ++ 58 :: l' ∧ pg (cutAt 58 l') (i + 1) (n * 60 + v) = some r) := by
  have key : ∀ {p : Bs'} {ps : List Bs'}, cutAt 58 l = p :: ps → ∃ v, v < 100 ∧ p = d2 v ∧ ¬ (0 < i ∧ 60 ≤ v) ∧ pg ps (i + 1) (n * 60 + v) = some r := by
    intro p ps e
    rw [e] at h
    cases hn : num2 p with
    | none => rw [pg_none _ _ _ _ hn] at h; cases h
    | some v =>
      rw [pg_some _ _ _ _ _ hn] at h
      split at h
      · cases h
      · exact ⟨v, (num2_some hn).1, (num2_some hn).2, by assumption, h⟩
  rcases l with _ | ⟨a, _ | ⟨b, l⟩⟩
  · obtain ⟨v, _, e, _⟩ := key (p := []) (ps := []) rfl
    unfold d2 at e
    cases e
  · by_cases ha : a = 58
    · subst ha
      obtain ⟨v, _, e, _⟩ := key (cutAt_self 58 _)
      unfold d2 at e
      cases e
    · obtain ⟨v, _, e, _⟩ := key (p := [a]) (ps := []) (by rw [cutAt, if_neg ha]; rfl)
      unfold d2 at e
      cases e
  · by_cases ha : a = 58
    · subst ha
      obtain ⟨v, _, e, _⟩ := key (cutAt_self 58 _)
      unfold d2 at e
      cases e
    · by_cases hb : b = 58
      · subst hb
        obtain ⟨v, _, e, _⟩ := key (p := [a]) (ps := cutAt 58 l) (by rw [cutAt, if_neg ha, cutAt_self])
        unfold d2 at e
        cases e
      · rcases l with _ | ⟨c, l⟩
        · obtain ⟨v, hv, e, hi, hp⟩ := key (p := [a, b]) (ps := []) (by rw [cutAt, if_neg ha, cutAt, if_neg hb]; rfl)
          refine ⟨v, hv, hi, .inl ⟨e, ?_⟩⟩
          unfold pg at hp
          injection hp with hp
          exact hp.symm
        · by_cases hc : c = 58
          · subst hc
            obtain ⟨v, hv, e, hi, hp⟩ := key (p := [a, b]) (ps := cutAt 58 l) (by rw [cutAt, if_neg ha, cutAt, if_neg hb, cutAt_self])
            refine ⟨v, hv, hi, .inr ⟨l, ?_, hp⟩⟩
            rw [← e]
            rfl
          · obtain ⟨p, ps, _, e2⟩ := cutAt_cons 58 c l hc
            obtain ⟨v, hv, e, hi, hp⟩ := key (p := a :: b :: c :: p) (ps := ps) (by rw [cutAt, if_neg ha, cutAt, if_neg hb, e2])
            unfold d2 at e
            cases e
theorem pg_tx8 (h m s : Nat) (h1 : h < 100) (h2 : m < 60) (h3 : s < 60) : pg (cutAt 58 (tx8 h m s)) 0 0 = some (3600 * h + 60 * m + s) := by
  unfold tx8
  rw [cut_more h h1, cut_more m (by omega), cut_end s (by omega), pg_some _ _ _ _ _ (num2_d2 h h1), if_neg (by omega), pg_some _ _ _ _ _ (num2_d2 m (by omega)), if_neg (by omega), pg_some _ _ _ _ _ (num2_d2 s (by omega)), if_neg (by omega)]
  unfold pg
  congr 1
  omega
theorem d2_len (n : Nat) : (d2 n).length = 2 := rfl
/-- Eight bytes whose pieces tell a number are a text. -/
theorem pg_form {l : Bs'} {r : Nat} (hl : l.length = 8) (h : pg (cutAt 58 l) 0 0 = some r) : ∃ a m s, a < 100 ∧ m < 60 ∧ s < 60 ∧ l = tx8 a m s ∧ r = 3600 * a + 60 * m + s := by
  obtain ⟨a, ha, _, ⟨rfl, _⟩ | ⟨l1, rfl, h1⟩⟩ := pg_cut h
  · simp [d2_len] at hl
  · obtain ⟨m, hm, hm2, ⟨rfl, _⟩ | ⟨l2, rfl, h2⟩⟩ := pg_cut h1
    · simp [d2_len] at hl
    · obtain ⟨s, hs, hs2, ⟨rfl, rfl⟩ | ⟨l3, rfl, h3⟩⟩ := pg_cut h2
      · exact ⟨a, m, s, ha, by omega, by omega, rfl, by omega⟩
      · simp only [List.length_append, List.length_cons, d2_len] at hl
        omega

/-! Digits, one ahead of the other. -/
def dgs (m least : Nat) (tail : Bs') : Bs' :=
  if 0 < m ∨ tail.length < least then dgs (m / 10) least (UInt8.ofNat (48 + m % 10) :: tail) else tail
termination_by m + (least - tail.length)
decreasing_by
  simp only [List.length_cons]
  omega
theorem dgs_go (m least : Nat) (tail : Bs') (h : 0 < m ∨ tail.length < least) : dgs m least tail = dgs (m / 10) least (UInt8.ofNat (48 + m % 10) :: tail) := by rw [dgs, if_pos h]
theorem dgs_end (m least : Nat) (tail : Bs') (h : ¬ (0 < m ∨ tail.length < least)) : dgs m least tail = tail := by rw [dgs, if_neg h]
theorem dgs_more (least : Nat) : ∀ (n m : Nat), m ≤ n → 1 ≤ m → ∀ tail : Bs', least ≤ tail.length + 1 → dgs m least tail = Lib.decDigits m ++ tail
  | 0, m, h, h1, _, _ => by omega
  | n + 1, m, h, h1, tail, hl => by
    rw [dgs_go _ _ _ (.inl h1)]
    by_cases h10 : m < 10
    · rw [dgs_end _ _ _ (by simp; omega), Lib.decDigits_one h10, show m % 10 = m by omega]
      rfl
    · rw [dgs_more least n (m / 10) (by omega) (by omega) _ (by simp; omega)]
      rw [Lib.decDigits.eq_1 m, dif_neg h10, List.append_assoc]
      rfl
theorem dgs_one (m : Nat) (h : 1 ≤ m) : dgs m 1 [] = Lib.decDigits m := by
  rw [dgs_more 1 m m (Nat.le_refl _) h [] (by simp), List.append_nil]
theorem dgs_two (m : Nat) (h : m < 100) : dgs m 2 [] = d2 m := by
  rw [dgs_go _ _ _ (.inr (by simp)), dgs_go _ _ _ (.inr (by simp)), dgs_end _ _ _ (by simp; omega)]
  unfold d2
  rw [show m / 10 % 10 = m / 10 by omega]
theorem digits_at (r : Nat) (h : r < 10) : ("0123456789".toUTF8.data.toList.drop r).take (r + 1 - r) = [UInt8.ofNat (48 + r)] := by
  have : ∀ i : Fin 10, ("0123456789".toUTF8.data.toList.drop i).take (i + 1 - i) = [UInt8.ofNat (48 + i.val)] := by decide
  exact this ⟨r, h⟩
end Go.Proofs.YtlogapkpllgdcaaGreatDoor
/- Layer 4's days and dates, plain arithmetic: leap years, where years begin, months' lengths, the weekday. -/
namespace Go.Proofs.YtlogapkpllgdcaaGreatDoor

/-- A leap year. -/
def leapB (y : Int) : Bool := decide ((y % 4 = 0 ∧ y % 100 ≠ 0) ∨ y % 400 = 0)
def leapN (y : Int) : Int := if leapB y = true then 1 else 0
theorem leapN_eq (y : Int) : leapN y = if (y % 4 = 0 ∧ y % 100 ≠ 0) ∨ y % 400 = 0 then 1 else 0 := by
  unfold leapN leapB
  simp only [decide_eq_true_eq]
theorem leapN_le (y : Int) : 0 ≤ leapN y ∧ leapN y ≤ 1 := by unfold leapN; split <;> omega
theorem leapN_true {y : Int} (h : leapB y = true) : leapN y = 1 := if_pos h
theorem leapN_false {y : Int} (h : leapB y = false) : leapN y = 0 := if_neg (by rw [h]; decide)
theorem leapB_400 (y q : Int) : leapB (y + 400 * q) = leapB y := by
  unfold leapB
  rw [decide_eq_decide]
  omega
theorem leapN_400 (y q : Int) : leapN (y + 400 * q) = leapN y := by unfold leapN; rw [leapB_400]
/-- Where a year begins. -/
def bgn (y : Int) : Int := (y - 1) * 365 + ((y - 1) / 4 - (y - 1) / 100 + (y - 1) / 400) - 719162
theorem bgn_1970 : bgn 1970 = 0 := by decide
theorem bgn_succ (y : Int) : bgn (y + 1) = bgn y + 365 + leapN y := by
  rw [leapN_eq]
  unfold bgn
  split <;> omega
theorem bgn_400 (y q : Int) : bgn (y + 400 * q) = bgn y + 146097 * q := by unfold bgn; omega
theorem bgn_nat (a : Int) (k : Nat) : bgn a + 365 * k ≤ bgn (a + k) := by
  induction k with
  | zero => simp
  | succ k ih =>
    have h := bgn_succ (a + k)
    have := leapN_le (a + k)
    have e : a + ((k + 1 : Nat) : Int) = a + k + 1 := by omega
    rw [e]
    omega
theorem bgn_le {a b : Int} (h : a ≤ b) : bgn a + 365 * (b - a) ≤ bgn b := by
  have h1 := bgn_nat a (b - a).toNat
  have e : a + ((b - a).toNat : Int) = b := by omega
  rw [e] at h1
  omega
/-- A year is told by a day that lies in it. -/
theorem bgn_one {a b n : Int} (h1 : bgn a ≤ n) (h2 : n < bgn (a + 1)) (h3 : bgn b ≤ n) (h4 : n < bgn (b + 1)) : a = b := by
  rcases Int.lt_trichotomy a b with h | h | h
  · have := bgn_le (show a + 1 ≤ b by omega); omega
  · exact h
  · have := bgn_le (show b + 1 ≤ a by omega); omega

theorem year_ex (n : Int) : ∃ Y, bgn Y ≤ n ∧ n < bgn (Y + 1) := by
  have h0 : ∀ z : Int, 400 * (bgn z) ≤ 146097 * (z - 1970) + 100000 ∧ 146097 * (z - 1970) - 100000 ≤ 400 * bgn z := by
    intro z
    unfold bgn
    omega
  have h1 := h0 (1970 + n * 400 / 146097 - 1)
  have h2 := h0 (1970 + n * 400 / 146097 + 1 + 1)
  by_cases a : n < bgn (1970 + n * 400 / 146097)
  · refine ⟨1970 + n * 400 / 146097 - 1, by omega, ?_⟩
    rw [Int.sub_add_cancel]
    exact a
  · by_cases b : bgn (1970 + n * 400 / 146097 + 1) ≤ n
    · exact ⟨1970 + n * 400 / 146097 + 1, b, by omega⟩
    · exact ⟨1970 + n * 400 / 146097, by omega, by omega⟩
theorem year_bd {n Y : Int} (h1 : bgn Y ≤ n) (h2 : n < bgn (Y + 1)) (hn1 : -70368744177664 ≤ n) (hn2 : n ≤ 70368744177664) : -274877906944 ≤ Y ∧ Y < 274877906944 := by
  have h0 := bgn_1970
  rcases Int.lt_or_le Y 1970 with h | h
  · have := bgn_le (show Y + 1 ≤ 1970 by omega)
    omega
  · have := bgn_le h
    omega

/-- A month's length, m from 1. -/
def mtab (m : Nat) : Int := [31, 28, 31, 30, 31, 30, 31, 31, 30, 31, 30, 31].getD (m - 1) 0
def mlen (y : Int) (m : Nat) : Int := mtab m + if m = 2 then leapN y else 0
theorem mtab_le {m : Nat} (h1 : 1 ≤ m) (h2 : m ≤ 12) : 28 ≤ mtab m ∧ mtab m ≤ 31 := by
  have : ∀ i : Fin 13, 1 ≤ i.val → 28 ≤ mtab i ∧ mtab i ≤ 31 := by decide
  exact this ⟨m, by omega⟩ h1
theorem mlen_le {y : Int} {m : Nat} (h1 : 1 ≤ m) (h2 : m ≤ 12) : 28 ≤ mlen y m ∧ mlen y m ≤ 31 := by
  have := mtab_le h1 h2
  have hl := leapN_le y
  unfold mlen
  split
  · subst_vars
    have : mtab 2 = 28 := rfl
    omega
  · omega
theorem mlen_400 (y q : Int) (m : Nat) : mlen (y + 400 * q) m = mlen y m := by unfold mlen; rw [leapN_400]
/-- The first k months' lengths together. -/
def cum (y : Int) : Nat → Int
  | 0 => 0
  | k + 1 => cum y k + mlen y (k + 1)
theorem cum_succ (y : Int) (k : Nat) : cum y (k + 1) = cum y k + mlen y (k + 1) := rfl
theorem cum_12 (y : Int) : cum y 12 = 365 + leapN y := by
  simp only [cum, mlen, mtab]
  simp
  omega
theorem cum_400 (y q : Int) (k : Nat) : cum (y + 400 * q) k = cum y k := by
  induction k with
  | zero => rfl
  | succ k ih => rw [cum_succ, cum_succ, ih, mlen_400]
theorem cum_nn (y : Int) : ∀ k, k ≤ 12 → 28 * k ≤ cum y k ∧ cum y k ≤ 31 * k
  | 0, _ => by simp [cum]
  | k + 1, h => by
    have := cum_nn y k (by omega)
    have := mlen_le (y := y) (m := k + 1) (by omega) h
    rw [cum_succ]
    omega
theorem cum_mono (y : Int) {k : Nat} : ∀ {l : Nat}, k ≤ l → l ≤ 12 → cum y k ≤ cum y l
  | 0, h, _ => by
    obtain rfl : k = 0 := by omega
    exact Int.le_refl _
  | l + 1, h, hl => by
    rcases Nat.lt_or_ge l k with h1 | h1
    · obtain rfl : k = l + 1 := by omega
      exact Int.le_refl _
    · have := cum_mono y h1 (by omega)
      have := mlen_le (y := y) (m := l + 1) (by omega) hl
      rw [cum_succ]
      omega
/-- A date that is. -/
structure Is (y : Int) (m : Nat) (d : Int) : Prop where
  m1 : 1 ≤ m
  m12 : m ≤ 12
  d1 : 1 ≤ d
  dl : d ≤ mlen y m
/-- Its number. -/
def nr (y : Int) (m : Nat) (d : Int) : Int := bgn y + cum y (m - 1) + d - 1
theorem nr_in {y : Int} {m : Nat} {d : Int} (h : Is y m d) : bgn y ≤ nr y m d ∧ nr y m d < bgn (y + 1) := by
  obtain ⟨h1, h2, h3, h4⟩ := h
  have hs := bgn_succ y
  have h12 := cum_12 y
  have hm := cum_mono y (k := m) (l := 12) h2 (Nat.le_refl _)
  have e : cum y m = cum y (m - 1) + mlen y m := by
    obtain ⟨k, rfl⟩ : ∃ k, m = k + 1 := ⟨m - 1, by omega⟩
    exact cum_succ y k
  have h0 := cum_nn y (m - 1) (by omega)
  unfold nr
  omega
/-- A date is told by its number. -/
theorem nr_one {y y' : Int} {m m' : Nat} {d d' : Int} (h : Is y m d) (h' : Is y' m' d') (e : nr y m d = nr y' m' d') : y = y' ∧ m = m' ∧ d = d' := by
  have a := nr_in h
  have b := nr_in h'
  rw [← e] at b
  obtain rfl := bgn_one a.1 a.2 b.1 b.2
  have key : ∀ {m m' : Nat} {d d' : Int}, Is y m d → Is y m' d' → nr y m d = nr y m' d' → ¬ m < m' := by
    intro m m' d d' h h' e hlt
    obtain ⟨h1, h2, h3, h4⟩ := h
    obtain ⟨h1', h2', h3', h4'⟩ := h'
    have hm := cum_mono y (k := m) (l := m' - 1) (by omega) (by omega)
    have e1 : cum y m = cum y (m - 1) + mlen y m := by
      obtain ⟨k, rfl⟩ : ∃ k, m = k + 1 := ⟨m - 1, by omega⟩
      exact cum_succ y k
    unfold nr at e
    omega
  have hm : m = m' := by
    rcases Nat.lt_trichotomy m m' with h1 | h1 | h1
    · exact absurd h1 (key h h' e)
    · exact h1
    · exact absurd h1 (key h' h e.symm)
  subst hm
  refine ⟨rfl, rfl, ?_⟩
  unfold nr at e
  omega
theorem nr_400 (y q : Int) (m : Nat) (d : Int) : nr (y + 400 * q) m d = nr y m d + 146097 * q := by
  unfold nr
  rw [bgn_400, cum_400]
  omega
theorem Is.y400 {y : Int} {m : Nat} {d : Int} (h : Is y m d) (q : Int) : Is (y + 400 * q) m d := ⟨h.m1, h.m12, h.d1, by rw [mlen_400]; exact h.dl⟩
/-- How far numbers go. -/
theorem bgn_lo {y : Int} (h : y ≤ 1) : 366 * (y - 1) - 719162 ≤ bgn y := by unfold bgn; omega
theorem bgn_hi {y : Int} (h : 1 ≤ y) : bgn y ≤ 366 * (y - 1) - 719162 := by unfold bgn; omega

theorem bgn_bd {y : Int} (h1 : -274877906944 ≤ y) (h2 : y ≤ 274877906945) : -140737488355328 ≤ bgn y ∧ bgn y ≤ 140737488355328 := by
  rcases Int.lt_or_le y 1 with h | h
  · have := bgn_lo (y := y) (by omega)
    have := bgn_le (show y ≤ 1970 by omega)
    have := bgn_1970
    omega
  · have := bgn_hi h
    have := bgn_le h
    have : bgn 1 = -719162 := by decide
    omega
/-- The weekday of a number. -/
def wd (n : Int) : Int := (n + 4) % 7
theorem wd_bd (n : Int) : 0 ≤ wd n ∧ wd n < 7 := by unfold wd; omega
theorem wd_7 (n : Int) : wd (n + 7) = wd n := by unfold wd; omega
theorem wd_m7 (n : Int) : wd (n - 7) = wd n := by unfold wd; omega
theorem wd_1 (n : Int) : wd (n + 1) = (wd n + 1) % 7 := by unfold wd; omega
theorem wd_cycle (n : Int) : wd (n + 146097) = wd n := by unfold wd; omega

/-! Go's '/' and '%' cut toward nought. -/
theorem tmod_pos (a b : Int) (h : 0 ≤ a) : a.tmod b = a % b := Int.tmod_eq_emod_of_nonneg h
theorem tdiv_neg (a b : Int) (h : a < 0) : a.tdiv b = -((-a) / b) := by
  have := Int.neg_tdiv (-a) b
  rw [Int.neg_neg] at this
  rw [this, Int.tdiv_eq_ediv_of_nonneg (by omega)]
theorem tmod_neg (a b : Int) (h : a < 0) : a.tmod b = -((-a) % b) := by
  have := Int.neg_tmod (-a) b
  rw [Int.neg_neg] at this
  rw [this, Int.tmod_eq_emod_of_nonneg (by omega)]
theorem tmod_zero (a b : Int) : (a.tmod b = 0) ↔ (a % b = 0) := by
  rw [← Int.dvd_iff_tmod_eq_zero, ← Int.dvd_iff_emod_eq_zero]
theorem floor_neg (a b : Int) (h : a < 0) (hb : 0 < b) : a.tmod b ≤ 0 ∧ (a.tmod b < 0 → a.tdiv b - 1 = a / b) ∧ (0 ≤ a.tmod b → a.tdiv b = a / b) ∧ a ≤ a.tdiv b ∧ a.tdiv b ≤ 0 := by
  rw [tmod_neg a b h, tdiv_neg a b h]
  have h1 := Int.mul_ediv_add_emod (-a) b
  have h2 := Int.emod_nonneg (-a) (show b ≠ 0 by omega)
  have h3 := Int.emod_lt_of_pos (-a) hb
  have h4 : 0 ≤ (-a) / b := Int.ediv_nonneg (by omega) (by omega)
  have h5 : (-a) / b ≤ -a := Int.ediv_le_self b (by omega)
  generalize (-a) / b = q at *
  generalize (-a) % b = r at *
  refine ⟨by omega, fun hr => ?_, fun hr => ?_, by omega, by omega⟩
  · refine (((Int.ediv_emod_unique (a := a) (b := b) (r := b - r) (q := -q - 1) hb).2 ⟨?_, by omega, by omega⟩).1).symm
    rw [Int.mul_sub, Int.mul_neg, Int.mul_one]
    omega
  · refine (((Int.ediv_emod_unique (a := a) (b := b) (r := 0) (q := -q) hb).2 ⟨?_, by omega, by omega⟩).1).symm
    rw [Int.mul_neg]
    omega
theorem floor_half (a b : Int) (h : a < 0) (hb : 2 ≤ b) : a ≤ 2 * a.tdiv b := by
  rw [tdiv_neg a b h]
  have h1 := Int.mul_ediv_add_emod (-a) b
  have h2 := Int.emod_nonneg (-a) (show b ≠ 0 by omega)
  have h4 : 0 ≤ (-a) / b := Int.ediv_nonneg (by omega) (by omega)
  have h5 := Int.mul_le_mul_of_nonneg_right hb h4
  omega
theorem mod_neg (a b : Int) (h : a < 0) (hb : 0 < b) : -b < a.tmod b ∧ (a.tmod b < 0 → a.tmod b + b = a % b) ∧ (0 ≤ a.tmod b → a.tmod b = a % b) := by
  rw [tmod_neg a b h]
  have h1 := Int.mul_ediv_add_emod (-a) b
  have h2 := Int.emod_nonneg (-a) (show b ≠ 0 by omega)
  have h3 := Int.emod_lt_of_pos (-a) hb
  generalize (-a) / b = q at *
  generalize (-a) % b = r at *
  refine ⟨by omega, fun hr => ?_, fun hr => ?_⟩
  · refine (((Int.ediv_emod_unique (a := a) (b := b) (r := -r + b) (q := -q - 1) hb).2 ⟨?_, by omega, by omega⟩).2).symm
    rw [Int.mul_sub, Int.mul_neg, Int.mul_one]
    omega
  · refine (((Int.ediv_emod_unique (a := a) (b := b) (r := -r) (q := -q) hb).2 ⟨?_, by omega, by omega⟩).2).symm
    rw [Int.mul_neg]
    omega
theorem tmod7 (n : Int) : -7 < n.tmod 7 ∧ n.tmod 7 < 7 ∧ (n.tmod 7 + 7 + 4) % 7 = wd n ∧ (n.tmod 7 < 0 → n.tmod 7 + 7 = n % 7) ∧ (0 ≤ n.tmod 7 → n.tmod 7 = n % 7) := by
  unfold wd
  rcases Int.lt_or_le n 0 with h | h
  · rw [tmod_neg n 7 h]; omega
  · rw [tmod_pos n 7 h]; omega
theorem leapB_iff (y : Int) : leapB y = true ↔ (y % 4 = 0 ∧ y % 100 ≠ 0) ∨ y % 400 = 0 := by unfold leapB; rw [decide_eq_true_eq]
theorem leapB_of (y : Int) (p : Bool) (h : p = true ↔ (y % 4 = 0 ∧ y % 100 ≠ 0) ∨ y % 400 = 0) : p = leapB y := by
  rw [Bool.eq_iff_iff, leapB_iff]; exact h
end Go.Proofs.YtlogapkpllgdcaaGreatDoor
/- Layer 6's words, plain lists: numbers as texts and back, a list cut at bytes, rules and their texts. -/
namespace Go.Proofs.YtlogapkpllgdcaaGreatDoor

/-! Numbers. -/
theorem digitVal_of (d : Nat) (h : d < 10) : Lib.digitVal (UInt8.ofNat (48 + d)) = some d := by
  have : ∀ i : Fin 10, Lib.digitVal (UInt8.ofNat (48 + i.val)) = some i.val := by decide
  exact this ⟨d, h⟩
theorem isDg_of_nat (d : Nat) (h : d < 10) : isDg (UInt8.ofNat (48 + d)) = true := by
  have : ∀ i : Fin 10, isDg (UInt8.ofNat (48 + i.val)) = true := by decide
  exact this ⟨d, h⟩
theorem ofNat_ne48 (d : Nat) (h : d < 10) (h0 : d ≠ 0) : UInt8.ofNat (48 + d) ≠ 48 := by
  have : ∀ i : Fin 10, i.val ≠ 0 → UInt8.ofNat (48 + i.val) ≠ 48 := by decide
  exact this ⟨d, h⟩ h0
theorem digitVal_some {b : UInt8} {d : Nat} (h : Lib.digitVal b = some d) : d < 10 ∧ b = UInt8.ofNat (48 + d) := by
  obtain ⟨h1, h2, h3⟩ := Lib.digitVal_eq h
  exact ⟨by omega, u8_of b _ (by omega)⟩
theorem decFrom_append (l r : List UInt8) : ∀ acc, Lib.decFrom acc (l ++ r) = (Lib.decFrom acc l).bind fun a => Lib.decFrom a r := by
  induction l with
  | nil => intro acc; rfl
  | cons b l ih =>
    intro acc
    simp only [List.cons_append, Lib.decFrom]
    cases Lib.digitVal b with
    | none => rfl
    | some d => exact ih _
theorem dig_big {u : Nat} (h : ¬ u < 10) : Lib.decDigits u = Lib.decDigits (u / 10) ++ [UInt8.ofNat (48 + u % 10)] := by
  rw [Lib.decDigits.eq_1 u, dif_neg h]
theorem decFrom_digits (u : Nat) : Lib.decFrom 0 (Lib.decDigits u) = some u := by
  induction u using Nat.strongRecOn with
  | ind u ih =>
    by_cases h : u < 10
    · rw [Lib.decDigits_one h, Lib.decFrom, digitVal_of u h]
      simp [Lib.decFrom]
    · rw [dig_big h, decFrom_append, ih (u / 10) (by omega)]
      simp only [Option.bind_some, Lib.decFrom, digitVal_of (u % 10) (by omega)]
      congr 1
      omega
theorem dig_ne (u : Nat) : Lib.decDigits u ≠ [] := by
  by_cases h : u < 10
  · rw [Lib.decDigits_one h]; simp
  · rw [dig_big h]; simp
theorem dig_all (u : Nat) : ∀ c ∈ Lib.decDigits u, isDg c = true := by
  induction u using Nat.strongRecOn with
  | ind u ih =>
    by_cases h : u < 10
    · rw [Lib.decDigits_one h]
      intro c hc
      rw [List.mem_singleton] at hc
      rw [hc]
      exact isDg_of_nat u h
    · rw [dig_big h]
      intro c hc
      rcases List.mem_append.1 hc with h1 | h1
      · exact ih (u / 10) (by omega) c h1
      · rw [List.mem_singleton] at h1
        rw [h1]
        exact isDg_of_nat _ (by omega)
theorem dig_head (u : Nat) : ∀ c l, Lib.decDigits u = c :: l → u ≠ 0 → c ≠ 48 := by
  induction u using Nat.strongRecOn with
  | ind u ih =>
    intro c l e h0
    by_cases h : u < 10
    · rw [Lib.decDigits_one h] at e
      injection e with e1 e2
      rw [← e1]
      exact ofNat_ne48 u h h0
    · rw [dig_big h] at e
      rcases hd : Lib.decDigits (u / 10) with _ | ⟨c', l'⟩
      · exact absurd hd (dig_ne _)
      · rw [hd] at e
        injection e with e1 e2
        rw [← e1]
        exact ih (u / 10) (by omega) c' l' hd (by omega)
theorem digits_of : ∀ (k : Nat) (t : List UInt8) (m : Nat), t.length = k → t ≠ [] → Lib.decFrom 0 t = some m → (∀ c l, t = c :: l → l ≠ [] → c ≠ 48) → t = Lib.decDigits m := by
  intro k
  induction k with
  | zero => intro t m hl hn _ _; exact absurd (List.eq_nil_of_length_eq_zero hl) hn
  | succ k ih =>
    intro t m hl hn hd hh
    rcases List.eq_nil_or_concat t with rfl | ⟨t', c, rfl⟩
    · exact absurd rfl hn
    · rw [List.concat_eq_append] at hd hl hh ⊢
      rw [decFrom_append] at hd
      cases h1 : Lib.decFrom 0 t' with
      | none => rw [h1] at hd; cases hd
      | some m' =>
        rw [h1] at hd
        simp only [Option.bind_some, Lib.decFrom] at hd
        cases h2 : Lib.digitVal c with
        | none => rw [h2] at hd; cases hd
        | some d =>
          rw [h2] at hd
          injection hd with hd
          obtain ⟨h3, h4⟩ := digitVal_some h2
          rcases t' with _ | ⟨b, t''⟩
          · have h5 : m' = 0 := by injection h1 with h1; exact h1.symm
            subst h5
            rw [Lib.decDigits_one (show m < 10 by omega), h4, List.nil_append, show d = m by omega]
          · have h6 := ih (b :: t'') m' (by simpa using hl) (by simp) h1 (fun c' l' e hl' => hh c' (l' ++ [c]) (by rw [e]; rfl) (by simp))
            have h7 : m' ≠ 0 := by
              intro e
              rw [e, Lib.decDigits_one (by omega)] at h6
              exact hh b (t'' ++ [c]) rfl (by simp) (by injection h6)
            rw [dig_big (show ¬ m < 10 by omega), h6, h4, show m / 10 = m' by omega, show m % 10 = d by omega]
theorem nDigits_le : ∀ (k u : Nat), u < 10 ^ (k + 1) → Lib.nDigits u ≤ k + 1
  | 0, u, h => by rw [Lib.nDigits_small (by simpa using h)]; omega
  | k + 1, u, h => by
    by_cases h1 : u < 10
    · rw [Lib.nDigits_small h1]; omega
    · rw [Lib.nDigits_big h1]
      have := nDigits_le k (u / 10) (by rw [Nat.pow_succ] at h; omega)
      omega
theorem dig_len9 (u : Nat) : (Lib.decDigits u).length ≤ 9 ↔ u ≤ 999999999 := by
  rw [Lib.decDigits_length]
  constructor
  · intro h
    have h1 := Lib.lt_pow_nDigits u
    have h2 : 10 ^ Lib.nDigits u ≤ 10 ^ 9 := Nat.pow_le_pow_right (by omega) h
    omega
  · intro h
    exact nDigits_le 8 u (by omega)

/-- Digits without needless noughts, nine at most. -/
def okN (t : List UInt8) : Prop := t ≠ [] ∧ t.length ≤ 9 ∧ (∀ c l, t = c :: l → l ≠ [] → c ≠ 48)
theorem okN_digits (u : Nat) (h : u ≤ 999999999) : okN (Lib.decDigits u) := by
  refine ⟨dig_ne u, (dig_len9 u).2 h, fun c l e hl => dig_head u c l e ?_⟩
  intro h0
  rw [h0, Lib.decDigits_one (by omega)] at e
  injection e with e1 e2
  exact hl e2.symm
theorem okN_of {t : List UInt8} {m : Nat} (h : okN t) (hd : Lib.decFrom 0 t = some m) : t = Lib.decDigits m ∧ m ≤ 999999999 := by
  have e := digits_of t.length t m rfl h.1 hd h.2.2
  exact ⟨e, (dig_len9 m).1 (by rw [← e]; exact h.2.1)⟩
open Classical in
/-- The number of a text. -/
noncomputable def num9 : List UInt8 → Option Int
  | [] => none
  | c :: r =>
    if c = 45 then (if okN r ∧ r ≠ [48] then (Lib.decFrom 0 r).map fun (m : Nat) => -(m : Int) else none)
    else if okN (c :: r) then (Lib.decFrom 0 (c :: r)).map fun (m : Nat) => (m : Int) else none
theorem itoa_nn (u : Nat) : Lib.itoa (u : Int) = Lib.decDigits u := Lib.itoa_nonneg u
theorem itoa_neg (u : Nat) (h : u ≠ 0) : Lib.itoa (-(u : Int)) = 45 :: Lib.decDigits u := Lib.itoa_neg u (by omega)
theorem dg_ne {c : UInt8} (h : isDg c = true) : c ≠ 45 ∧ c ≠ 32 ∧ c ≠ 43 := by
  unfold isDg at h
  simp at h
  refine ⟨?_, ?_, ?_⟩ <;> (rintro rfl; revert h; decide)
theorem num9_itoa (n : Int) (h1 : -999999999 ≤ n) (h2 : n ≤ 999999999) : num9 (Lib.itoa n) = some n := by
  rcases Int.lt_or_le n 0 with h | h
  · obtain ⟨u, rfl⟩ : ∃ u : Nat, n = -(u : Int) := ⟨n.natAbs, by omega⟩
    rw [itoa_neg u (by omega)]
    have hne : Lib.decDigits u ≠ [48] := by
      intro e
      have := decFrom_digits u
      rw [e] at this
      have e2 : Lib.decFrom 0 [48] = some 0 := rfl
      rw [e2] at this
      injection this
      omega
    rw [num9, if_pos rfl, if_pos ⟨okN_digits u (by omega), hne⟩, decFrom_digits]
    rfl
  · obtain ⟨u, rfl⟩ := Int.eq_ofNat_of_zero_le h
    rw [itoa_nn]
    have hk := okN_digits u (by omega)
    have hd := decFrom_digits u
    have ha := dig_all u
    rcases he : Lib.decDigits u with _ | ⟨c, r⟩
    · exact absurd he (dig_ne u)
    · rw [he] at hk hd ha
      rw [num9, if_neg (dg_ne (ha c (by simp))).1, if_pos hk, hd]
      rfl
theorem num9_some {l : List UInt8} {n : Int} (h : num9 l = some n) : l = Lib.itoa n ∧ -999999999 ≤ n ∧ n ≤ 999999999 := by
  rcases l with _ | ⟨c, r⟩
  · cases h
  · rw [num9] at h
    split at h
    · rename_i hc
      split at h
      · rename_i hk
        cases hd : Lib.decFrom 0 r with
        | none => rw [hd] at h; cases h
        | some m =>
          rw [hd] at h
          injection h with h
          have h : -(m : Int) = n := h
          obtain ⟨e1, e2⟩ := okN_of hk.1 hd
          have h0 : m ≠ 0 := by
            intro e
            rw [e, Lib.decDigits_one (by omega)] at e1
            exact hk.2 e1
          subst h
          rw [itoa_neg m h0, hc, ← e1]
          exact ⟨rfl, by omega, by omega⟩
      · cases h
    · split at h
      · rename_i hk
        cases hd : Lib.decFrom 0 (c :: r) with
        | none => rw [hd] at h; cases h
        | some m =>
          rw [hd] at h
          injection h with h
          have h : (m : Int) = n := h
          obtain ⟨e1, e2⟩ := okN_of hk hd
          subst h
          rw [itoa_nn m, ← e1]
          exact ⟨rfl, by omega, by omega⟩
      · cases h
/-- What Atoi tells, whatever it says beside. -/
def av (l : List UInt8) : Int := match Lib.atoiAll l with
  | .ok v => v
  | .range => Lib.atoiSat l
  | _ => 0
theorem av_itoa (n : Int) (h1 : -999999999 ≤ n) (h2 : n ≤ 999999999) : Lib.atoiAll (Lib.itoa n) = .ok n ∧ av (Lib.itoa n) = n := by
  have key : Lib.atoiAll (Lib.itoa n) = .ok n := by
    rcases Int.lt_or_le n 0 with h | h
    · obtain ⟨u, rfl⟩ : ∃ u : Nat, n = -(u : Int) := ⟨n.natAbs, by omega⟩
      have hl := (dig_len9 u).2 (by omega)
      rw [itoa_neg u (by omega), Lib.atoiAll_short _ (by simp only [List.length_cons]; omega)]
      rw [Lib.atoi, if_pos (by decide), Lib.decNat, if_neg (by simp [dig_ne]), decFrom_digits]
      rfl
    · obtain ⟨u, rfl⟩ := Int.eq_ofNat_of_zero_le h
      have hl := (dig_len9 u).2 (by omega)
      rw [itoa_nn, Lib.atoiAll_short _ (by omega)]
      have hd := decFrom_digits u
      have ha := dig_all u
      rcases he : Lib.decDigits u with _ | ⟨c, r⟩
      · exact absurd he (dig_ne u)
      · rw [he] at hd ha
        have hc := dg_ne (ha c (by simp))
        rw [Lib.atoi, if_neg (by simpa using hc.1), if_neg (by simpa using hc.2.2), Lib.decNat, if_neg (by simp), hd]
        rfl
  exact ⟨key, by unfold av; rw [key]⟩
theorem av_bd (l : List UInt8) : -9223372036854775808 ≤ av l ∧ av l ≤ 9223372036854775807 := by
  unfold av
  split
  · rename_i v h
    exact Lib.atoiAll_bounds h
  · exact Lib.atoiSat_bounds l
  · omega
theorem itoa_no (n : Int) : (32 : UInt8) ∉ Lib.itoa n := by
  rcases Int.lt_or_le n 0 with h | h
  · obtain ⟨u, rfl⟩ : ∃ u : Nat, n = -(u : Int) := ⟨n.natAbs, by omega⟩
    rw [itoa_neg u (by omega)]
    intro hm
    rcases List.mem_cons.1 hm with h1 | h1
    · revert h1; decide
    · exact (dg_ne (dig_all u _ h1)).2.1 rfl
  · obtain ⟨u, rfl⟩ := Int.eq_ofNat_of_zero_le h
    rw [itoa_nn]
    intro hm
    exact (dg_ne (dig_all u _ hm)).2.1 rfl
theorem itoa_no45 (n : Int) (h : 0 ≤ n) : (45 : UInt8) ∉ Lib.itoa n := by
  obtain ⟨u, rfl⟩ := Int.eq_ofNat_of_zero_le h
  rw [itoa_nn]
  intro hm
  exact (dg_ne (dig_all u _ hm)).1 rfl
/-- A number without a minus in its text. -/
theorem num9_nn {l : List UInt8} {n : Int} (h : num9 l = some n) (hl : (45 : UInt8) ∉ l) : 0 ≤ n := by
  rcases Int.lt_or_le n 0 with h0 | h0
  · obtain ⟨u, rfl⟩ : ∃ u : Nat, n = -(u : Int) := ⟨n.natAbs, by omega⟩
    have := (num9_some h).1
    rw [itoa_neg u (by omega)] at this
    exact absurd (by rw [this]; simp) hl
  · exact h0

/-! Lists cut at a byte. -/
theorem cutAt_none (c : UInt8) : ∀ l : List UInt8, c ∉ l → cutAt c l = [l]
  | [], _ => rfl
  | b :: l, h => by
    have hb : b ≠ c := fun e => h (by rw [e]; simp)
    rw [cutAt, if_neg hb, cutAt_none c l (fun hm => h (List.mem_cons_of_mem _ hm))]
theorem cutAt_app (c : UInt8) : ∀ l r : List UInt8, c ∉ l → cutAt c (l ++ c :: r) = l :: cutAt c r
  | [], r, _ => by rw [List.nil_append, cutAt_self]
  | b :: l, r, h => by
    have hb : b ≠ c := fun e => h (by rw [e]; simp)
    rw [List.cons_append, cutAt, if_neg hb, cutAt_app c l r (fun hm => h (List.mem_cons_of_mem _ hm))]
theorem cutAt_no (c : UInt8) : ∀ l : List UInt8, ∀ p ∈ cutAt c l, c ∉ p
  | [], p, hp => by
    rw [cutAt, List.mem_singleton] at hp
    rw [hp]; simp
  | b :: l, p, hp => by
    by_cases hb : b = c
    · rw [hb, cutAt_self] at hp
      rcases List.mem_cons.1 hp with h | h
      · rw [h]; simp
      · exact cutAt_no c l p h
    · obtain ⟨q, qs, h1, h2⟩ := cutAt_cons c b l hb
      have ih := cutAt_no c l
      rw [h1] at ih
      rw [h2] at hp
      rcases List.mem_cons.1 hp with h | h
      · rw [h]
        intro hm
        rcases List.mem_cons.1 hm with h3 | h3
        · exact hb h3.symm
        · exact ih q (by simp) h3
      · exact ih p (List.mem_cons_of_mem _ h)
theorem cutAt_inv1 {c : UInt8} {l a : List UInt8} (h : cutAt c l = [a]) : l = a := by
  induction l generalizing a with
  | nil => rw [cutAt] at h; injection h
  | cons b l ih =>
    by_cases hb : b = c
    · rw [hb, cutAt_self] at h
      injection h with h1 h2
      exact absurd h2 (cutAt_ne c l)
    · obtain ⟨q, qs, h1, h2⟩ := cutAt_cons c b l hb
      rw [h2] at h
      injection h with h3 h4
      rw [h4] at h1
      rw [ih h1, h3]
theorem cutAt_inv {c : UInt8} {l a b : List UInt8} {ps : List (List UInt8)} (h : cutAt c l = a :: b :: ps) : ∃ r, l = a ++ c :: r ∧ cutAt c r = b :: ps := by
  induction l generalizing a with
  | nil => rw [cutAt] at h; injection h with h1 h2; cases h2
  | cons x l ih =>
    by_cases hb : x = c
    · rw [hb, cutAt_self] at h
      injection h with h1 h2
      exact ⟨l, by rw [← h1, hb]; rfl, h2⟩
    · obtain ⟨q, qs, h1, h2⟩ := cutAt_cons c x l hb
      rw [h2] at h
      injection h with h3 h4
      rw [h4] at h1
      obtain ⟨r, e1, e2⟩ := ih h1
      exact ⟨r, by rw [← h3, e1]; rfl, e2⟩
theorem index_app (c : UInt8) : ∀ l r : List UInt8, c ∉ l → Lib.index (l ++ c :: r) [c] = l.length
  | [], r, _ => index_self1 c r
  | b :: l, r, h => by
    have hb : b ≠ c := fun e => h (by rw [e]; simp)
    rw [List.cons_append, index_skip1 c b _ hb, index_app c l r (fun hm => h (List.mem_cons_of_mem _ hm)), if_neg (by simp), List.length_cons]
    omega
theorem index_no (c : UInt8) : ∀ l : List UInt8, c ∉ l → Lib.index l [c] = -1
  | [], _ => rfl
  | b :: l, h => by
    have hb : b ≠ c := fun e => h (by rw [e]; simp)
    rw [index_skip1 c b _ hb, index_no c l (fun hm => h (List.mem_cons_of_mem _ hm)), if_pos (by decide)]
theorem cut_app (c : UInt8) (l r : List UInt8) (h : c ∉ l) : Lib.cut (l ++ c :: r) [c] = (l, r, true) := by
  unfold Lib.cut
  rw [index_app c l r h, if_pos (by omega)]
  have e1 : (l.length : Int).toNat = l.length := by omega
  rw [e1]
  have e2 : l.length + [c].length = l.length + 1 := rfl
  rw [e2, List.take_left', List.drop_append]
  · simp [List.drop_of_length_le]
  · rfl
theorem cut_no (c : UInt8) (l : List UInt8) (h : c ∉ l) : Lib.cut l [c] = (l, [], false) := by
  unfold Lib.cut
  rw [index_no c l h, if_neg (by omega)]

/-! Rules. -/
/-- A rule, plain. -/
structure Rl where
  k : Int
  mo : Int
  n : Int
  wk : Int
  fy : Int
  fm : Int
  fd : Int
  ty : Int
  tm : Int
  td : Int
  deriving DecidableEq
def Rl.nil : Rl := ⟨0, 0, 0, 0, 0, 0, 0, 0, 0, 0⟩
/-- What a rule's kind has of it. -/
def ownR (r : Rl) : Rl :=
  if r.k = 0 then ⟨0, 0, 0, r.wk, 0, 0, 0, 0, 0, 0⟩
  else if r.k = 1 then ⟨1, r.mo, r.n, 0, 0, 0, 0, 0, 0, 0⟩
  else if r.k = 2 then ⟨2, r.mo, r.n, r.wk, 0, 0, 0, 0, 0, 0⟩
  else if r.k = 3 then ⟨3, 0, 0, 0, r.fy, r.fm, r.fd, r.ty, r.tm, r.td⟩
  else Rl.nil
/-- A date may be. -/
def okD (y m d : Int) : Bool := decide (-274877906944 ≤ y ∧ y ≤ 274877906944 ∧ 1 ≤ m ∧ m ≤ 12 ∧ 1 ≤ d ∧ d ≤ mlen y m.toNat)
/-- Its number. -/
def dnr (y m d : Int) : Int := nr y m.toNat d
theorem okD_is {y m d : Int} (h : okD y m d = true) : Is y m.toNat d ∧ (m.toNat : Int) = m ∧ -274877906944 ≤ y ∧ y ≤ 274877906944 := by
  unfold okD at h
  simp only [decide_eq_true_eq] at h
  obtain ⟨h1, h2, h3, h4, h5, h6⟩ := h
  exact ⟨⟨by omega, by omega, h5, h6⟩, by omega, h1, h2⟩
theorem okD_of {y d : Int} {m : Nat} (h : Is y m d) (h1 : -274877906944 ≤ y) (h2 : y ≤ 274877906944) : okD y m d = true := by
  unfold okD
  simp only [decide_eq_true_eq]
  have := h.m1
  have := h.m12
  refine ⟨h1, h2, by omega, by omega, h.d1, ?_⟩
  rw [show (m : Int).toNat = m by omega]
  exact h.dl
def inW (n most : Int) : Bool := decide (0 ≤ n ∧ n ≤ most)
def placeR (n most : Int) : Bool := decide (n ≠ 0 ∧ -most ≤ n ∧ n ≤ most)
/-- Whether what a rule's kind has may be. -/
def fitsR (r : Rl) : Bool :=
  if r.k = 0 then inW r.wk 6
  else if r.k = 1 then inW r.mo 12 && placeR r.n 31
  else if r.k = 2 then inW r.mo 12 && placeR r.n 5 && inW r.wk 6
  else okD r.fy r.fm r.fd && okD r.ty r.tm r.td && decide (dnr r.fy r.fm r.fd ≤ dnr r.ty r.tm r.td) && inW r.fy 9999 && inW r.ty 9999
def mayR (r : Rl) : Bool := decide (r = ownR r) && fitsR r
theorem mayR_iff (r : Rl) : mayR r = true ↔ r = ownR r ∧ fitsR r = true := by
  unfold mayR
  simp
theorem may_cases {r : Rl} (h : mayR r = true) :
    (∃ wk, r = ⟨0, 0, 0, wk, 0, 0, 0, 0, 0, 0⟩ ∧ 0 ≤ wk ∧ wk ≤ 6)
    ∨ (∃ mo n, r = ⟨1, mo, n, 0, 0, 0, 0, 0, 0, 0⟩ ∧ 0 ≤ mo ∧ mo ≤ 12 ∧ n ≠ 0 ∧ -31 ≤ n ∧ n ≤ 31)
    ∨ (∃ mo n wk, r = ⟨2, mo, n, wk, 0, 0, 0, 0, 0, 0⟩ ∧ 0 ≤ mo ∧ mo ≤ 12 ∧ n ≠ 0 ∧ -5 ≤ n ∧ n ≤ 5 ∧ 0 ≤ wk ∧ wk ≤ 6)
    ∨ (∃ fy fm fd ty tm td, r = ⟨3, 0, 0, 0, fy, fm, fd, ty, tm, td⟩ ∧ okD fy fm fd = true ∧ okD ty tm td = true ∧ dnr fy fm fd ≤ dnr ty tm td ∧ 0 ≤ fy ∧ fy ≤ 9999 ∧ 0 ≤ ty ∧ ty ≤ 9999) := by
  obtain ⟨h1, h2⟩ := (mayR_iff r).1 h
  obtain ⟨k, mo, n, wk, fy, fm, fd, ty, tm, td⟩ := r
  unfold ownR at h1
  unfold fitsR at h2
  simp only at h1 h2
  split at h1
  · rename_i hk
    rw [if_pos hk] at h2
    unfold inW at h2
    simp only [decide_eq_true_eq] at h2
    exact .inl ⟨wk, h1, h2.1, h2.2⟩
  · rename_i hk
    rw [if_neg hk] at h2
    split at h1
    · rename_i hk
      rw [if_pos hk] at h2
      unfold inW placeR at h2
      simp only [Bool.and_eq_true, decide_eq_true_eq] at h2
      exact .inr (.inl ⟨mo, n, h1, h2.1.1, h2.1.2, h2.2.1, h2.2.2.1, h2.2.2.2⟩)
    · rename_i hk
      rw [if_neg hk] at h2
      split at h1
      · rename_i hk
        rw [if_pos hk] at h2
        unfold inW placeR at h2
        simp only [Bool.and_eq_true, decide_eq_true_eq] at h2
        exact .inr (.inr (.inl ⟨mo, n, wk, h1, h2.1.1.1, h2.1.1.2, h2.1.2.1, h2.1.2.2.1, h2.1.2.2.2, h2.2.1, h2.2.2⟩))
      · rename_i hk
        rw [if_neg hk] at h2
        split at h1
        · unfold inW at h2
          simp only [Bool.and_eq_true, decide_eq_true_eq] at h2
          exact .inr (.inr (.inr ⟨fy, fm, fd, ty, tm, td, h1, h2.1.1.1.1, h2.1.1.1.2, h2.1.1.2, h2.1.2.1, h2.1.2.2, h2.2.1, h2.2.2⟩))
        · exfalso
          unfold Rl.nil at h1
          injection h1
          contradiction

/-! Texts. -/
def wW : List UInt8 := [119, 101, 101, 107, 100, 97, 121]
def dW : List UInt8 := [100, 97, 121]
def nW : List UInt8 := [110, 116, 104]
def tW : List UInt8 := [100, 97, 116, 101, 115]
def dtx (y m d : Int) : List UInt8 := Lib.itoa y ++ 45 :: (Lib.itoa m ++ 45 :: Lib.itoa d)
/-- The text of a rule that may be. -/
def tx (r : Rl) : List UInt8 :=
  if r.k = 0 then wW ++ 32 :: Lib.itoa r.wk
  else if r.k = 1 then dW ++ 32 :: (Lib.itoa r.mo ++ 32 :: Lib.itoa r.n)
  else if r.k = 2 then nW ++ 32 :: (Lib.itoa r.mo ++ 32 :: (Lib.itoa r.n ++ 32 :: Lib.itoa r.wk))
  else tW ++ 32 :: (dtx r.fy r.fm r.fd ++ 32 :: dtx r.ty r.tm r.td)
/-- What is left of a text behind k pieces; the number that piece k tells. -/
def rst (c : UInt8) (s : List UInt8) : Nat → List UInt8
  | 0 => s
  | k + 1 => (Lib.cut (rst c s k) [c]).2.1
def fld (c : UInt8) (s : List UInt8) (k : Nat) : Int := av (Lib.cut (rst c s k) [c]).1
/-- The rule that a text tells, if it is one's. -/
def rd (s : List UInt8) : Rl :=
  let w := (Lib.cut s [32]).1
  let r := (Lib.cut s [32]).2.1
  let a := (Lib.cut r [32]).1
  let b := (Lib.cut r [32]).2.1
  if w = wW then ⟨0, 0, 0, fld 32 r 0, 0, 0, 0, 0, 0, 0⟩
  else if w = dW then ⟨1, fld 32 r 0, fld 32 r 1, 0, 0, 0, 0, 0, 0, 0⟩
  else if w = nW then ⟨2, fld 32 r 0, fld 32 r 1, fld 32 r 2, 0, 0, 0, 0, 0, 0⟩
  else if w = tW then ⟨3, 0, 0, 0, fld 45 a 0, fld 45 a 1, fld 45 a 2, fld 45 b 0, fld 45 b 1, fld 45 b 2⟩
  else Rl.nil
theorem dtx_no {y m d : Int} : (32 : UInt8) ∉ dtx y m d := by
  unfold dtx
  simp only [List.mem_append, List.mem_cons, not_or]
  exact ⟨itoa_no y, by decide, itoa_no m, by decide, itoa_no d⟩
theorem fld1 (c : UInt8) (s : List UInt8) (h : c ∉ s) : fld c s 0 = av s := by
  unfold fld rst
  rw [cut_no c s h]
theorem rst1 (c : UInt8) (a b : List UInt8) (h : c ∉ a) : rst c (a ++ c :: b) 1 = b ∧ fld c (a ++ c :: b) 0 = av a := by
  unfold fld
  simp only [rst, cut_app c a b h, and_self]
theorem rst2 (c : UInt8) (a b : List UInt8) (h : c ∉ a) (hb : c ∉ b) : fld c (a ++ c :: b) 1 = av b := by
  have h1 := (rst1 c a b h).1
  unfold fld
  rw [h1, cut_no c b hb]
theorem rst3 (c : UInt8) (a b d : List UInt8) (h : c ∉ a) (hb : c ∉ b) (hd : c ∉ d) : fld c (a ++ c :: (b ++ c :: d)) 1 = av b ∧ fld c (a ++ c :: (b ++ c :: d)) 2 = av d := by
  have h1 := (rst1 c a (b ++ c :: d) h).1
  have h2 : rst c (a ++ c :: (b ++ c :: d)) 2 = d := by
    show (Lib.cut (rst c (a ++ c :: (b ++ c :: d)) 1) [c]).2.1 = d
    rw [h1, cut_app c b d hb]
  unfold fld
  rw [h1, h2, cut_app c b d hb, cut_no c d hd]
  exact ⟨rfl, rfl⟩
theorem okD_bd {y m d : Int} (h : okD y m d = true) (_h1 : 0 ≤ y) (_h2 : y ≤ 9999) : 0 ≤ m ∧ m ≤ 12 ∧ 0 ≤ d ∧ d ≤ 31 := by
  obtain ⟨hi, e, _, _⟩ := okD_is h
  have := hi.m12
  have := hi.d1
  have := hi.dl
  have := mlen_le (y := y) hi.m1 hi.m12
  omega
theorem date_rd {y m d : Int} (h : okD y m d = true) (h1 : 0 ≤ y) (h2 : y ≤ 9999) : fld 45 (dtx y m d) 0 = y ∧ fld 45 (dtx y m d) 1 = m ∧ fld 45 (dtx y m d) 2 = d := by
  obtain ⟨b1, b2, b3, b4⟩ := okD_bd h h1 h2
  unfold dtx
  obtain ⟨e1, e2⟩ := rst3 45 (Lib.itoa y) (Lib.itoa m) (Lib.itoa d) (itoa_no45 y h1) (itoa_no45 m b1) (itoa_no45 d b3)
  rw [(rst1 45 (Lib.itoa y) _ (itoa_no45 y h1)).2, e1, e2, (av_itoa y (by omega) (by omega)).2, (av_itoa m (by omega) (by omega)).2, (av_itoa d (by omega) (by omega)).2]
  exact ⟨rfl, rfl, rfl⟩
/-- The rule of a rule's text is it. -/
theorem rd_tx {r : Rl} (h : mayR r = true) : rd (tx r) = r := by
  rcases may_cases h with ⟨wk, rfl, h1, h2⟩ | ⟨mo, n, rfl, h1, h2, h3, h4, h5⟩ | ⟨mo, n, wk, rfl, h1, h2, h3, h4, h5, h6, h7⟩ | ⟨fy, fm, fd, ty, tm, td, rfl, h1, h2, h3, h4, h5, h6, h7⟩
  · unfold tx
    simp only [if_true]
    unfold rd
    simp only [cut_app 32 wW _ (by decide), if_true, fld1 32 _ (itoa_no wk), (av_itoa wk (by omega) (by omega)).2]
  · unfold tx
    simp only [show ((1 : Int) = 0) = False by simp, if_false, if_true]
    unfold rd
    simp only [cut_app 32 dW _ (by decide), show (dW = wW) = False by simp [dW, wW], if_false, if_true, (rst1 32 (Lib.itoa mo) (Lib.itoa n) (itoa_no mo)).2, rst2 32 (Lib.itoa mo) (Lib.itoa n) (itoa_no mo) (itoa_no n), (av_itoa mo (by omega) (by omega)).2, (av_itoa n (by omega) (by omega)).2]
  · unfold tx
    simp only [show ((2 : Int) = 0) = False by simp, show ((2 : Int) = 1) = False by simp, if_false, if_true]
    unfold rd
    obtain ⟨e1, e2⟩ := rst3 32 (Lib.itoa mo) (Lib.itoa n) (Lib.itoa wk) (itoa_no mo) (itoa_no n) (itoa_no wk)
    simp only [cut_app 32 nW _ (by decide), show (nW = wW) = False by simp [nW, wW], show (nW = dW) = False by simp [nW, dW], if_false, if_true, (rst1 32 (Lib.itoa mo) _ (itoa_no mo)).2, e1, e2, (av_itoa mo (by omega) (by omega)).2, (av_itoa n (by omega) (by omega)).2, (av_itoa wk (by omega) (by omega)).2]
  · unfold tx
    simp only [show ((3 : Int) = 0) = False by simp, show ((3 : Int) = 1) = False by simp, show ((3 : Int) = 2) = False by simp, if_false]
    unfold rd
    obtain ⟨a1, a2, a3⟩ := date_rd h1 h4 h5
    obtain ⟨b1, b2, b3⟩ := date_rd h2 h6 h7
    simp only [cut_app 32 tW _ (by decide), show (tW = wW) = False by simp [tW, wW], show (tW = dW) = False by simp [tW, dW], show (tW = nW) = False by simp [tW, nW], if_false, if_true, cut_app 32 (dtx fy fm fd) (dtx ty tm td) dtx_no, a1, a2, a3, b1, b2, b3]

/-- The date of a text. -/
noncomputable def prD (s : List UInt8) : Option (Int × Int × Int) :=
  match cutAt 45 s with
  | [a, b, c] => match num9 a, num9 b, num9 c with
    | some y, some m, some d => some (y, m, d)
    | _, _, _ => none
  | _ => none
def chkR (r : Rl) : Option Rl := if mayR r = true then some r else none
/-- The document's rule of a text. -/
noncomputable def pr (s : List UInt8) : Option Rl :=
  match cutAt 32 s with
  | [w, a] => if w = wW then (match num9 a with
      | some x => chkR ⟨0, 0, 0, x, 0, 0, 0, 0, 0, 0⟩
      | none => none) else none
  | [w, a, b] => if w = dW then (match num9 a, num9 b with
      | some x, some y => chkR ⟨1, x, y, 0, 0, 0, 0, 0, 0, 0⟩
      | _, _ => none)
    else if w = tW then (match prD a, prD b with
      | some (x, y, z), some (u, v, t) => chkR ⟨3, 0, 0, 0, x, y, z, u, v, t⟩
      | _, _ => none) else none
  | [w, a, b, c] => if w = nW then (match num9 a, num9 b, num9 c with
      | some x, some y, some z => chkR ⟨2, x, y, z, 0, 0, 0, 0, 0, 0⟩
      | _, _, _ => none) else none
  | _ => none
theorem cutAt_2 {c : UInt8} {l a b : List UInt8} (h : cutAt c l = [a, b]) : l = a ++ c :: b := by
  obtain ⟨r, h1, h2⟩ := cutAt_inv h
  rw [h1, cutAt_inv1 h2]
theorem cutAt_3 {c : UInt8} {l a b d : List UInt8} (h : cutAt c l = [a, b, d]) : l = a ++ c :: (b ++ c :: d) := by
  obtain ⟨r, h1, h2⟩ := cutAt_inv h
  rw [h1, cutAt_2 h2]
theorem cutAt_4 {c : UInt8} {l a b d e : List UInt8} (h : cutAt c l = [a, b, d, e]) : l = a ++ c :: (b ++ c :: (d ++ c :: e)) := by
  obtain ⟨r, h1, h2⟩ := cutAt_inv h
  rw [h1, cutAt_3 h2]
theorem prD_some {s : List UInt8} {x y z : Int} (h : prD s = some (x, y, z)) : s = dtx x y z := by
  unfold prD at h
  split at h
  · rename_i a b c hc
    split at h
    · rename_i u v t h1 h2 h3
      injection h with h
      injection h with e1 h
      injection h with e2 e3
      subst e1 e2 e3
      rw [cutAt_3 hc, (num9_some h1).1, (num9_some h2).1, (num9_some h3).1]
      rfl
    · cases h
  · cases h
theorem prD_dtx {y m d : Int} (h : okD y m d = true) (h1 : 0 ≤ y) (h2 : y ≤ 9999) : prD (dtx y m d) = some (y, m, d) := by
  obtain ⟨b1, b2, b3, b4⟩ := okD_bd h h1 h2
  unfold prD dtx
  rw [cutAt_app 45 _ _ (itoa_no45 y h1), cutAt_app 45 _ _ (itoa_no45 m b1), cutAt_none 45 _ (itoa_no45 d b3)]
  simp only [num9_itoa y (by omega) (by omega), num9_itoa m (by omega) (by omega), num9_itoa d (by omega) (by omega)]
theorem chkR_some {r y : Rl} (h : chkR r = some y) : r = y ∧ mayR y = true := by
  unfold chkR at h
  split at h
  · injection h with h
    subst h
    exact ⟨rfl, by assumption⟩
  · cases h
theorem pr_some {s : List UInt8} {y : Rl} (h : pr s = some y) : mayR y = true ∧ tx y = s := by
  unfold pr at h
  split at h
  · rename_i w a hc
    split at h
    · rename_i hw
      split at h
      · rename_i x hx
        obtain ⟨rfl, hm⟩ := chkR_some h
        refine ⟨hm, ?_⟩
        rw [cutAt_2 hc, hw, (num9_some hx).1]
        rfl
      · cases h
    · cases h
  · rename_i w a b hc
    split at h
    · rename_i hw
      split at h
      · rename_i x y hx hy
        obtain ⟨rfl, hm⟩ := chkR_some h
        refine ⟨hm, ?_⟩
        rw [cutAt_3 hc, hw, (num9_some hx).1, (num9_some hy).1]
        rfl
      · cases h
    · split at h
      · rename_i hw
        split at h
        · rename_i x y z u v t hx hy
          obtain ⟨rfl, hm⟩ := chkR_some h
          refine ⟨hm, ?_⟩
          rw [cutAt_3 hc, hw, prD_some hx, prD_some hy]
          rfl
        · cases h
      · cases h
  · rename_i w a b c hc
    split at h
    · rename_i hw
      split at h
      · rename_i x y z hx hy hz
        obtain ⟨rfl, hm⟩ := chkR_some h
        refine ⟨hm, ?_⟩
        rw [cutAt_4 hc, hw, (num9_some hx).1, (num9_some hy).1, (num9_some hz).1]
        rfl
      · cases h
    · cases h
  · cases h
theorem chkR_may {r : Rl} (h : mayR r = true) : chkR r = some r := if_pos h
theorem pr_tx {r : Rl} (h : mayR r = true) : pr (tx r) = some r := by
  have hm := h
  rcases may_cases h with ⟨wk, rfl, h1, h2⟩ | ⟨mo, n, rfl, h1, h2, h3, h4, h5⟩ | ⟨mo, n, wk, rfl, h1, h2, h3, h4, h5, h6, h7⟩ | ⟨fy, fm, fd, ty, tm, td, rfl, h1, h2, h3, h4, h5, h6, h7⟩
  · unfold tx pr
    simp only [if_true, cutAt_app 32 wW _ (by decide), cutAt_none 32 _ (itoa_no wk), num9_itoa wk (by omega) (by omega)]
    exact chkR_may hm
  · unfold tx pr
    simp only [show ((1 : Int) = 0) = False by simp, if_false, if_true, cutAt_app 32 dW _ (by decide), cutAt_app 32 _ _ (itoa_no mo), cutAt_none 32 _ (itoa_no n), num9_itoa mo (by omega) (by omega), num9_itoa n (by omega) (by omega)]
    exact chkR_may hm
  · unfold tx pr
    simp only [show ((2 : Int) = 0) = False by simp, show ((2 : Int) = 1) = False by simp, if_false, if_true, cutAt_app 32 nW _ (by decide), cutAt_app 32 _ _ (itoa_no mo), cutAt_app 32 _ _ (itoa_no n), cutAt_none 32 _ (itoa_no wk), num9_itoa mo (by omega) (by omega), num9_itoa n (by omega) (by omega), num9_itoa wk (by omega) (by omega)]
    exact chkR_may hm
  · unfold tx pr
    simp only [show ((3 : Int) = 0) = False by simp, show ((3 : Int) = 1) = False by simp, show ((3 : Int) = 2) = False by simp, if_false, if_true, cutAt_app 32 tW _ (by decide), cutAt_app 32 _ _ (dtx_no (y := fy) (m := fm) (d := fd)), cutAt_none 32 _ (dtx_no (y := ty) (m := tm) (d := td)), show (tW = dW) = False by simp [tW, dW], prD_dtx h1 h4 h5, prD_dtx h2 h6 h7]
    exact chkR_may hm
/-- The program's Parse and the document's take the same. -/
theorem rd_some {s : List UInt8} {y : Rl} (h : pr s = some y) : rd s = y ∧ mayR y = true ∧ tx y = s := by
  obtain ⟨h1, h2⟩ := pr_some h
  exact ⟨by rw [← h2]; exact rd_tx h1, h1, h2⟩
theorem rd_none {s : List UInt8} (h : pr s = none) (hm : mayR (rd s) = true) : tx (rd s) ≠ s := by
  intro e
  have := pr_tx hm
  rw [e, h] at this
  cases this

/-! Days that are meant. -/
def hitsR (r : Rl) (y : Int) (m : Nat) (d n : Int) : Bool :=
  if r.k = 0 then decide (wd n = r.wk)
  else if r.k = 1 then decide (r.mo = 0 ∨ r.mo = m) && decide (r.n = d ∨ r.n = -(mlen y m - d + 1))
  else if r.k = 2 then decide (wd n = r.wk) && (decide (r.mo = 0 ∨ r.mo = m) && decide (r.n = (d - 1) / 7 + 1 ∨ r.n = -((mlen y m - d) / 7 + 1)))
  else decide (dnr r.fy r.fm r.fd ≤ n ∧ n ≤ dnr r.ty r.tm r.td)
end Go.Proofs.YtlogapkpllgdcaaGreatDoor
/- Plain words of layer 7: spans, entries, periods; ways, loops, ranks; who is in. -/
namespace Go.Proofs.YtlogapkpllgdcaaGreatDoor

structure Spn where
  f : Int
  t : Int
structure Ent where
  r : Rl
  sp : List Spn
structure Prd where
  es : List Ent
  ex : List Int

def badS (s : Spn) : Bool := decide (s.f < 0) || (decide (86400 < s.t) || decide (s.t ≤ s.f))
theorem badS_no {s : Spn} (h : badS s = false) : 0 ≤ s.f ∧ s.t ≤ 86400 ∧ s.f < s.t := by
  simp only [badS, Bool.or_eq_false_iff, decide_eq_false_iff_not] at h
  omega
theorem badS_of {s : Spn} (h1 : 0 ≤ s.f) (h2 : s.t ≤ 86400) (h3 : s.f < s.t) : badS s = false := by
  simp only [badS, Bool.or_eq_false_iff, decide_eq_false_iff_not]
  omega
def longE (e : Ent) : Bool := decide (32 < e.sp.length)
def longP (p : Prd) : Bool := decide (64 < p.es.length) || (decide (64 < p.ex.length) || p.es.any longE)
def wrongE (e : Ent) : Bool := !mayR e.r || e.sp.any badS
def wrongP (p : Prd) : Bool := p.es.any wrongE
def isOneB (n : Nat) (x : Int) : Bool := decide (0 ≤ x) && decide (x < n)
def noneP (n : Nat) (p : Prd) : Bool := p.ex.any fun x => !isOneB n x

/-- One step by an exclude; ways of one step and more. -/
def Step (l : List Prd) (i j : Nat) : Prop := ∃ p, l[i]? = some p ∧ (j : Int) ∈ p.ex
inductive Way (l : List Prd) : Nat → Nat → Prop
  | one {i j} : Step l i j → Way l i j
  | more {i j k} : Step l i j → Way l j k → Way l i k
theorem Way.snoc {l : List Prd} {i j k : Nat} (h : Way l i j) (s : Step l j k) : Way l i k := by
  induction h with
  | one a => exact .more a (.one s)
  | more a _ ih => exact .more a (ih s)
theorem Way.trans {l : List Prd} {i j k : Nat} (h : Way l i j) (s : Way l j k) : Way l i k := by
  induction h with
  | one a => exact .more a s
  | more a _ ih => exact .more a (ih s)
def Loops (l : List Prd) : Prop := ∃ i, Way l i i
theorem Step.lt {l : List Prd} {i j : Nat} (h : Step l i j) : i < l.length := by
  obtain ⟨p, hp, _⟩ := h
  exact (List.getElem?_eq_some_iff.1 hp).1
theorem Way.lt {l : List Prd} {i j : Nat} (h : Way l i j) : i < l.length := by
  cases h with
  | one a => exact a.lt
  | more a _ => exact a.lt
/-- What is closed by steps is closed by ways. -/
theorem Way.closed {l : List Prd} {D : Nat → Prop} (hD : ∀ i j, D i → Step l i j → D j) {i j : Nat} (h : Way l i j) (hi : D i) : D j := by
  induction h with
  | one a => exact hD _ _ hi a
  | more a _ ih => exact ih (hD _ _ hi a)
theorem filter_lt {α : Type} (p q : α → Bool) : ∀ (L : List α), (∀ x ∈ L, p x = true → q x = true) → (∃ x ∈ L, q x = true ∧ p x = false) → (L.filter p).length < (L.filter q).length := by
  have hle : ∀ (L : List α), (∀ x ∈ L, p x = true → q x = true) → (L.filter p).length ≤ (L.filter q).length := by
    intro L
    induction L with
    | nil => intro _; simp
    | cons a L ih =>
      intro h
      have h1 := ih fun x hx => h x (List.mem_cons_of_mem _ hx)
      have h2 := h a List.mem_cons_self
      rw [List.filter_cons, List.filter_cons]
      by_cases ha : p a = true
      · rw [if_pos ha, if_pos (h2 ha)]; simpa using h1
      · rw [if_neg ha]; split <;> simp <;> omega
  intro L
  induction L with
  | nil => intro _ ⟨x, hx, _⟩; cases hx
  | cons a L ih =>
    intro h hx
    have h2 := h a List.mem_cons_self
    have h3 := hle L fun x hx => h x (List.mem_cons_of_mem _ hx)
    rw [List.filter_cons, List.filter_cons]
    obtain ⟨x, hm, hq, hp⟩ := hx
    rcases List.mem_cons.1 hm with rfl | hm
    · rw [if_neg (by rw [hp]; decide), if_pos hq]; simp; omega
    · have h1 := ih (fun x hx => h x (List.mem_cons_of_mem _ hx)) ⟨x, hm, hq, hp⟩
      by_cases ha : p a = true
      · rw [if_pos ha, if_pos (h2 ha)]; simpa using h1
      · rw [if_neg ha]; split <;> simp <;> omega
open Classical in
/-- How many there are ways to. -/
noncomputable def rk (l : List Prd) (i : Nat) : Nat := ((List.range l.length).filter fun j => decide (Way l i j)).length
theorem rk_le (l : List Prd) (i : Nat) : rk l i ≤ l.length := by
  unfold rk
  have := List.length_filter_le (fun j => @decide (Way l i j) (Classical.propDecidable _)) (List.range l.length)
  rw [List.length_range] at this
  exact this
open Classical in
theorem rk_lt {l : List Prd} (h : ¬ Loops l) {i j : Nat} (hs : Step l i j) (hj : j < l.length) : rk l j < rk l i := by
  unfold rk
  apply filter_lt
  · intro x _ hx
    exact decide_eq_true (Way.more hs (of_decide_eq_true hx))
  · refine ⟨j, List.mem_range.2 hj, ?_, ?_⟩
    · exact decide_eq_true (Way.one hs)
    · exact decide_eq_false fun hw => h ⟨j, hw⟩

/-- All excludes are of the list. -/
def InRange (l : List Prd) : Prop := ∀ p ∈ l, ∀ x ∈ p.ex, 0 ≤ x ∧ x < (l.length : Int)
theorem inRange_of {l : List Prd} (h : l.any (noneP l.length) = false) : InRange l := fun p hp x hx => by
  have h1 := (List.any_eq_false.1 h) p hp
  simp only [noneP, Bool.not_eq_true, List.any_eq_false] at h1
  have h2 := h1 x hx
  simp only [isOneB, Bool.not_eq_eq_eq_not, Bool.not_false, Bool.and_eq_true, decide_eq_true_eq] at h2
  exact h2

/-- Who is in: hit says which entries are meant. -/
def innF (l : List Prd) (hit : Ent → Bool) : Nat → Nat → Bool
  | 0, _ => false
  | k + 1, i => match l[i]? with
    | none => false
    | some p => p.es.any hit && !p.ex.any fun x => innF l hit k x.toNat
noncomputable def inn (l : List Prd) (hit : Ent → Bool) (i : Nat) : Bool := innF l hit (l.length + 1) i
theorem any_congr {α : Type} {p q : α → Bool} : ∀ {L : List α}, (∀ x ∈ L, p x = q x) → L.any p = L.any q
  | [], _ => rfl
  | a :: L, h => by rw [List.any_cons, List.any_cons, h a List.mem_cons_self, any_congr fun x hx => h x (List.mem_cons_of_mem _ hx)]
theorem innF_stable {l : List Prd} (hit : Ent → Bool) (hl : ¬ Loops l) (hr : InRange l) : ∀ (k : Nat) (i k' : Nat), rk l i < k → rk l i < k' → innF l hit k i = innF l hit k' i := by
  intro k
  induction k with
  | zero => intro i k' h; omega
  | succ k ih =>
    intro i k' h h'
    obtain ⟨k', rfl⟩ : ∃ m, k' = m + 1 := ⟨k' - 1, by omega⟩
    simp only [innF]
    cases hp : l[i]? with
    | none => rfl
    | some p =>
      simp only
      congr 2
      refine any_congr fun x hx => ?_
      have hb := hr p (List.mem_of_getElem? hp) x hx
      have hlt := rk_lt hl (i := i) (j := x.toNat) ⟨p, hp, by rw [Int.toNat_of_nonneg hb.1]; exact hx⟩ (by omega)
      exact ih x.toNat k' (by omega) (by omega)
theorem inn_eq {l : List Prd} (hit : Ent → Bool) (hl : ¬ Loops l) (hr : InRange l) {i : Nat} {p : Prd} (hp : l[i]? = some p) :
    inn l hit i = (p.es.any hit && !p.ex.any fun x => inn l hit x.toNat) := by
  have h1 := rk_le l i
  have e : inn l hit i = innF l hit (l.length + 1) i := rfl
  rw [e]
  simp only [innF, hp]
  congr 2
  refine any_congr fun x hx => ?_
  have hb := hr p (List.mem_of_getElem? hp) x hx
  have hlt := rk_lt hl (i := i) (j := x.toNat) ⟨p, hp, by rw [Int.toNat_of_nonneg hb.1]; exact hx⟩ (by omega)
  exact innF_stable hit hl hr _ _ _ (by omega) (by omega)
theorem innF_congr {l : List Prd} {hit hit' : Ent → Bool} (h : ∀ p ∈ l, ∀ e ∈ p.es, hit e = hit' e) : ∀ k i, innF l hit k i = innF l hit' k i := by
  intro k
  induction k with
  | zero => intro i; rfl
  | succ k ih =>
    intro i
    simp only [innF]
    cases hp : l[i]? with
    | none => rfl
    | some p =>
      simp only
      rw [any_congr fun e he => h p (List.mem_of_getElem? hp) e he]
      simp only [ih]
theorem inn_congr {l : List Prd} {hit hit' : Ent → Bool} (h : ∀ p ∈ l, ∀ e ∈ p.es, hit e = hit' e) (i : Nat) : inn l hit i = inn l hit' i := innF_congr h _ i
end Go.Proofs.YtlogapkpllgdcaaGreatDoor
/- A day's seconds as bits of words: heads, tails, what spans lay, the next one, canonical spans. -/
namespace Go.Proofs.YtlogapkpllgdcaaGreatDoor

def M64 : Nat := 18446744073709551615
/-- The bit of a second. -/
def bit (ws : List Nat) (j : Nat) : Bool := (ws.getD (j / 64) 0).testBit (j % 64)
theorem tb_max (i : Nat) : Nat.testBit 18446744073709551615 i = decide (i < 64) := by
  have : (18446744073709551615 : Nat) = 2 ^ 64 - 1 := rfl
  rw [this, Nat.testBit_two_pow_sub_one]
theorem tb_big {x i : Nat} (hx : x < 18446744073709551616) (hi : 64 ≤ i) : x.testBit i = false :=
  Nat.testBit_lt_two_pow (Nat.lt_of_lt_of_le hx (Nat.pow_le_pow_right (n := 2) (i := 64) (j := i) (by decide) hi))
theorem ext64 {x y : Nat} (hx : x < 18446744073709551616) (hy : y < 18446744073709551616) (h : ∀ i, i < 64 → x.testBit i = y.testBit i) : x = y := by
  apply Nat.eq_of_testBit_eq
  intro i
  by_cases hi : i < 64
  · exact h i hi
  · rw [tb_big hx (by omega), tb_big hy (by omega)]
/-- All bits from k on; all up to k. -/
def headN (k : Nat) : Nat := (18446744073709551615 * 2 ^ k) % 18446744073709551616
def tailN (k : Nat) : Nat := 18446744073709551615 / 2 ^ (63 - k)
theorem headN_lt (k : Nat) : headN k < 18446744073709551616 := Nat.mod_lt _ (by decide)
theorem tailN_lt (k : Nat) : tailN k < 18446744073709551616 := Nat.lt_of_le_of_lt (Nat.div_le_self _ _) (by decide)
theorem tb_head {k i : Nat} (hi : i < 64) : (headN k).testBit i = decide (k ≤ i) := by
  unfold headN
  have e : (18446744073709551616 : Nat) = 2 ^ 64 := rfl
  rw [e, Nat.testBit_mod_two_pow, Nat.testBit_mul_two_pow, tb_max]
  by_cases h : k ≤ i
  · have : i - k < 64 := by omega
    simp [h, hi, this]
  · simp [h]
theorem tb_tail {k i : Nat} (hk : k < 64) : (tailN k).testBit i = decide (i ≤ k) := by
  unfold tailN
  rw [Nat.testBit_div_two_pow, tb_max, Bool.eq_iff_iff, decide_eq_true_eq, decide_eq_true_eq]
  omega
/-- A word with the bits of one place set besides. -/
def orAt (ws : List Nat) (k x : Nat) : List Nat := ws.set k (ws.getD k 0 ||| x)
theorem orAt_length (ws : List Nat) (k x : Nat) : (orAt ws k x).length = ws.length := by simp [orAt]
def Words (ws : List Nat) : Prop := ws.length = 1350 ∧ ∀ x ∈ ws, x < 18446744073709551616
theorem Words.get {ws : List Nat} (h : Words ws) (k : Nat) : ws.getD k 0 < 18446744073709551616 := by
  rw [List.getD_eq_getElem?_getD]
  cases hk : ws[k]? with
  | none => simp
  | some x => exact h.2 x (List.mem_of_getElem? hk)
theorem Words.set {ws : List Nat} (h : Words ws) (k : Nat) {x : Nat} (hx : x < 18446744073709551616) : Words (ws.set k x) :=
  ⟨by rw [List.length_set]; exact h.1, fun y hy => by
    rcases List.mem_or_eq_of_mem_set hy with h' | rfl
    · exact h.2 y h'
    · exact hx⟩
theorem Words.orAt {ws : List Nat} (h : Words ws) (k : Nat) {x : Nat} (hx : x < 18446744073709551616) : Words (orAt ws k x) :=
  h.set k (Nat.or_lt_two_pow (n := 64) (h.get k) hx)
theorem getD_set {ws : List Nat} {k i x : Nat} (hk : k < ws.length) : (ws.set k x).getD i 0 = if i = k then x else ws.getD i 0 := by
  rw [List.getD_eq_getElem?_getD, List.getD_eq_getElem?_getD, List.getElem?_set]
  by_cases h : k = i
  · subst h; rw [if_pos rfl, if_pos hk, if_pos rfl]; rfl
  · rw [if_neg h, if_neg (fun e => h e.symm)]
theorem bit_set {ws : List Nat} {k x j : Nat} (hk : k < ws.length) : bit (ws.set k x) j = if j / 64 = k then x.testBit (j % 64) else bit ws j := by
  unfold bit
  rw [getD_set hk]
  split <;> rfl
theorem bit_orAt {ws : List Nat} {k x j : Nat} (hk : k < ws.length) : bit (orAt ws k x) j = (bit ws j || (decide (j / 64 = k) && x.testBit (j % 64))) := by
  unfold orAt
  rw [bit_set hk]
  by_cases h : j / 64 = k
  · rw [if_pos h, Nat.testBit_or]; unfold bit; rw [h]; simp
  · rw [if_neg h]; simp [h]
theorem bit_zero (n j : Nat) : bit (List.replicate n 0) j = false := by
  unfold bit
  rw [List.getD_eq_getElem?_getD, List.getElem?_replicate]
  split <;> simp
theorem words_zero : Words (List.replicate 1350 0) := ⟨List.length_replicate, fun x hx => by rw [(List.mem_replicate.1 hx).2]; decide⟩

/-- Spans in Nat's words: from word, to word, of the first and the last second. -/
def fw (s : Spn) : Nat := s.f.toNat / 64
def tw (s : Spn) : Nat := (s.t.toNat - 1) / 64
def fb (s : Spn) : Nat := s.f.toNat % 64
def lb (s : Spn) : Nat := (s.t.toNat - 1) % 64
/-- What a span lays by its ends. -/
def ends (ws : List Nat) (s : Spn) : List Nat :=
  if fw s = tw s then orAt ws (fw s) (headN (fb s) &&& tailN (lb s)) else orAt (orAt ws (fw s) (headN (fb s))) (tw s) (tailN (lb s))
theorem ends_words {ws : List Nat} (h : Words ws) (s : Spn) : Words (ends ws s) := by
  unfold ends
  split
  · exact h.orAt _ (Nat.and_lt_two_pow (n := 64) _ (tailN_lt _))
  · exact (h.orAt _ (headN_lt _)).orAt _ (tailN_lt _)
/-- Second j lies in span s. -/
def inS (s : Spn) (j : Nat) : Bool := decide (s.f ≤ (j : Int)) && decide ((j : Int) < s.t)
def endS (s : Spn) (j : Nat) : Bool := inS s j && (decide (j / 64 = fw s) || decide (j / 64 = tw s))
theorem bit_ends {ws : List Nat} (h : Words ws) {s : Spn} (hs : badS s = false) (j : Nat) : bit (ends ws s) j = (bit ws j || endS s j) := by
  obtain ⟨h1, h2, h3⟩ := badS_no hs
  have hj : j % 64 < 64 := Nat.mod_lt _ (by decide)
  obtain ⟨a, ha⟩ : ∃ a : Nat, s.f = a := ⟨s.f.toNat, by omega⟩
  obtain ⟨b, hb⟩ : ∃ b : Nat, s.t = b + 1 := ⟨s.t.toNat - 1, by omega⟩
  have e1 : s.f.toNat = a := by omega
  have e2 : s.t.toNat - 1 = b := by omega
  have l1 : a / 64 < ws.length := by rw [h.1]; omega
  have l2 : b / 64 < ws.length := by rw [h.1]; omega
  unfold ends endS inS fw tw fb lb
  rw [e1, e2, ha, hb]
  split
  · rename_i he
    rw [bit_orAt l1, Nat.testBit_and, tb_head hj, tb_tail (Nat.mod_lt _ (by decide))]
    congr 1
    rw [Bool.eq_iff_iff]
    simp only [Bool.and_eq_true, Bool.or_eq_true, decide_eq_true_eq]
    omega
  · rename_i he
    rw [bit_orAt (by rw [orAt_length]; exact l2), bit_orAt l1, tb_head hj, tb_tail (Nat.mod_lt _ (by decide)), Bool.or_assoc]
    congr 1
    rw [Bool.eq_iff_iff]
    simp only [Bool.and_eq_true, Bool.or_eq_true, decide_eq_true_eq]
    omega
/-- By how much the count of whole words moves at word k, by a span. -/
def step1 (s : Spn) (k : Nat) : Int := if fw s = tw s then 0 else (if k = fw s + 1 then 1 else 0) - (if k = tw s then 1 else 0)
def openN (l : List Spn) (k : Nat) : Nat := (l.filter fun s => decide (fw s < k) && decide (k < tw s)).length
def stepN (l : List Spn) (k : Nat) : Int := (l.map fun s => step1 s k).sum
theorem fw_le_tw {s : Spn} (hs : badS s = false) : fw s ≤ tw s ∧ tw s < 1350 := by
  obtain ⟨h1, h2, h3⟩ := badS_no hs
  unfold fw tw
  omega
theorem stepN_cons (s : Spn) (l : List Spn) (k : Nat) : stepN (s :: l) k = step1 s k + stepN l k := by simp [stepN]
theorem stepN_snoc (s : Spn) (l : List Spn) (k : Nat) : stepN (l ++ [s]) k = stepN l k + step1 s k := by simp [stepN]
theorem openN_cons (s : Spn) (l : List Spn) (k : Nat) : openN (s :: l) k = (if fw s < k ∧ k < tw s then 1 else 0) + openN l k := by
  unfold openN
  rw [List.filter_cons]
  by_cases h : fw s < k ∧ k < tw s
  · rw [if_pos (by simp [h]), if_pos h]; simp; omega
  · rw [if_neg (by simp; omega), if_neg h]; simp
/-- The count at word k + 1 is that at k, and the step. -/
theorem open_zero {l : List Spn} (hl : ∀ s ∈ l, badS s = false) : (openN l 0 : Int) = stepN l 0 := by
  induction l with
  | nil => rfl
  | cons s l ih =>
    have h1 := fw_le_tw (hl s List.mem_cons_self)
    have h2 := ih fun x hx => hl x (List.mem_cons_of_mem _ hx)
    rw [openN_cons, stepN_cons, ← h2]
    unfold step1
    split <;> (try split) <;> (try split) <;> omega
theorem open_succ {l : List Spn} (hl : ∀ s ∈ l, badS s = false) (k : Nat) : (openN l (k + 1) : Int) = openN l k + stepN l (k + 1) := by
  induction l with
  | nil => rfl
  | cons s l ih =>
    have h1 := fw_le_tw (hl s List.mem_cons_self)
    have h2 := ih fun x hx => hl x (List.mem_cons_of_mem _ hx)
    rw [openN_cons, openN_cons, stepN_cons]
    have e : ((((if fw s < k + 1 ∧ k + 1 < tw s then 1 else 0 : Nat) : Int))) = ((if fw s < k ∧ k < tw s then 1 else 0 : Nat) : Int) + step1 s (k + 1) := by
      unfold step1
      split <;> split <;> (try split) <;> (try split) <;> (try split) <;> omega
    omega
theorem openN_le (l : List Spn) (k : Nat) : openN l k ≤ l.length := List.length_filter_le _ _
theorem stepN_bd (l : List Spn) (k : Nat) : -(l.length : Int) ≤ stepN l k ∧ stepN l k ≤ l.length := by
  induction l with
  | nil => simp [stepN]
  | cons s l ih =>
    rw [stepN_cons, List.length_cons]
    have : -1 ≤ step1 s k ∧ step1 s k ≤ 1 := by
      unfold step1
      split <;> (try split) <;> (try split) <;> omega
    omega
theorem openN_pos {l : List Spn} {k : Nat} : 0 < openN l k ↔ ∃ s ∈ l, fw s < k ∧ k < tw s := by
  unfold openN
  rw [List.length_pos_iff_exists_mem]
  constructor
  · rintro ⟨s, hs⟩
    rw [List.mem_filter] at hs
    exact ⟨s, hs.1, by simpa using hs.2⟩
  · rintro ⟨s, hs, h⟩
    exact ⟨s, List.mem_filter.2 ⟨hs, by simpa using h⟩⟩
/-- Ends, and whole words, are what spans have. -/
theorem laid_all {l : List Spn} (hl : ∀ s ∈ l, badS s = false) {ws : List Nat} (j : Nat) (hj : j < 86400) (h1 : bit ws j = (l.any fun s => endS s j)) (o : Bool) (ho : o = decide (0 < openN l (j / 64))) :
    (o || bit ws j) = l.any fun s => inS s j := by
  rw [h1, ho, Bool.eq_iff_iff]
  simp only [Bool.or_eq_true, decide_eq_true_eq, List.any_eq_true, openN_pos]
  constructor
  · rintro (⟨s, hs, h2, h3⟩ | ⟨s, hs, h2⟩)
    · refine ⟨s, hs, ?_⟩
      have := badS_no (hl s hs)
      unfold fw tw at *
      unfold inS
      simp only [Bool.and_eq_true, decide_eq_true_eq]
      omega
    · refine ⟨s, hs, ?_⟩
      unfold endS at h2
      simp only [Bool.and_eq_true] at h2
      exact h2.1
  · rintro ⟨s, hs, h2⟩
    have := badS_no (hl s hs)
    by_cases hq : j / 64 = fw s ∨ j / 64 = tw s
    · refine .inr ⟨s, hs, ?_⟩
      unfold endS
      rw [h2]
      simpa using hq
    · refine .inl ⟨s, hs, ?_⟩
      unfold inS at h2
      simp only [Bool.and_eq_true, decide_eq_true_eq] at h2
      unfold fw tw at *
      omega
theorem tb_diff (x y i : Nat) (hx : x < 18446744073709551616) : (x &&& (18446744073709551615 - y % 18446744073709551616)).testBit i = (x.testBit i && !y.testBit i) := by
  by_cases hi : i < 64
  · have e : 18446744073709551615 - y % 18446744073709551616 = 2 ^ 64 - (y % 18446744073709551616 + 1) := by omega
    rw [Nat.testBit_and, e, Nat.testBit_two_pow_sub_succ (by omega)]
    have e2 : (18446744073709551616 : Nat) = 2 ^ 64 := rfl
    rw [e2, Nat.testBit_mod_two_pow]
    simp [hi]
  · rw [Nat.testBit_and, tb_big hx (by omega)]; simp
theorem tb_not {x i : Nat} (hx : x < 18446744073709551616) (hi : i < 64) : (18446744073709551615 - x).testBit i = !x.testBit i := by
  have e : 18446744073709551615 - x = 2 ^ 64 - (x + 1) := by omega
  rw [e, Nat.testBit_two_pow_sub_succ (by omega)]
  simp [hi]
/-- The first bit that is set. -/
theorem ctz_low {x : Nat} (h0 : x ≠ 0) (hx : x < 18446744073709551616) : Lib.ctz 64 x < 64 ∧ x.testBit (Lib.ctz 64 x) = true ∧ ∀ i, i < Lib.ctz 64 x → x.testBit i = false := by
  have e : Lib.ctz 64 x = Lib.ctzFrom 64 x := by simp [Lib.ctz, h0]
  obtain ⟨m, hm, hk⟩ := Lib.ctzFrom_spec 64 x (by omega) hx
  rw [e]
  generalize Lib.ctzFrom 64 x = k at *
  refine ⟨hk, ?_, fun i hi => ?_⟩
  · rw [hm, Nat.mul_comm, Nat.testBit_mul_two_pow]
    simp [Nat.testBit_zero]
  · rw [hm, Nat.mul_comm, Nat.testBit_mul_two_pow]
    simp; omega
theorem zero_bits {x : Nat} (h0 : x = 0) (i : Nat) : x.testBit i = false := by rw [h0]; exact Nat.zero_testBit i
end Go.Proofs.YtlogapkpllgdcaaGreatDoor
/- Spans that ascend and neither touch nor meet: one list for one set of seconds. Plain. -/
namespace Go.Proofs.YtlogapkpllgdcaaGreatDoor

def Can : Int → List Spn → Prop
  | _, [] => True
  | lo, s :: r => lo < s.f ∧ s.f < s.t ∧ s.t ≤ 86400 ∧ Can s.t r
def lastT (lo : Int) : List Spn → Int
  | [] => lo
  | s :: r => lastT s.t r
theorem lastT_snoc (lo : Int) (l : List Spn) (s : Spn) : lastT lo (l ++ [s]) = s.t := by
  induction l generalizing lo with
  | nil => rfl
  | cons a l ih => exact ih a.t
theorem Can.snoc {lo : Int} {l : List Spn} {s : Spn} (h : Can lo l) (h1 : lastT lo l < s.f) (h2 : s.f < s.t) (h3 : s.t ≤ 86400) : Can lo (l ++ [s]) := by
  induction l generalizing lo with
  | nil => exact ⟨h1, h2, h3, trivial⟩
  | cons a l ih => exact ⟨h.1, h.2.1, h.2.2.1, ih h.2.2.2 h1⟩
theorem Can.lo {lo : Int} {l : List Spn} (h : Can lo l) : lo ≤ lastT lo l := by
  induction l generalizing lo with
  | nil => exact Int.le_refl _
  | cons a l ih => have := ih h.2.2.2; have := h.1; have := h.2.1; show lo ≤ lastT a.t l; omega
/-- A second that is in lies behind lo. -/
theorem Can.in_lo {lo : Int} {l : List Spn} {j : Nat} (h : Can lo l) (hj : l.any (fun s => inS s j) = true) : lo < j := by
  induction l generalizing lo with
  | nil => cases hj
  | cons a l ih =>
    rw [List.any_cons, Bool.or_eq_true] at hj
    rcases hj with hj | hj
    · simp only [inS, Bool.and_eq_true, decide_eq_true_eq] at hj
      have := h.1
      omega
    · have := ih h.2.2.2 hj
      have := h.1
      have := h.2.1
      omega
theorem Can.at_ {lo : Int} {l : List Spn} (h : Can lo l) (k : Nat) (hk : k < l.length) : lo < (l.getD k ⟨0, 0⟩).f ∧ (l.getD k ⟨0, 0⟩).f < (l.getD k ⟨0, 0⟩).t ∧ (l.getD k ⟨0, 0⟩).t ≤ 86400 := by
  induction l generalizing lo k with
  | nil => cases hk
  | cons a l ih =>
    cases k with
    | zero => exact ⟨h.1, h.2.1, h.2.2.1⟩
    | succ k =>
      have h1 := ih h.2.2.2 k (by simpa using hk)
      have h2 := h.1
      have h3 := h.2.1
      rw [List.getD_cons_succ]
      omega
theorem Can.gap {lo : Int} {l : List Spn} (h : Can lo l) (k : Nat) (hk : k + 1 < l.length) : (l.getD k ⟨0, 0⟩).t < (l.getD (k + 1) ⟨0, 0⟩).f := by
  induction l generalizing lo k with
  | nil => cases hk
  | cons a l ih =>
    cases k with
    | zero => exact (h.2.2.2.at_ 0 (by simpa using hk)).1
    | succ k =>
      rw [List.getD_cons_succ, List.getD_cons_succ]
      exact ih h.2.2.2 k (by simpa using hk)
/-- Of one set of seconds there is one such list. -/
theorem Can.one {lo : Int} {l l' : List Spn} (hlo : -1 ≤ lo) (h : Can lo l) (h' : Can lo l') (he : ∀ j : Nat, (l.any fun s => inS s j) = (l'.any fun s => inS s j)) : l = l' := by
  induction l generalizing lo l' with
  | nil =>
    cases l' with
    | nil => rfl
    | cons a r =>
      have h1 := h'.1
      have h2 := h'.2.1
      have := he a.f.toNat
      rw [List.any_nil, List.any_cons] at this
      have hin : inS a a.f.toNat = true := by simp only [inS, Bool.and_eq_true, decide_eq_true_eq]; omega
      rw [hin] at this
      cases this
  | cons s l ih =>
    have a1 := h.1
    have a2 := h.2.1
    have a3 := h.2.2.1
    cases l' with
    | nil =>
      have := he s.f.toNat
      rw [List.any_nil, List.any_cons] at this
      have hin : inS s s.f.toNat = true := by simp only [inS, Bool.and_eq_true, decide_eq_true_eq]; omega
      rw [hin] at this
      cases this
    | cons s' r =>
      have b1 := h'.1
      have b2 := h'.2.1
      have b3 := h'.2.2.1
      have key : ∀ (x y : Spn) (p q : List Spn), lo < x.f → x.f < x.t → Can x.t p → y.f < y.t → Can y.t q → (∀ j : Nat, ((x :: p).any fun s => inS s j) = ((y :: q).any fun s => inS s j)) → y.f ≤ x.f := by
        intro x y p q c1 c2 _ c4 c5 ce
        have := ce x.f.toNat
        have hin : inS x x.f.toNat = true := by simp only [inS, Bool.and_eq_true, decide_eq_true_eq]; omega
        rw [List.any_cons, hin, Bool.true_or, List.any_cons, eq_comm, Bool.or_eq_true] at this
        rcases this with h | h
        · simp only [inS, Bool.and_eq_true, decide_eq_true_eq] at h
          omega
        · have := c5.in_lo h
          omega
      have f1 := key s s' l r a1 a2 h.2.2.2 b2 h'.2.2.2 he
      have f2 := key s' s r l b1 b2 h'.2.2.2 a2 h.2.2.2 (fun j => (he j).symm)
      have ef : s.f = s'.f := by omega
      have key2 : ∀ (x y : Spn) (p q : List Spn), lo < x.f → x.f = y.f → x.f < x.t → Can x.t p → (∀ j : Nat, ((x :: p).any fun s => inS s j) = ((y :: q).any fun s => inS s j)) → ¬ x.t < y.t := by
        intro x y p q c1 c2 c3 c4 ce hlt
        have := ce x.t.toNat
        have hin : inS y x.t.toNat = true := by simp only [inS, Bool.and_eq_true, decide_eq_true_eq]; omega
        rw [List.any_cons (l := q), hin, Bool.true_or, List.any_cons, Bool.or_eq_true] at this
        rcases this with h | h
        · simp only [inS, Bool.and_eq_true, decide_eq_true_eq] at h
          omega
        · have := c4.in_lo h
          omega
      have t1 := key2 s s' l r a1 ef a2 h.2.2.2 he
      have t2 := key2 s' s r l b1 ef.symm b2 h'.2.2.2 (fun j => (he j).symm)
      have et : s.t = s'.t := by omega
      have es : s = s' := by cases s; cases s'; simp_all
      subst es
      congr 1
      refine ih (by omega) h.2.2.2 h'.2.2.2 fun j => ?_
      have hj := he j
      rw [List.any_cons, List.any_cons] at hj
      cases hi : inS s j
      · rw [hi, Bool.false_or, Bool.false_or] at hj
        exact hj
      · have hle : ¬ s.t < (j : Int) := by
          simp only [inS, Bool.and_eq_true, decide_eq_true_eq] at hi
          omega
        have n1 : (l.any fun s => inS s j) = false := by
          cases hx : l.any fun s => inS s j
          · rfl
          · exact absurd (h.2.2.2.in_lo hx) hle
        have n2 : (r.any fun s => inS s j) = false := by
          cases hx : r.any fun s => inS s j
          · rfl
          · exact absurd (h'.2.2.2.in_lo hx) hle
        rw [n1, n2]
/-- Up to q the spans are the seconds of f; q is the next one. -/
structure Upq (f : Nat → Bool) (o : List Spn) (q : Nat) : Prop where
  can : Can (-1) o
  last : lastT (-1) o < q ∨ q = 86400
  mem : ∀ j, j < q → f j = o.any fun s => inS s j
  top : q ≤ 86400
theorem any_snoc (o : List Spn) (s : Spn) (j : Nat) : ((o ++ [s]).any fun s => inS s j) = ((o.any fun s => inS s j) || inS s j) := by simp
/-- Behind the last span nothing is in. -/
theorem Can.none_hi {lo : Int} {l : List Spn} {j : Nat} (h : Can lo l) (hj : lastT lo l ≤ j) : (l.any fun s => inS s j) = false := by
  induction l generalizing lo with
  | nil => rfl
  | cons a l ih =>
    have h1 := h.2.2.2.lo
    have h2 : lastT a.t l ≤ j := hj
    rw [List.any_cons, ih h.2.2.2 h2, Bool.or_false]
    simp only [inS, Bool.and_eq_false_iff, decide_eq_false_iff_not]
    omega
/-- One span more. -/
theorem Upq.step {f : Nat → Bool} {o : List Spn} {q t r : Nat} (h : Upq f o q) (hq : q < 86400) (hf : f q = true) (hlast : lastT (-1) o < q)
    (ht1 : q ≤ t) (ht2 : t ≤ 86400) (ht3 : ∀ j, q ≤ j → j < t → f j = true) (ht4 : t < 86400 → f t = false)
    (hr1 : t ≤ r) (hr2 : r ≤ 86400) (hr3 : ∀ j, t ≤ j → j < r → f j = false) (hr4 : r < 86400 → f r = true) : Upq f (o ++ [⟨q, t⟩]) r := by
  have hqt : q < t := by
    rcases Nat.lt_or_ge q t with h | h
    · exact h
    · have e : q = t := by omega
      subst e
      rw [ht4 hq] at hf
      cases hf
  refine ⟨h.can.snoc hlast (by show (q : Int) < t; omega) (by show (t : Int) ≤ 86400; omega), ?_, fun j hj => ?_, hr2⟩
  · rw [lastT_snoc]
    by_cases e : r = 86400
    · exact .inr e
    · refine .inl ?_
      show (t : Int) < r
      have : t ≠ r := fun e' => by
        subst e'
        rw [ht4 (by omega)] at hr4
        cases hr4 (by omega)
      omega
  · rw [any_snoc]
    rcases Nat.lt_or_ge j q with h1 | h1
    · rw [← h.mem j h1]
      have : inS ⟨q, t⟩ j = false := by
        simp only [inS, Bool.and_eq_false_iff, decide_eq_false_iff_not]
        omega
      rw [this, Bool.or_false]
    · have hn := h.can.none_hi (j := j) (by omega)
      rw [hn, Bool.false_or]
      rcases Nat.lt_or_ge j t with h2 | h2
      · rw [ht3 j h1 h2, eq_comm]
        simp only [inS, Bool.and_eq_true, decide_eq_true_eq]
        omega
      · rw [hr3 j h2 hj, eq_comm]
        simp only [inS, Bool.and_eq_false_iff, decide_eq_false_iff_not]
        omega
theorem Upq.start {f : Nat → Bool} {q : Nat} (h1 : q ≤ 86400) (h2 : ∀ j, j < q → f j = false) : Upq f [] q :=
  ⟨trivial, .inl (by show (-1 : Int) < q; omega), fun j hj => by rw [h2 j hj]; rfl, h1⟩
end Go.Proofs.YtlogapkpllgdcaaGreatDoor

/- Layer 5's texts of seconds, plain lists: two digits, a second's text, a list cut at a byte. -/
import Derived.Test.YtlogapkpllgdcaaDoorBase
import Derived.Lib.ItoaNum
import Derived.Lib.SplitLaws
namespace Go.Proofs.YtlogapkpllgdcaaDoor

abbrev Bs' := List UInt8
/-- Two digits. -/
def d2 (n : Nat) : Bs' := [UInt8.ofNat (48 + n / 10), UInt8.ofNat (48 + n % 10)]
/-- A second's text, and the short one. -/
def tx8 (h m s : Nat) : Bs' := d2 h ++ 58 :: (d2 m ++ 58 :: d2 s)
def tx5 (h m : Nat) : Bs' := d2 h ++ 58 :: d2 m
def isDg (c : UInt8) : Bool := 48 ≤ c.toNat && c.toNat ≤ 57
/-- What two digits tell. -/
def num2 : Bs' → Option Nat
  | [a, b] => if (isDg a && isDg b) = true then some ((a.toNat - 48) * 10 + (b.toNat - 48)) else none
  | _ => none
theorem u8_of (c : UInt8) (n : Nat) (h : c.toNat = n) : c = UInt8.ofNat n := by
  subst h
  simp
theorem num2_d2 (n : Nat) (h : n < 100) : num2 (d2 n) = some n := by
  have h1 : (UInt8.ofNat (48 + n / 10)).toNat = 48 + n / 10 := by
    rw [UInt8.toNat_ofNat']; omega
  have h2 : (UInt8.ofNat (48 + n % 10)).toNat = 48 + n % 10 := by
    rw [UInt8.toNat_ofNat']; omega
  unfold num2 d2 isDg
  simp only [h1, h2]
  rw [if_pos (by simp; omega)]
  congr 1
  omega
theorem num2_some {l : Bs'} {n : Nat} (h : num2 l = some n) : n < 100 ∧ l = d2 n := by
  unfold num2 at h
  split at h
  · rename_i a b
    split at h
    · rename_i hd
      unfold isDg at hd
      simp at hd
      injection h with h
      refine ⟨by omega, ?_⟩
      unfold d2
      rw [← u8_of a (48 + n / 10) (by omega), ← u8_of b (48 + n % 10) (by omega)]
    · cases h
  · cases h
theorem num2_len {l : Bs'} (h : l.length ≠ 2) : num2 l = none := by
  unfold num2
  split
  · simp at h
  · rfl
theorem d2_ne (n : Nat) (h : n < 100) : UInt8.ofNat (48 + n / 10) ≠ 58 ∧ UInt8.ofNat (48 + n % 10) ≠ 58 := by
  constructor
  · intro e
    have := congrArg UInt8.toNat e
    rw [UInt8.toNat_ofNat'] at this
    have e58 : (58 : UInt8).toNat = 58 := rfl
    omega
  · intro e
    have := congrArg UInt8.toNat e
    rw [UInt8.toNat_ofNat'] at this
    have e58 : (58 : UInt8).toNat = 58 := rfl
    omega

/-! A list cut at each byte c. -/
def cutAt (c : UInt8) : Bs' → List Bs'
  | [] => [[]]
  | b :: l => if b = c then [] :: cutAt c l else match cutAt c l with
    | [] => [[b]]
    | p :: ps => (b :: p) :: ps
theorem cutAt_ne (c : UInt8) (l : Bs') : cutAt c l ≠ [] := by
  cases l with
  | nil => simp [cutAt]
  | cons b l =>
    unfold cutAt
    split
    · simp
    · split <;> simp
theorem cutAt_cons (c b : UInt8) (l : Bs') (h : b ≠ c) : ∃ p ps, cutAt c l = p :: ps ∧ cutAt c (b :: l) = (b :: p) :: ps := by
  rcases hc : cutAt c l with _ | ⟨p, ps⟩
  · exact absurd hc (cutAt_ne c l)
  · refine ⟨p, ps, rfl, ?_⟩
    rw [cutAt, if_neg h, hc]
theorem cutAt_self (c : UInt8) (l : Bs') : cutAt c (c :: l) = [] :: cutAt c l := by rw [cutAt, if_pos rfl]
theorem index_self1 (c : UInt8) (l : Bs') : Lib.index (c :: l) [c] = 0 := by
  unfold Lib.index
  rw [if_pos (by simp [List.isPrefixOf])]
theorem index_skip1 (c b : UInt8) (l : Bs') (h : b ≠ c) : Lib.index (b :: l) [c] = if Lib.index l [c] == -1 then -1 else Lib.index l [c] + 1 := by
  conv => lhs; unfold Lib.index
  rw [if_neg (by simp [List.isPrefixOf]; exact fun e => h e.symm)]
theorem index_count (c : UInt8) : ∀ l : Bs', (Lib.index l [c] = -1 ∧ l.count c = 0) ∨ (∃ i : Nat, Lib.index l [c] = i ∧ 1 ≤ l.count c)
  | [] => .inl ⟨rfl, rfl⟩
  | b :: l => by
    by_cases h : b = c
    · subst h
      exact .inr ⟨0, index_self1 b l, by rw [List.count_cons_self]; omega⟩
    · rw [List.count_cons_of_ne h, index_skip1 c b l h]
      rcases index_count c l with ⟨h1, h2⟩ | ⟨i, h1, h2⟩
      · exact .inl ⟨by rw [h1]; rfl, h2⟩
      · refine .inr ⟨i + 1, ?_, h2⟩
        rw [h1, if_neg (show ¬ ((i : Int) == -1) = true by simp)]
        omega
theorem splitK_cut (c : UInt8) : ∀ l : Bs', Lib.splitK [c] 0 (l.count c) l = cutAt c l
  | [] => rfl
  | b :: l => by
    by_cases h : b = c
    · subst h
      rw [List.count_cons_self, cutAt_self, Lib.splitK, index_self1, if_neg (by decide)]
      simp
      exact splitK_cut b l
    · have ih := splitK_cut c l
      obtain ⟨p, ps, h1, h2⟩ := cutAt_cons c b l h
      rw [h1] at ih
      rw [List.count_cons_of_ne h, h2]
      rcases index_count c l with ⟨e1, e2⟩ | ⟨i, e1, e2⟩
      · rw [e2] at ih ⊢
        unfold Lib.splitK at ih ⊢
        simp only [List.cons.injEq] at ih
        obtain ⟨rfl, rfl⟩ := ih
        rfl
      · obtain ⟨k, hk⟩ : ∃ k, l.count c = k + 1 := ⟨l.count c - 1, by omega⟩
        rw [hk] at ih ⊢
        unfold Lib.splitK at ih ⊢
        rw [index_skip1 c b l h]
        rw [e1] at ih ⊢
        rw [if_neg (show ¬ ((i : Int) == -1) = true by simp)] at ih
        rw [if_neg (show ¬ ((i : Int) == -1) = true by simp)]
        rw [if_neg (show ¬ ((i : Int) + 1 == -1) = true by simp; omega)]
        rw [show ((i : Int) + 1).toNat = i + 1 by omega]
        rw [show ((i : Int)).toNat = i by omega] at ih
        simp only [List.cons.injEq, Nat.add_zero, List.take_succ_cons, true_and, List.length_cons, List.length_nil] at ih ⊢
        obtain ⟨rfl, rfl⟩ := ih
        refine ⟨rfl, ?_⟩
        rw [show i + 1 + (0 + 1) = (i + 1) + 1 by omega, List.drop_succ_cons]
theorem split_cut (c : UInt8) (l : Bs') : Lib.split l [c] = cutAt c l := by
  unfold Lib.split
  rw [Lib.count_one]
  exact splitK_cut c l
theorem cutAt_length (c : UInt8) : ∀ l : Bs', (cutAt c l).length = l.count c + 1
  | [] => rfl
  | b :: l => by
    by_cases h : b = c
    · subst h
      rw [cutAt_self, List.count_cons_self, List.length_cons, cutAt_length b l]
    · obtain ⟨p, ps, h1, h2⟩ := cutAt_cons c b l h
      have := cutAt_length c l
      rw [h1] at this
      rw [h2, List.count_cons_of_ne h]
      exact this

/-- What the pieces tell together. -/
def pg : List Bs' → Nat → Nat → Option Nat
  | [], _, n => some n
  | p :: ps, i, n => match num2 p with
    | none => none
    | some v => if 0 < i ∧ 60 ≤ v then none else pg ps (i + 1) (n * 60 + v)
theorem pg_none (p : Bs') (ps : List Bs') (i n : Nat) (h : num2 p = none) : pg (p :: ps) i n = none := by simp [pg, h]
theorem pg_some (p : Bs') (ps : List Bs') (i n v : Nat) (h : num2 p = some v) : pg (p :: ps) i n = if 0 < i ∧ 60 ≤ v then none else pg ps (i + 1) (n * 60 + v) := by simp [pg, h]
theorem cut_end (n : Nat) (h : n < 100) : cutAt 58 (d2 n) = [d2 n] := by
  obtain ⟨h1, h2⟩ := d2_ne n h
  unfold d2
  rw [cutAt, if_neg h1, cutAt, if_neg h2, cutAt]
theorem cut_more (n : Nat) (h : n < 100) (l : Bs') : cutAt 58 (d2 n ++ 58 :: l) = d2 n :: cutAt 58 l := by
  obtain ⟨h1, h2⟩ := d2_ne n h
  unfold d2
  simp only [List.cons_append, List.nil_append]
  rw [cutAt, if_neg h1, cutAt, if_neg h2, cutAt_self]
/-- A list whose pieces tell a number begins with two digits. -/
theorem pg_cut {l : Bs'} {i n r : Nat} (h : pg (cutAt 58 l) i n = some r) :
    ∃ v, v < 100 ∧ ¬ (0 < i ∧ 60 ≤ v) ∧ ((l = d2 v ∧ r = n * 60 + v) ∨ ∃ l', l = d2 v ++ 58 :: l' ∧ pg (cutAt 58 l') (i + 1) (n * 60 + v) = some r) := by
  have key : ∀ {p : Bs'} {ps : List Bs'}, cutAt 58 l = p :: ps → ∃ v, v < 100 ∧ p = d2 v ∧ ¬ (0 < i ∧ 60 ≤ v) ∧ pg ps (i + 1) (n * 60 + v) = some r := by
    intro p ps e
    rw [e] at h
    cases hn : num2 p with
    | none => rw [pg_none _ _ _ _ hn] at h; cases h
    | some v =>
      rw [pg_some _ _ _ _ _ hn] at h
      split at h
      · cases h
      · exact ⟨v, (num2_some hn).1, (num2_some hn).2, by assumption, h⟩
  rcases l with _ | ⟨a, _ | ⟨b, l⟩⟩
  · obtain ⟨v, _, e, _⟩ := key (p := []) (ps := []) rfl
    unfold d2 at e
    cases e
  · by_cases ha : a = 58
    · subst ha
      obtain ⟨v, _, e, _⟩ := key (cutAt_self 58 _)
      unfold d2 at e
      cases e
    · obtain ⟨v, _, e, _⟩ := key (p := [a]) (ps := []) (by rw [cutAt, if_neg ha]; rfl)
      unfold d2 at e
      cases e
  · by_cases ha : a = 58
    · subst ha
      obtain ⟨v, _, e, _⟩ := key (cutAt_self 58 _)
      unfold d2 at e
      cases e
    · by_cases hb : b = 58
      · subst hb
        obtain ⟨v, _, e, _⟩ := key (p := [a]) (ps := cutAt 58 l) (by rw [cutAt, if_neg ha, cutAt_self])
        unfold d2 at e
        cases e
      · rcases l with _ | ⟨c, l⟩
        · obtain ⟨v, hv, e, hi, hp⟩ := key (p := [a, b]) (ps := []) (by rw [cutAt, if_neg ha, cutAt, if_neg hb]; rfl)
          refine ⟨v, hv, hi, .inl ⟨e, ?_⟩⟩
          unfold pg at hp
          injection hp with hp
          exact hp.symm
        · by_cases hc : c = 58
          · subst hc
            obtain ⟨v, hv, e, hi, hp⟩ := key (p := [a, b]) (ps := cutAt 58 l) (by rw [cutAt, if_neg ha, cutAt, if_neg hb, cutAt_self])
            refine ⟨v, hv, hi, .inr ⟨l, ?_, hp⟩⟩
            rw [← e]
            rfl
          · obtain ⟨p, ps, _, e2⟩ := cutAt_cons 58 c l hc
            obtain ⟨v, hv, e, hi, hp⟩ := key (p := a :: b :: c :: p) (ps := ps) (by rw [cutAt, if_neg ha, cutAt, if_neg hb, e2])
            unfold d2 at e
            cases e
theorem pg_tx8 (h m s : Nat) (h1 : h < 100) (h2 : m < 60) (h3 : s < 60) : pg (cutAt 58 (tx8 h m s)) 0 0 = some (3600 * h + 60 * m + s) := by
  unfold tx8
  rw [cut_more h h1, cut_more m (by omega), cut_end s (by omega), pg_some _ _ _ _ _ (num2_d2 h h1), if_neg (by omega), pg_some _ _ _ _ _ (num2_d2 m (by omega)), if_neg (by omega), pg_some _ _ _ _ _ (num2_d2 s (by omega)), if_neg (by omega)]
  unfold pg
  congr 1
  omega
theorem d2_len (n : Nat) : (d2 n).length = 2 := rfl
/-- Eight bytes whose pieces tell a number are a text. -/
theorem pg_form {l : Bs'} {r : Nat} (hl : l.length = 8) (h : pg (cutAt 58 l) 0 0 = some r) : ∃ a m s, a < 100 ∧ m < 60 ∧ s < 60 ∧ l = tx8 a m s ∧ r = 3600 * a + 60 * m + s := by
  obtain ⟨a, ha, _, ⟨rfl, _⟩ | ⟨l1, rfl, h1⟩⟩ := pg_cut h
  · simp [d2_len] at hl
  · obtain ⟨m, hm, hm2, ⟨rfl, _⟩ | ⟨l2, rfl, h2⟩⟩ := pg_cut h1
    · simp [d2_len] at hl
    · obtain ⟨s, hs, hs2, ⟨rfl, rfl⟩ | ⟨l3, rfl, h3⟩⟩ := pg_cut h2
      · exact ⟨a, m, s, ha, by omega, by omega, rfl, by omega⟩
      · simp only [List.length_append, List.length_cons, d2_len] at hl
        omega

/-! Digits, one ahead of the other. -/
def dgs (m least : Nat) (tail : Bs') : Bs' :=
  if 0 < m ∨ tail.length < least then dgs (m / 10) least (UInt8.ofNat (48 + m % 10) :: tail) else tail
termination_by m + (least - tail.length)
decreasing_by
  simp only [List.length_cons]
  omega
theorem dgs_go (m least : Nat) (tail : Bs') (h : 0 < m ∨ tail.length < least) : dgs m least tail = dgs (m / 10) least (UInt8.ofNat (48 + m % 10) :: tail) := by rw [dgs, if_pos h]
theorem dgs_end (m least : Nat) (tail : Bs') (h : ¬ (0 < m ∨ tail.length < least)) : dgs m least tail = tail := by rw [dgs, if_neg h]
theorem dgs_more (least : Nat) : ∀ (n m : Nat), m ≤ n → 1 ≤ m → ∀ tail : Bs', least ≤ tail.length + 1 → dgs m least tail = Lib.decDigits m ++ tail
  | 0, m, h, h1, _, _ => by omega
  | n + 1, m, h, h1, tail, hl => by
    rw [dgs_go _ _ _ (.inl h1)]
    by_cases h10 : m < 10
    · rw [dgs_end _ _ _ (by simp; omega), Lib.decDigits_one h10, show m % 10 = m by omega]
      rfl
    · rw [dgs_more least n (m / 10) (by omega) (by omega) _ (by simp; omega)]
      rw [Lib.decDigits.eq_1 m, dif_neg h10, List.append_assoc]
      rfl
theorem dgs_one (m : Nat) (h : 1 ≤ m) : dgs m 1 [] = Lib.decDigits m := by
  rw [dgs_more 1 m m (Nat.le_refl _) h [] (by simp), List.append_nil]
theorem dgs_two (m : Nat) (h : m < 100) : dgs m 2 [] = d2 m := by
  rw [dgs_go _ _ _ (.inr (by simp)), dgs_go _ _ _ (.inr (by simp)), dgs_end _ _ _ (by simp; omega)]
  unfold d2
  rw [show m / 10 % 10 = m / 10 by omega]
theorem digits_at (r : Nat) (h : r < 10) : ("0123456789".toUTF8.data.toList.drop r).take (r + 1 - r) = [UInt8.ofNat (48 + r)] := by
  have : ∀ i : Fin 10, ("0123456789".toUTF8.data.toList.drop i).take (i + 1 - i) = [UInt8.ofNat (48 + i.val)] := by decide
  exact this ⟨r, h⟩
end Go.Proofs.YtlogapkpllgdcaaDoor

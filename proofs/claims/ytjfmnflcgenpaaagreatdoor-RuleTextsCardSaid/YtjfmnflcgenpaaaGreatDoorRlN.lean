/- The document's lists and texts (layer 6), plain. -/
import Derived.Test.YtjfmnflcgenpaaaGreatDoorRlM
namespace Go.Proofs.YtjfmnflcgenpaaaGreatDoor

/-- Numbers from a on, s apart. -/
def apr (a s : Int) (k : Nat) : List Int := (List.range k).map fun (j : Nat) => a + s * (j : Int)
theorem apr_succ (a s : Int) (k : Nat) : apr a s (k + 1) = apr a s k ++ [a + s * k] := by
  unfold apr
  rw [List.range_succ, List.map_append]
  rfl
theorem apr_length (a s : Int) (k : Nat) : (apr a s k).length = k := by simp [apr]
theorem apr_get (a s : Int) (k j : Nat) (h : j < k) : (apr a s k)[j]? = some (a + s * j) := by simp [apr, h]
/-- How many of the first i days, from c on, lie seven apart. -/
def cn7 (c i : Nat) : Nat := (i + 6 - c) / 7
theorem cn7_hit {c i : Nat} (hc : c < 7) (h : i % 7 = c) : cn7 c (i + 1) = cn7 c i + 1 ∧ i = c + 7 * cn7 c i := by unfold cn7; omega
theorem cn7_miss {c i : Nat} (hc : c < 7) (h : i % 7 ≠ c) : cn7 c (i + 1) = cn7 c i := by unfold cn7; omega
/-- A list's place that is asked for. -/
def atR (N : Int) (k : Nat) : Int := if N < 0 then k + N else N - 1
/-- Whether the number there is the day. -/
def pick (a s : Int) (k : Nat) (N day : Int) : Bool := decide (0 ≤ atR N k ∧ atR N k < k ∧ a + s * atR N k = day)
theorem pick_1 (y : Int) (m n : Nat) (d mo N fi : Int) (hn : mlen y m = n) (hd : 1 ≤ d) (hl : d ≤ n) (hm : mo = 0 ∨ mo = m) (_h0 : N ≠ 0) :
    hitsR ⟨1, mo, N, 0, 0, 0, 0, 0, 0, 0⟩ y m d (fi + d - 1) = pick fi 1 n N (fi + d - 1) := by
  show (decide (mo = 0 ∨ mo = m) && decide (N = d ∨ N = -(mlen y m - d + 1))) = _
  rw [hn, decide_eq_true hm, Bool.true_and]
  unfold pick atR
  rw [Bool.eq_iff_iff]
  simp only [decide_eq_true_eq]
  split <;> omega
theorem pick_2 (y : Int) (m n c : Nat) (d mo N wk fi : Int) (hn : mlen y m = n) (hd : 1 ≤ d) (hl : d ≤ n) (hm : mo = 0 ∨ mo = m) (_h0 : N ≠ 0) (hc : c < 7) (hw : wd (fi + c) = wk) :
    hitsR ⟨2, mo, N, wk, 0, 0, 0, 0, 0, 0⟩ y m d (fi + d - 1) = pick (fi + c) 7 (cn7 c n) N (fi + d - 1) := by
  show (decide (wd (fi + d - 1) = wk) && (decide (mo = 0 ∨ mo = m) && decide (N = (d - 1) / 7 + 1 ∨ N = -((mlen y m - d) / 7 + 1)))) = _
  rw [hn, decide_eq_true hm, Bool.true_and]
  unfold pick atR cn7
  rw [Bool.eq_iff_iff]
  simp only [Bool.and_eq_true, decide_eq_true_eq]
  unfold wd at *
  split <;> omega
theorem wd_hit (c i : Nat) (fi wk : Int) (hc : c < 7) (hw : wd (fi + c) = wk) : (wd (fi + i) = wk) ↔ i % 7 = c := by
  unfold wd at *
  omega

/-! A list cut at a byte, place by place. -/
theorem piece_hit (c : UInt8) (l : List UInt8) (a i : Nat) (h : a ≤ i) (hi : i < l.length) (hc : l[i] = c) (hno : c ∉ (l.drop a).take (i - a)) :
    cutAt c (l.drop a) = ((l.drop a).take (i - a)) :: cutAt c (l.drop (i + 1)) := by
  have e : l.drop a = (l.drop a).take (i - a) ++ c :: l.drop (i + 1) := by
    conv => lhs; rw [← List.take_append_drop (i - a) (l.drop a)]
    rw [List.drop_drop, show a + (i - a) = i by omega, List.drop_eq_getElem_cons hi, hc]
  have h2 := cutAt_app c _ (l.drop (i + 1)) hno
  rw [← e] at h2
  exact h2
theorem piece_more (c : UInt8) (l : List UInt8) (a i : Nat) (h : a ≤ i) (hi : i < l.length) (hc : l[i] ≠ c) (hno : c ∉ (l.drop a).take (i - a)) : c ∉ (l.drop a).take (i + 1 - a) := by
  rw [show i + 1 - a = (i - a) + 1 by omega, List.take_succ_eq_append_getElem (by rw [List.length_drop]; omega)]
  intro hm
  rcases List.mem_append.1 hm with h1 | h1
  · exact hno h1
  · rw [List.mem_singleton, List.getElem_drop] at h1
    have e : a + (i - a) = i := by omega
    simp only [e] at h1
    exact hc h1.symm
theorem str_cut (l : List UInt8) (a b : Nat) : (str l).extract a b = str ((l.drop a).take (b - a)) := by
  unfold str
  rw [ByteArray.extract_mk]

/-! Numbers, digit by digit. -/
/-- The number of a text, as far as it is one. -/
noncomputable def numV (l : List UInt8) : Int := (num9 l).getD 0
noncomputable def numB (l : List UInt8) : Bool := (num9 l).isSome
/-- What stands wrong with digits. -/
def badN (t : List UInt8) : Bool := decide (t = [] ∨ 9 < t.length ∨ (1 < t.length ∧ t.head? = some 48))
theorem okN_iff (t : List UInt8) : okN t ↔ badN t = false := by
  unfold okN badN
  rw [decide_eq_false_iff_not]
  rcases t with _ | ⟨c, r⟩
  · simp
  · simp only [ne_eq, reduceCtorEq, not_false_eq_true, true_and, false_or, List.head?_cons, Option.some.injEq, List.length_cons, List.cons.injEq]
    constructor
    · rintro ⟨h1, h2⟩ (h3 | ⟨h3, h4⟩)
      · omega
      · have hr : r ≠ [] := by intro e; subst e; simp at h3
        exact h2 c r ⟨rfl, rfl⟩ hr h4
    · intro h
      refine ⟨by omega, ?_⟩
      rintro c' l' ⟨rfl, rfl⟩ hl hc
      exact h (.inr ⟨by cases r with | nil => exact absurd rfl hl | cons a b => simp, hc⟩)
theorem decFrom_take (t : List UInt8) (i : Nat) (hi : i < t.length) (n : Nat) (h : Lib.decFrom 0 (t.take i) = some n) (d : Nat) (hd : Lib.digitVal t[i] = some d) : Lib.decFrom 0 (t.take (i + 1)) = some (10 * n + d) := by
  rw [List.take_succ_eq_append_getElem hi, decFrom_append, h]
  simp only [Option.bind_some, Lib.decFrom, hd]
  congr 1
  omega
theorem decFrom_bad (t : List UInt8) (i : Nat) (hi : i < t.length) (hd : Lib.digitVal t[i] = none) : Lib.decFrom 0 t = none := by
  have e : t = t.take i ++ t[i] :: t.drop (i + 1) := by
    rw [← List.drop_eq_getElem_cons hi, List.take_append_drop]
  rw [e, decFrom_append]
  cases Lib.decFrom 0 (t.take i) with
  | none => rfl
  | some m => simp only [Option.bind_some, Lib.decFrom, hd]
theorem digitVal_in {c : UInt8} (h1 : 48 ≤ c.toNat) (h2 : c.toNat ≤ 57) : Lib.digitVal c = some (c.toNat - 48) := by
  have := digitVal_of (c.toNat - 48) (by omega)
  rw [show 48 + (c.toNat - 48) = c.toNat by omega, UInt8.ofNat_toNat] at this
  exact this
theorem digitVal_out {c : UInt8} (h : c.toNat < 48 ∨ 57 < c.toNat) : Lib.digitVal c = none := by
  cases hd : Lib.digitVal c with
  | none => rfl
  | some d =>
    obtain ⟨h1, h2⟩ := digitVal_some hd
    have : c.toNat = 48 + d := by rw [h2, UInt8.toNat_ofNat']; omega
    omega
theorem num9_bad {l t : List UInt8} (hl : l = t ∧ t.head? ≠ some 45 ∨ l = 45 :: t) (hb : badN t = true) : num9 l = none := by
  have hk : ¬ okN t := by rw [okN_iff, hb]; simp
  rcases hl with ⟨rfl, h⟩ | rfl
  · rcases l with _ | ⟨c, r⟩
    · rfl
    · rw [num9, if_neg (by intro e; rw [e] at h; exact h rfl), if_neg hk]
  · rw [num9, if_pos rfl, if_neg (fun h => hk h.1)]
theorem num9_zero : num9 [45, 48] = none := by rw [num9, if_pos rfl, if_neg (fun h => h.2 rfl)]
theorem num9_pos {t : List UInt8} (h : t.head? ≠ some 45) (hb : badN t = false) : num9 t = (Lib.decFrom 0 t).map fun (m : Nat) => (m : Int) := by
  have hk : okN t := (okN_iff t).2 hb
  rcases t with _ | ⟨c, r⟩
  · exact absurd rfl hk.1
  · rw [num9, if_neg (by intro e; rw [e] at h; exact h rfl), if_pos hk]
theorem num9_neg {t : List UInt8} (hb : badN t = false) (h0 : t ≠ [48]) : num9 (45 :: t) = (Lib.decFrom 0 t).map fun (m : Nat) => -(m : Int) := by
  rw [num9, if_pos rfl, if_pos ⟨(okN_iff t).2 hb, h0⟩]
theorem decFrom_lt : ∀ (t : List UInt8) (a m : Nat), Lib.decFrom a t = some m → m < (a + 1) * 10 ^ t.length
  | [], a, m, h => by injection h with h; simp; omega
  | c :: t, a, m, h => by
    rw [Lib.decFrom] at h
    cases hd : Lib.digitVal c with
    | none => rw [hd] at h; cases h
    | some d =>
      rw [hd] at h
      have h1 := decFrom_lt t _ m h
      have h2 := (digitVal_some hd).1
      rw [List.length_cons, Nat.pow_succ, Nat.mul_comm (10 ^ t.length) 10, ← Nat.mul_assoc]
      refine Nat.lt_of_lt_of_le h1 (Nat.mul_le_mul_right _ ?_)
      omega

/-! The document's Parse. -/
noncomputable def dval (s : List UInt8) : Int × Int × Int := match cutAt 45 s with
  | [a, b, c] => (numV a, numV b, numV c)
  | _ => (0, 0, 0)
noncomputable def dok (s : List UInt8) : Bool := match cutAt 45 s with
  | [a, b, c] => numB a && (numB b && numB c)
  | _ => false
theorem numB_some {l : List UInt8} (h : numB l = true) : num9 l = some (numV l) := by
  unfold numB at h
  unfold numV
  cases e : num9 l with
  | none => rw [e] at h; cases h
  | some v => rfl
theorem numB_none {l : List UInt8} (h : numB l = false) : num9 l = none := by
  unfold numB at h
  cases e : num9 l with
  | none => rfl
  | some v => rw [e] at h; cases h
theorem prD_is (s : List UInt8) : prD s = if dok s = true then some (dval s) else none := by
  unfold prD dok dval
  generalize cutAt 45 s = ps
  match ps with
  | [a, b, c] =>
    cases h1 : numB a
    · simp [numB_none h1, h1]
    · cases h2 : numB b
      · simp [numB_none h2, h2]
      · cases h3 : numB c
        · simp [numB_none h3, h3]
        · simp [numB_some h1, numB_some h2, numB_some h3, h1, h2, h3]
  | [] => rfl
  | [_] => rfl
  | [_, _] => rfl
  | _ :: _ :: _ :: _ :: _ => rfl
end Go.Proofs.YtjfmnflcgenpaaaGreatDoor

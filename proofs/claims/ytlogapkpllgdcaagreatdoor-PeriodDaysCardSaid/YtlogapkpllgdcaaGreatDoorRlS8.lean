/- RlM, RlN, RlR7, RlS7, RlSm, in one text. -/
import Derived.Test.YtlogapkpllgdcaaGreatDoorMa7
import Derived.Test.YtlogapkpllgdcaaGreatDoorRlO
import Derived.Test.YtlogapkpllgdcaaGreatDoorRlI7
import Derived.IntWalk
/- Which days a month's rules mean, plain. -/
namespace Go.Proofs.YtlogapkpllgdcaaGreatDoor

theorem place_of {n most : Int} (h0 : n ≠ 0) (h1 : -most ≤ n) (h2 : n ≤ most) : placeR n most = true := decide_eq_true ⟨h0, h1, h2⟩
theorem inW_of {n most : Int} (h1 : 0 ≤ n) (h2 : n ≤ most) : inW n most = true := decide_eq_true ⟨h1, h2⟩
theorem may_1 (mo n : Int) (h1 : 0 ≤ mo) (h2 : mo ≤ 12) (h3 : n ≠ 0) (h4 : -31 ≤ n) (h5 : n ≤ 31) : mayR ⟨1, mo, n, 0, 0, 0, 0, 0, 0, 0⟩ = true :=
  (mayR_iff _).2 ⟨rfl, Bool.and_eq_true_iff.2 ⟨inW_of h1 h2, place_of h3 h4 h5⟩⟩
theorem may_2 (mo n wk : Int) (h1 : 0 ≤ mo) (h2 : mo ≤ 12) (h3 : n ≠ 0) (h4 : -5 ≤ n) (h5 : n ≤ 5) (h6 : 0 ≤ wk) (h7 : wk ≤ 6) : mayR ⟨2, mo, n, wk, 0, 0, 0, 0, 0, 0⟩ = true :=
  (mayR_iff _).2 ⟨rfl, Bool.and_eq_true_iff.2 ⟨Bool.and_eq_true_iff.2 ⟨inW_of h1 h2, place_of h3 h4 h5⟩, inW_of h6 h7⟩⟩
theorem may_0 (wk : Int) (h6 : 0 ≤ wk) (h7 : wk ≤ 6) : mayR ⟨0, 0, 0, wk, 0, 0, 0, 0, 0, 0⟩ = true := (mayR_iff _).2 ⟨rfl, inW_of h6 h7⟩
theorem may_3 {fy fm fd ty tm td : Int} (h1 : okD fy fm fd = true) (h2 : okD ty tm td = true) (h3 : dnr fy fm fd ≤ dnr ty tm td) (h4 : 0 ≤ fy) (h5 : fy ≤ 9999) (h6 : 0 ≤ ty) (h7 : ty ≤ 9999) : mayR ⟨3, 0, 0, 0, fy, fm, fd, ty, tm, td⟩ = true := by
  refine (mayR_iff _).2 ⟨rfl, ?_⟩
  show (okD fy fm fd && okD ty tm td && decide (dnr fy fm fd ≤ dnr ty tm td) && inW fy 9999 && inW ty 9999) = true
  rw [h1, h2, decide_eq_true h3, inW_of h4 h5, inW_of h6 h7]
  rfl
theorem hits_1 (k i : Nat) (y : Int) (m n : Nat) (a : Int) (hn : mlen y m = n) (h1 : 1 ≤ k) (_hi : i < n) : hitsR ⟨1, 0, k, 0, 0, 0, 0, 0, 0, 0⟩ y m (i + 1) a = decide ((i : Int) = k - 1) := by
  show (decide ((0 : Int) = 0 ∨ (0 : Int) = m) && decide ((k : Int) = i + 1 ∨ (k : Int) = -(mlen y m - (i + 1) + 1))) = _
  rw [hn, decide_eq_true (show (0 : Int) = 0 ∨ (0 : Int) = m from .inl rfl), Bool.true_and, Bool.eq_iff_iff]
  simp only [decide_eq_true_eq]
  omega
theorem hits_1n (k i : Nat) (y : Int) (m n : Nat) (a : Int) (hn : mlen y m = n) (h1 : 1 ≤ k) (_hi : i < n) : hitsR ⟨1, m, -(k : Int), 0, 0, 0, 0, 0, 0, 0⟩ y m (i + 1) a = decide ((i : Int) = n - k) := by
  show (decide ((m : Int) = 0 ∨ (m : Int) = m) && decide (-(k : Int) = i + 1 ∨ -(k : Int) = -(mlen y m - (i + 1) + 1))) = _
  rw [hn, decide_eq_true (show (m : Int) = 0 ∨ (m : Int) = m from .inr rfl), Bool.true_and, Bool.eq_iff_iff]
  simp only [decide_eq_true_eq]
  omega
theorem hits_2 (k i c : Nat) (y : Int) (m n : Nat) (fi wk : Int) (hn : mlen y m = n) (h1 : 1 ≤ k) (hi : i < n) (hc : c < 7) (hw : wd (fi + c) = wk) :
    hitsR ⟨2, 0, k, wk, 0, 0, 0, 0, 0, 0⟩ y m (i + 1) (fi + i) = decide ((i : Int) = c + 7 * (k - 1)) := by
  show (decide (wd (fi + i) = wk) && (decide ((0 : Int) = 0 ∨ (0 : Int) = m) && decide ((k : Int) = ((i : Int) + 1 - 1) / 7 + 1 ∨ (k : Int) = -((mlen y m - (i + 1)) / 7 + 1)))) = _
  rw [hn, decide_eq_true (show (0 : Int) = 0 ∨ (0 : Int) = m from .inl rfl), Bool.true_and, Bool.eq_iff_iff]
  simp only [Bool.and_eq_true, decide_eq_true_eq]
  unfold wd at *
  omega
/-- Where the first day of a weekday lies. -/
theorem first_ex (fi wk : Int) (h1 : 0 ≤ wk) (h2 : wk ≤ 6) : ∃ c : Nat, c < 7 ∧ wd (fi + c) = wk := by
  refine ⟨((wk - wd fi) % 7).toNat, by omega, ?_⟩
  unfold wd
  omega
theorem hits_0 (i c : Nat) (y : Int) (m : Nat) (d fi wk : Int) (hi : i < 7) (hc : c < 7) (hw : wd (fi + c) = wk) :
    hitsR ⟨0, 0, 0, wk, 0, 0, 0, 0, 0, 0⟩ y m d (fi + i) = decide (i = c) := by
  show decide (wd (fi + i) = wk) = _
  rw [Bool.eq_iff_iff]
  simp only [decide_eq_true_eq]
  unfold wd at *
  omega
theorem is_day {y : Int} {m : Nat} {d D : Int} (hi : Is y m d) (hn : nr y m d = D) (i n : Nat) (hl : mlen y m = n) (h : i < n) : Is y m (i + 1) ∧ nr y m (i + 1) = D - d + 1 + i := by
  refine ⟨⟨hi.m1, hi.m12, by omega, by omega⟩, ?_⟩
  unfold nr at *
  omega
theorem year_in {y : Int} {m : Nat} {d D : Int} (hi : Is y m d) (hn : nr y m d = D) (h1 : 0 ≤ D) (h2 : D ≤ 2900100) : 0 ≤ y ∧ y ≤ 9999 := by
  have h := nr_in hi
  rw [hn] at h
  have e1 : bgn 0 = -719528 := by decide
  have e2 : bgn 10000 = 2932897 := by decide
  constructor
  · rcases Int.lt_or_le y 0 with h3 | h3
    · have := bgn_le (show y + 1 ≤ 0 by omega)
      omega
    · exact h3
  · rcases Int.lt_or_le 9999 y with h3 | h3
    · have := bgn_le (show 10000 ≤ y by omega)
      omega
    · exact h3
end Go.Proofs.YtlogapkpllgdcaaGreatDoor
/- The document's lists and texts (layer 6), plain. -/
namespace Go.Proofs.YtlogapkpllgdcaaGreatDoor

/-- Numbers from a on, s apart. -/
def apr (a s : Int) (k : Nat) : List Int := (List.range k).map fun (j : Nat) => a + s * (j : Int)
theorem apr_succ (a s : Int) (k : Nat) : apr a s (k + 1) = apr a s k ++ [a + s * k] := by
  unfold apr
  rw [List.range_succ, List.map_append]
  rfl
theorem apr_length (a s : Int) (k : Nat) : (apr a s k).length = k := by simp [apr]
theorem apr_get (a s : Int) (k j : Nat) (h : j < k) : (apr a s k)[j]? = some (a + s * j) := by simp [apr, h]
/-- How many of the first i days, from c on, lie seven apart. -/
def cn7 (c i : Nat) : Nat := (i + 6 - c) / 7
theorem cn7_hit {c i : Nat} (hc : c < 7) (h : i % 7 = c) : cn7 c (i + 1) = cn7 c i + 1 ∧ i = c + 7 * cn7 c i := by unfold cn7; omega
theorem cn7_miss {c i : Nat} (hc : c < 7) (h : i % 7 ≠ c) : cn7 c (i + 1) = cn7 c i := by unfold cn7; omega
/-- A list's place that is asked for. -/
def atR (N : Int) (k : Nat) : Int := if N < 0 then k + N else N - 1
/-- Whether the number there is the day. -/
def pick (a s : Int) (k : Nat) (N day : Int) : Bool := decide (0 ≤ atR N k ∧ atR N k < k ∧ a + s * atR N k = day)
theorem pick_1 (y : Int) (m n : Nat) (d mo N fi : Int) (hn : mlen y m = n) (hd : 1 ≤ d) (hl : d ≤ n) (hm : mo = 0 ∨ mo = m) (_h0 : N ≠ 0) :
    hitsR ⟨1, mo, N, 0, 0, 0, 0, 0, 0, 0⟩ y m d (fi + d - 1) = pick fi 1 n N (fi + d - 1) := by
  show (decide (mo = 0 ∨ mo = m) && decide (N = d ∨ N = -(mlen y m - d + 1))) = _
  rw [hn, decide_eq_true hm, Bool.true_and]
  unfold pick atR
  rw [Bool.eq_iff_iff]
  simp only [decide_eq_true_eq]
  split <;> omega
theorem pick_2 (y : Int) (m n c : Nat) (d mo N wk fi : Int) (hn : mlen y m = n) (hd : 1 ≤ d) (hl : d ≤ n) (hm : mo = 0 ∨ mo = m) (_h0 : N ≠ 0) (hc : c < 7) (hw : wd (fi + c) = wk) :
    hitsR ⟨2, mo, N, wk, 0, 0, 0, 0, 0, 0⟩ y m d (fi + d - 1) = pick (fi + c) 7 (cn7 c n) N (fi + d - 1) := by
  show (decide (wd (fi + d - 1) = wk) && (decide (mo = 0 ∨ mo = m) && decide (N = (d - 1) / 7 + 1 ∨ N = -((mlen y m - d) / 7 + 1)))) = _
  rw [hn, decide_eq_true hm, Bool.true_and]
  unfold pick atR cn7
  rw [Bool.eq_iff_iff]
  simp only [Bool.and_eq_true, decide_eq_true_eq]
  unfold wd at *
  split <;> omega
theorem wd_hit (c i : Nat) (fi wk : Int) (hc : c < 7) (hw : wd (fi + c) = wk) : (wd (fi + i) = wk) ↔ i % 7 = c := by
  unfold wd at *
  omega

/-! A list cut at a byte, place by place. -/
theorem piece_hit (c : UInt8) (l : List UInt8) (a i : Nat) (h : a ≤ i) (hi : i < l.length) (hc : l[i] = c) (hno : c ∉ (l.drop a).take (i - a)) :
    cutAt c (l.drop a) = ((l.drop a).take (i - a)) :: cutAt c (l.drop (i + 1)) := by
  have e : l.drop a = (l.drop a).take (i - a) ++ c :: l.drop (i + 1) := by
    conv => lhs; rw [← List.take_append_drop (i - a) (l.drop a)]
    rw [List.drop_drop, show a + (i - a) = i by omega, List.drop_eq_getElem_cons hi, hc]
  have h2 := cutAt_app c _ (l.drop (i + 1)) hno
  rw [← e] at h2
  exact h2
theorem piece_more (c : UInt8) (l : List UInt8) (a i : Nat) (h : a ≤ i) (hi : i < l.length) (hc : l[i] ≠ c) (hno : c ∉ (l.drop a).take (i - a)) : c ∉ (l.drop a).take (i + 1 - a) := by
  rw [show i + 1 - a = (i - a) + 1 by omega, List.take_succ_eq_append_getElem (by rw [List.length_drop]; omega)]
  intro hm
  rcases List.mem_append.1 hm with h1 | h1
  · exact hno h1
  · rw [List.mem_singleton, List.getElem_drop] at h1
    have e : a + (i - a) = i := by omega
    simp only [e] at h1
    exact hc h1.symm
theorem str_cut (l : List UInt8) (a b : Nat) : (str l).extract a b = str ((l.drop a).take (b - a)) := by
  unfold str
  rw [ByteArray.extract_mk]

/-! Numbers, digit by digit. -/
/-- The number of a text, as far as it is one. -/
noncomputable def numV (l : List UInt8) : Int := (num9 l).getD 0
noncomputable def numB (l : List UInt8) : Bool := (num9 l).isSome
/-- What stands wrong with digits. -/
def badN (t : List UInt8) : Bool := decide (t = [] ∨ 9 < t.length ∨ (1 < t.length ∧ t.head? = some 48))
theorem okN_iff (t : List UInt8) : okN t ↔ badN t = false := by
  unfold okN badN
  rw [decide_eq_false_iff_not]
  rcases t with _ | ⟨c, r⟩
  · simp
  · simp only [ne_eq, reduceCtorEq, not_false_eq_true, true_and, false_or, List.head?_cons, Option.some.injEq, List.length_cons, List.cons.injEq]
    constructor
    · rintro ⟨h1, h2⟩ (h3 | ⟨h3, h4⟩)
      · omega
      · have hr : r ≠ [] := by intro e; subst e; simp at h3
        exact h2 c r ⟨rfl, rfl⟩ hr h4
    · intro h
      refine ⟨by omega, ?_⟩
      rintro c' l' ⟨rfl, rfl⟩ hl hc
      exact h (.inr ⟨by cases r with | nil => exact absurd rfl hl | cons a b => simp, hc⟩)
theorem decFrom_take (t : List UInt8) (i : Nat) (hi : i < t.length) (n : Nat) (h : Lib.decFrom 0 (t.take i) = some n) (d : Nat) (hd : Lib.digitVal t[i] = some d) : Lib.decFrom 0 (t.take (i + 1)) = some (10 * n + d) := by
  rw [List.take_succ_eq_append_getElem hi, decFrom_append, h]
  simp only [Option.bind_some, Lib.decFrom, hd]
  congr 1
  omega
theorem decFrom_bad (t : List UInt8) (i : Nat) (hi : i < t.length) (hd : Lib.digitVal t[i] = none) : Lib.decFrom 0 t = none := by
  have e : t = t.take i ++ t[i] :: t.drop (i + 1) := by
    rw [← List.drop_eq_getElem_cons hi, List.take_append_drop]
  rw [e, decFrom_append]
  cases Lib.decFrom 0 (t.take i) with
  | none => rfl
  | some m => simp only [Option.bind_some, Lib.decFrom, hd]
theorem digitVal_in {c : UInt8} (h1 : 48 ≤ c.toNat) (h2 : c.toNat ≤ 57) : Lib.digitVal c = some (c.toNat - 48) := by
  have := digitVal_of (c.toNat - 48) (by omega)
  rw [show 48 + (c.toNat - 48) = c.toNat by omega, UInt8.ofNat_toNat] at this
  exact this
theorem digitVal_out {c : UInt8} (h : c.toNat < 48 ∨ 57 < c.toNat) : Lib.digitVal c = none := by
  cases hd : Lib.digitVal c with
  | none => rfl
  | some d =>
    obtain ⟨h1, h2⟩ := digitVal_some hd
    have : c.toNat = 48 + d := by rw [h2, UInt8.toNat_ofNat']; omega
    omega
theorem num9_bad {l t : List UInt8} (hl : l = t ∧ t.head? ≠ some 45 ∨ l = 45 :: t) (hb : badN t = true) : num9 l = none := by
  have hk : ¬ okN t := by rw [okN_iff, hb]; simp
  rcases hl with ⟨rfl, h⟩ | rfl
  · rcases l with _ | ⟨c, r⟩
    · rfl
    · rw [num9, if_neg (by intro e; rw [e] at h; exact h rfl), if_neg hk]
  · rw [num9, if_pos rfl, if_neg (fun h => hk h.1)]
theorem num9_zero : num9 [45, 48] = none := by rw [num9, if_pos rfl, if_neg (fun h => h.2 rfl)]
theorem num9_pos {t : List UInt8} (h : t.head? ≠ some 45) (hb : badN t = false) : num9 t = (Lib.decFrom 0 t).map fun (m : Nat) => (m : Int) := by
  have hk : okN t := (okN_iff t).2 hb
  rcases t with _ | ⟨c, r⟩
  · exact absurd rfl hk.1
  · rw [num9, if_neg (by intro e; rw [e] at h; exact h rfl), if_pos hk]
theorem num9_neg {t : List UInt8} (hb : badN t = false) (h0 : t ≠ [48]) : num9 (45 :: t) = (Lib.decFrom 0 t).map fun (m : Nat) => -(m : Int) := by
  rw [num9, if_pos rfl, if_pos ⟨(okN_iff t).2 hb, h0⟩]
theorem decFrom_lt : ∀ (t : List UInt8) (a m : Nat), Lib.decFrom a t = some m → m < (a + 1) * 10 ^ t.length
  | [], a, m, h => by injection h with h; simp; omega
  | c :: t, a, m, h => by
    rw [Lib.decFrom] at h
    cases hd : Lib.digitVal c with
    | none => rw [hd] at h; cases h
    | some d =>
      rw [hd] at h
      have h1 := decFrom_lt t _ m h
      have h2 := (digitVal_some hd).1
      rw [List.length_cons, Nat.pow_succ, Nat.mul_comm (10 ^ t.length) 10, ← Nat.mul_assoc]
      refine Nat.lt_of_lt_of_le h1 (Nat.mul_le_mul_right _ ?_)
      omega

/-! The document's Parse. -/
noncomputable def dval (s : List UInt8) : Int × Int × Int := match cutAt 45 s with
  | [a, b, c] => (numV a, numV b, numV c)
  | _ => (0, 0, 0)
noncomputable def dok (s : List UInt8) : Bool := match cutAt 45 s with
  | [a, b, c] => numB a && (numB b && numB c)
  | _ => false
theorem numB_some {l : List UInt8} (h : numB l = true) : num9 l = some (numV l) := by
  unfold numB at h
  unfold numV
  cases e : num9 l with
  | none => rw [e] at h; cases h
  | some v => rfl
theorem numB_none {l : List UInt8} (h : numB l = false) : num9 l = none := by
  unfold numB at h
  cases e : num9 l with
  | none => rfl
  | some v => rw [e] at h; cases h
theorem prD_is (s : List UInt8) : prD s = if dok s = true then some (dval s) else none := by
  unfold prD dok dval
  generalize cutAt 45 s = ps
  match ps with
  | [a, b, c] =>
    cases h1 : numB a
    · simp [numB_none h1, h1]
    · cases h2 : numB b
      · simp [numB_none h2, h2]
      · cases h3 : numB c
        · simp [numB_none h3, h3]
        · simp [numB_some h1, numB_some h2, numB_some h3, h1, h2, h3]
  | [] => rfl
  | [_] => rfl
  | [_, _] => rfl
  | _ :: _ :: _ :: _ :: _ => rfl
end Go.Proofs.YtlogapkpllgdcaaGreatDoor
/- Contract: the document's Match. -/
namespace Go.Proofs.YtlogapkpllgdcaaGreatDoor
open Go.RowKit

theorem elInt : Elem Tryz.prog 55 3 (.int .i64 0) 8 := ⟨Tryz.underlying55, by kernel_rfl, rfl⟩
theorem owns_below {w w' : World} {base s : Nat} {e : TypeId} {v : Value} {n : Nat} {xs : List Value} (h : w.ownsRow base e s v n xs) (hb : Below w.heap.size w w') : w'.ownsRow base e s v n xs := by
  rcases h with ⟨h1, h2 | ⟨g, cap, cur, rfl, h3, hh, r⟩⟩
  · exact ⟨h1, .inl h2⟩
  · exact ⟨h1, .inr ⟨g, cap, cur, rfl, h3, (hb.block g (Array.getElem?_eq_some_iff.1 hh).1).trans hh, r⟩⟩
theorem intL_append (a b : List Int) : intL (a ++ b) = intL a ++ intL b := by simp [intL]
theorem intL_one (l : List Int) : ∀ u ∈ intL l, u.oneCell' = true := by
  intro u hu
  obtain ⟨n, _, rfl⟩ := List.mem_map.1 hu
  rfl

set_option maxRecDepth 100000 in
set_option maxHeartbeats 1000000 in
theorem refMatch0 (wk : Int) (y : Int) (m : Nat) (d a : Int) (w : World) (hi : Is y m d) (hn : nr y m d = a) (ha1 : -70368744177664 ≤ a) (ha2 : a ≤ 70368744177664) :
    Calls Tryz.prog 47 #[rv ⟨0, 0, 0, wk, 0, 0, 0, 0, 0, 0⟩, .int .i64 a] w fun e w' => e = .returned (.bool (decide (wd a = wk))) ∧ Below w.heap.size w w' := by
  have hb0 := (Below.refl w.heap.size w).alloc (Nat.le_refl _) (.cells #[.int .i64 0, .int .i64 0, .int .i64 0, .int .i64 wk, .int .i64 0, .int .i64 0, .int .i64 0, .int .i64 0, .int .i64 0, .int .i64 0] 61)
  have G0 := Lib.hid (heap_alloc_new w (.cells #[.int .i64 0, .int .i64 0, .int .i64 0, .int .i64 wk, .int .i64 0, .int .i64 0, .int .i64 0, .int .i64 0, .int .i64 0, .int .i64 0] 61))
  have HB0 := Lib.hid hb0
  have HO := Lib.hid (fun W => refOf_any y m d a W hi hn ha1 ha2)
  have HWd := Lib.hid (fun W => refWeekday_any a W (by omega) (by omega))
  have HR : Hid ((wd a == wk) = decide (wd a = wk)) := rfl
  generalize decide (wd a = wk) = res at *
  generalize wd a = q at *
  unfold dt at HO
  unfold rv
  simp only
  clear hb0 hi hn
  go_enter Tryz.func47, Tryz.ntmps47
  go_wp2_with fail
  refine (HO.out _).mono ?_
  rintro e w1 ⟨rfl, hb1⟩
  have hb2 := HB0.out.trans (hb1.mono HB0.out.size)
  have hg1 := (hb1.block w.heap.size (by simp)).trans G0.out
  have hlt1 := (Array.getElem?_eq_some_iff.1 hg1).1
  have hb3 := hb2.alloc hb2.size (.cells #[.int .i64 y, .int .i64 m, .int .i64 d] 59)
  have hgr := (Below.heap_alloc w1 (.cells #[.int .i64 y, .int .i64 m, .int .i64 d] 59) w.heap.size hlt1).trans hg1
  have hgd := heap_alloc_new w1 (.cells #[.int .i64 y, .int .i64 m, .int .i64 d] 59)
  obtain ⟨w2, hw2⟩ : ∃ w2, w1.alloc (.cells #[.int .i64 y, .int .i64 m, .int .i64 d] 59) = w2 := ⟨_, rfl⟩
  have HBE := Lib.hid hb3
  have hgr2 := hgr
  have hgd2 := hgd
  rw [hw2] at hb3 hgr2 hgd2
  have HB2 := Lib.hid hb3
  have HW2 := Lib.hid hw2
  have GR := Lib.hid hgr2
  have GD := Lib.hid hgd2
  have K0 := cell_blk hgr 0 (v := .int .i64 0) rfl
  have K3 := cell_blk hgr 3 (v := .int .i64 wk) rfl
  have hlt2 := (Array.getElem?_eq_some_iff.1 hgr2).1
  have HSS := Lib.hid (show ∀ W, Below w2.heap.size w2 W → W.cell? ⟨w.heap.size, 3, none⟩ = some (.int .i64 wk) from fun W hb => cell_blk ((hb.block _ hlt2).trans GR.out) 3 rfl)
  have hbd := below_dr w2
  clear hb1 hb2 hg1 hlt1 hb3 hgr hgd hgr2 hgd2 hw2 hlt2
  go_wp2_with fail
  rw [HW2.out]
  go_region_held3 (fun W => W.cell? ⟨w.heap.size, 3, none⟩ = some (.int .i64 wk)) (exact HSS.out _ (by assumption))
    (first
      | (go_at_call 78
         refine (HWd.out _).mono ?_
         rintro e w3 ⟨rfl, hb3⟩
         have hb3' : Below w2.heap.size w2 w3 := hbd.trans (hb3.mono hbd.size)
         clear hb3))
  all_goals
    go_wp2_with fail
    go_ret
    exact ⟨ret_bool HR.out, HB2.out.trans (hb3'.mono HB2.out.size)⟩

set_option maxRecDepth 100000 in
set_option maxHeartbeats 1000000 in
theorem refMatch3 (fy fm fd ty tm td : Int) (y : Int) (m : Nat) (d a : Int) (w : World) (hi : Is y m d) (hn : nr y m d = a) (ha1 : -70368744177664 ≤ a) (ha2 : a ≤ 70368744177664) (h1 : okD fy fm fd = true) (h2 : okD ty tm td = true) :
    Calls Tryz.prog 47 #[rv ⟨3, 0, 0, 0, fy, fm, fd, ty, tm, td⟩, .int .i64 a] w fun e w' => e = .returned (.bool (decide (dnr fy fm fd ≤ a ∧ a ≤ dnr ty tm td))) ∧ Below w.heap.size w w' := by
  have hb0 := (Below.refl w.heap.size w).alloc (Nat.le_refl _) (.cells #[.int .i64 3, .int .i64 0, .int .i64 0, .int .i64 0, .int .i64 fy, .int .i64 fm, .int .i64 fd, .int .i64 ty, .int .i64 tm, .int .i64 td] 61)
  have G0 := Lib.hid (heap_alloc_new w (.cells #[.int .i64 3, .int .i64 0, .int .i64 0, .int .i64 0, .int .i64 fy, .int .i64 fm, .int .i64 fd, .int .i64 ty, .int .i64 tm, .int .i64 td] 61))
  have HB0 := Lib.hid hb0
  have HO := Lib.hid (fun W => refOf_any y m d a W hi hn ha1 ha2)
  have HF := Lib.hid (fun W => refDnr_any fy fm fd W h1)
  have HT := Lib.hid (fun W => refDnr_any ty tm td W h2)
  unfold dt at HF HT
  clear h1 h2
  generalize dnr fy fm fd = p at *
  generalize dnr ty tm td = q at *
  have hq : (¬ p ≤ a) ∨ (p ≤ a ∧ ¬ a ≤ q) ∨ (p ≤ a ∧ a ≤ q) := by omega
  obtain ⟨res, hres⟩ : ∃ r, decide (p ≤ a ∧ a ≤ q) = r := ⟨_, rfl⟩
  rw [hres]
  have HR : Hid (res = decide (p ≤ a ∧ a ≤ q)) := hres.symm
  clear hres
  unfold dt at HO
  unfold rv
  simp only
  clear hb0 hi hn
  go_enter Tryz.func47, Tryz.ntmps47
  go_wp2_with fail
  refine (HO.out _).mono ?_
  rintro e w1 ⟨rfl, hb1⟩
  have hb2 := HB0.out.trans (hb1.mono HB0.out.size)
  have hg1 := (hb1.block w.heap.size (by simp)).trans G0.out
  have hlt1 := (Array.getElem?_eq_some_iff.1 hg1).1
  have hb3 := hb2.alloc hb2.size (.cells #[.int .i64 y, .int .i64 m, .int .i64 d] 59)
  have hgr := (Below.heap_alloc w1 (.cells #[.int .i64 y, .int .i64 m, .int .i64 d] 59) w.heap.size hlt1).trans hg1
  have hgd := heap_alloc_new w1 (.cells #[.int .i64 y, .int .i64 m, .int .i64 d] 59)
  obtain ⟨w2, hw2⟩ : ∃ w2, w1.alloc (.cells #[.int .i64 y, .int .i64 m, .int .i64 d] 59) = w2 := ⟨_, rfl⟩
  have HBE := Lib.hid hb3
  have hgr2 := hgr
  have hgd2 := hgd
  rw [hw2] at hb3 hgr2 hgd2
  have HB2 := Lib.hid hb3
  have HW2 := Lib.hid hw2
  have GR := Lib.hid hgr2
  have GD := Lib.hid hgd2
  have K0 := cell_blk hgr 0 (v := .int .i64 3) rfl
  have K4 := cell_blk hgr 4 (v := .int .i64 fy) rfl
  have K5 := cell_blk hgr 5 (v := .int .i64 fm) rfl
  have K6 := cell_blk hgr 6 (v := .int .i64 fd) rfl
  have hlt2 := (Array.getElem?_eq_some_iff.1 hgr2).1
  have HSS := Lib.hid (show ∀ W, Below w2.heap.size w2 W → W.cell? ⟨w.heap.size, 7, none⟩ = some (.int .i64 ty) ∧ W.cell? ⟨w.heap.size, 8, none⟩ = some (.int .i64 tm) ∧ W.cell? ⟨w.heap.size, 9, none⟩ = some (.int .i64 td) from fun W hb => ⟨cell_blk ((hb.block _ hlt2).trans GR.out) 7 rfl, cell_blk ((hb.block _ hlt2).trans GR.out) 8 rfl, cell_blk ((hb.block _ hlt2).trans GR.out) 9 rfl⟩)
  clear hb1 hb2 hg1 hlt1 hb3 hgr hgd hgr2 hgd2 hw2 hlt2
  go_wp2_with fail
  rw [HW2.out]
  refine (HF.out _).mono ?_
  rintro e w3 ⟨rfl, hb3⟩
  have HB3 := Lib.hid hb3
  obtain ⟨K7, K8, K9⟩ := HSS.out w3 hb3
  clear hb3 K0 K4 K5 K6
  rcases hq with hq | ⟨hq, hq'⟩ | ⟨hq, hq'⟩
  · go_wp2_with fail
    go_ret
    exact ⟨ret_bool (by rw [HR.out]; exact (decide_eq_false (by omega)).symm), HB2.out.trans (HB3.out.mono HB2.out.size)⟩
  all_goals
    go_wp2_with fail
    refine (HT.out _).mono ?_
    rintro e w4 ⟨rfl, hb4⟩
    have HB4 := Lib.hid (HB3.out.trans (hb4.mono HB3.out.size))
    clear hb4
    go_wp2_with fail
    go_ret
    exact ⟨ret_bool (by
      rw [HR.out]
      first
      | exact (decide_eq_true (by omega)).symm
      | exact (decide_eq_false (by omega)).symm
      | (rw [Bool.eq_iff_iff]
         simp only [decide_eq_true_eq]
         omega)), HB2.out.trans (HB4.out.mono HB2.out.size)⟩

set_option maxRecDepth 100000 in
set_option maxHeartbeats 1000000 in
theorem refMatch1n (mo N : Int) (y : Int) (m : Nat) (d a : Int) (w : World) (hi : Is y m d) (hn : nr y m d = a) (ha1 : -70368744177664 ≤ a) (ha2 : a ≤ 70368744177664) (hm : ¬ (mo = 0 ∨ mo = m)) :
    Calls Tryz.prog 47 #[rv ⟨1, mo, N, 0, 0, 0, 0, 0, 0, 0⟩, .int .i64 a] w fun e w' => e = .returned (.bool false) ∧ Below w.heap.size w w' := by
  have hb0 := (Below.refl w.heap.size w).alloc (Nat.le_refl _) (.cells #[.int .i64 1, .int .i64 mo, .int .i64 N, .int .i64 0, .int .i64 0, .int .i64 0, .int .i64 0, .int .i64 0, .int .i64 0, .int .i64 0] 61)
  have G0 := Lib.hid (heap_alloc_new w (.cells #[.int .i64 1, .int .i64 mo, .int .i64 N, .int .i64 0, .int .i64 0, .int .i64 0, .int .i64 0, .int .i64 0, .int .i64 0, .int .i64 0] 61))
  have HB0 := Lib.hid hb0
  have HO := Lib.hid (fun W => refOf_any y m d a W hi hn ha1 ha2)
  have c1 : (mo != 0) = true := by simp; omega
  have c2 : (mo != m) = true := by simp; omega
  clear hm
  unfold dt at HO
  unfold rv
  simp only
  clear hb0 hi hn
  go_enter Tryz.func47, Tryz.ntmps47
  go_wp2_with fail
  refine (HO.out _).mono ?_
  rintro e w1 ⟨rfl, hb1⟩
  have hb2 := HB0.out.trans (hb1.mono HB0.out.size)
  have hg1 := (hb1.block w.heap.size (by simp)).trans G0.out
  have hlt1 := (Array.getElem?_eq_some_iff.1 hg1).1
  have hb3 := hb2.alloc hb2.size (.cells #[.int .i64 y, .int .i64 m, .int .i64 d] 59)
  have hgr := (Below.heap_alloc w1 (.cells #[.int .i64 y, .int .i64 m, .int .i64 d] 59) w.heap.size hlt1).trans hg1
  have hgd := heap_alloc_new w1 (.cells #[.int .i64 y, .int .i64 m, .int .i64 d] 59)
  obtain ⟨w2, hw2⟩ : ∃ w2, w1.alloc (.cells #[.int .i64 y, .int .i64 m, .int .i64 d] 59) = w2 := ⟨_, rfl⟩
  have HBE := Lib.hid hb3
  have hgr2 := hgr
  have hgd2 := hgd
  rw [hw2] at hb3 hgr2 hgd2
  have HB2 := Lib.hid hb3
  have HW2 := Lib.hid hw2
  have GR := Lib.hid hgr2
  have GD := Lib.hid hgd2
  have K0 := cell_blk hgr 0 (v := .int .i64 1) rfl
  have K1 := cell_blk hgr 1 (v := .int .i64 mo) rfl
  have X1 := cell_blk hgd 1 (v := .int .i64 m) rfl
  clear hb1 hb2 hg1 hlt1 hb3 hgr hgd hgr2 hgd2 hw2 HW2 GR GD HB2
  go_wp2_with fail
  go_ret
  exact ⟨rfl, HBE.out⟩

set_option maxRecDepth 100000 in
set_option maxHeartbeats 4000000 in
theorem refMatch1y (mo N : Int) (y : Int) (m : Nat) (d a : Int) (n : Nat) (w : World) (hi : Is y m d) (hn : nr y m d = a) (ha1 : -70368744177664 ≤ a) (ha2 : a ≤ 70368744177664) (hm : mo = 0 ∨ mo = m) (hl : mlen y m = n) (hN1 : -31 ≤ N) (hN2 : N ≤ 31) :
    Calls Tryz.prog 47 #[rv ⟨1, mo, N, 0, 0, 0, 0, 0, 0, 0⟩, .int .i64 a] w fun e w' => e = .returned (.bool (pick (a - d + 1) 1 n N a)) ∧ Below w.heap.size w w' := by
  have hb0 := (Below.refl w.heap.size w).alloc (Nat.le_refl _) (.cells #[.int .i64 1, .int .i64 mo, .int .i64 N, .int .i64 0, .int .i64 0, .int .i64 0, .int .i64 0, .int .i64 0, .int .i64 0, .int .i64 0] 61)
  have G0 := Lib.hid (heap_alloc_new w (.cells #[.int .i64 1, .int .i64 mo, .int .i64 N, .int .i64 0, .int .i64 0, .int .i64 0, .int .i64 0, .int .i64 0, .int .i64 0, .int .i64 0] 61))
  have HB0 := Lib.hid hb0
  have HO := Lib.hid (fun W => refOf_any y m d a W hi hn ha1 ha2)
  have hd1 := hi.d1
  have hd2 := hi.dl
  have hm1 := hi.m1
  have hm2 := hi.m12
  have hml := mlen_le (y := y) hm1 hm2
  have HL := Lib.hid (fun W => refLength_any y m W hm1 hm2)
  rw [hl] at hd2 hml HL
  have hn31 : n ≤ 31 := by omega
  have hd31 : d ≤ 31 := by omega
  obtain ⟨res, hres⟩ : ∃ r, pick (a - d + 1) 1 n N a = r := ⟨_, rfl⟩
  rw [hres]
  have HR : Hid (decide (0 ≤ atR N n ∧ atR N n < (n : Nat) ∧ (a - d + 1) + 1 * atR N n = a) = res) := hres
  have c1 : (mo != 0) = false ∨ ((mo != 0) = true ∧ (mo != m) = false) := by
    rcases hm with h | h
    · left; simp [h]
    · right; simp; omega

  clear hm hl hml hres hm2 hd2
  unfold dt at HO
  unfold rv
  simp only
  clear hb0 hi hn
  go_enter Tryz.func47, Tryz.ntmps47
  go_wp2_with fail
  refine (HO.out _).mono ?_
  rintro e w1 ⟨rfl, hb1⟩
  have hb2 := HB0.out.trans (hb1.mono HB0.out.size)
  have hg1 := (hb1.block w.heap.size (by simp)).trans G0.out
  have hlt1 := (Array.getElem?_eq_some_iff.1 hg1).1
  have hb3 := hb2.alloc hb2.size (.cells #[.int .i64 y, .int .i64 m, .int .i64 d] 59)
  have hgr := (Below.heap_alloc w1 (.cells #[.int .i64 y, .int .i64 m, .int .i64 d] 59) w.heap.size hlt1).trans hg1
  have hgd := heap_alloc_new w1 (.cells #[.int .i64 y, .int .i64 m, .int .i64 d] 59)
  obtain ⟨w2, hw2⟩ : ∃ w2, w1.alloc (.cells #[.int .i64 y, .int .i64 m, .int .i64 d] 59) = w2 := ⟨_, rfl⟩
  have HBE := Lib.hid hb3
  have hgr2 := hgr
  have hgd2 := hgd
  rw [hw2] at hb3 hgr2 hgd2
  have HB2 := Lib.hid hb3
  have HW2 := Lib.hid hw2
  have GR := Lib.hid hgr2
  have GD := Lib.hid hgd2
  have hlr := (Array.getElem?_eq_some_iff.1 hgr2).1
  have hld := (Array.getElem?_eq_some_iff.1 hgd2).1
  have HSR := Lib.hid (show ∀ W, Below w2.heap.size w2 W → W.heap[w.heap.size]? = some (.cells #[.int .i64 1, .int .i64 mo, .int .i64 N, .int .i64 0, .int .i64 0, .int .i64 0, .int .i64 0, .int .i64 0, .int .i64 0, .int .i64 0] 61 (0, 0)) from fun W hb => (hb.block _ hlr).trans GR.out)
  have HSD := Lib.hid (show ∀ W, Below w2.heap.size w2 W → W.heap[w1.heap.size]? = some (.cells #[.int .i64 y, .int .i64 m, .int .i64 d] 59 (0, 0)) from fun W hb => (hb.block _ hld).trans GD.out)
  have K0 := cell_blk hgr 0 (v := .int .i64 1) rfl
  have K1 := cell_blk hgr 1 (v := .int .i64 mo) rfl
  have X1 := cell_blk hgd 1 (v := .int .i64 m) rfl
  have X2 := cell_blk hgd 2 (v := .int .i64 d) rfl
  have HD := Lib.hid (And.intro hd1 hm1)
  clear hb1 hb2 hg1 hlt1 hb3 hgr hgd hgr2 hgd2 hw2 hlr hld GR GD HB0 G0 HO hm1
  rcases c1 with c1 | ⟨c1, c2⟩
  case' inl => go_wp2_with fail
  case' inr => go_wp2_with fail
  all_goals
    rw [HW2.out]
    clear K0 K1 X1 X2 HW2 c1
    go_loopw [7, 8] (fun l v wr => ∃ i : Nat, v = .int .i64 i ∧ i ≤ n ∧ Below w2.heap.size w2 wr ∧ wr.ownsRow w2.heap.size 3 1 l i (intL (apr (a - d + 1) 1 i))) (fun _ v _ => n - (intOf v).toNat)
    case atStart =>

      exact ⟨0, rfl, Nat.zero_le _, Below.refl _ _, World.ownsRow_nil _ _ _ _⟩

    case round =>
      obtain ⟨i, rfl, hi, hb, hown⟩ := hrel
      have HBi := Lib.hid hb
      have HOi := Lib.hid hown
      have X0 := cell_blk (HSD.out _ hb) 0 (v := .int .i64 y) rfl
      have X1 := cell_blk (HSD.out _ hb) 1 (v := .int .i64 m) rfl
      clear hb
      by_cases hin : i < n
      · clear hown
        go_wp2_with fail
        refine (HL.out _).mono ?_
        rintro e w4 ⟨rfl, hb4⟩
        have hb5 := HBi.out.trans (hb4.mono HBi.out.size)
        have hown4 := owns_below HOi.out hb4
        have HB4 := Lib.hid hb5
        have HO4 := Lib.hid hown4
        have K0 := cell_blk (HSR.out _ hb5) 0 (v := .int .i64 1) rfl

        clear hb4 hown4 X0 X1
        go_wp2_with fail
        go_quiet (fail)
        obtain ⟨w6, hw6⟩ : ∃ w6, w4.drewN nq = w6 := ⟨_, rfl⟩
        rw [hw6]
        have hb6 := below_drewN w4 nq
        rw [hw6] at hb6
        have HO6 := Lib.hid (owns_below HO4.out hb6)
        have HB6 := Lib.hid (HB4.out.trans (hb6.mono HB4.out.size))
        have hz6 := HB6.out.size
        clear hw6 hb6
        go_wp2_with (first
            | (at_builtin
               refine wpList_app rfl (.tmp 71) (.tmp 75) _ rfl elInt w2.heap.size _ i (intL (apr (a - d + 1) 1 i)) rfl (HO6.out.alloc _) _ 1 1 (intL [a - d + 1 + i]) rfl rfl ?rd (intL_one _) (by unfold maxLen; omega) (by omega) (by simp; omega) ?_
               case rd => exact Rd.block (cs := #[.int .i64 (a - d + 1 + i)]) (heap_alloc_new _ _)
               intro v5 w5 hown5 hg5 hat5
               have HO5 := Lib.hid hown5
               have HB5 := Lib.hid ((HB6.out.alloc HB6.out.size (.cells #[.int .i64 (a - d + 1 + i)] 3)).grown hg5 (by simp; omega) (fun j hj => owns_block HO6.out j hj))
               clear hown5 hg5 hat5))
        go_roundw
        case rel =>
          refine ⟨i + 1, by go_num, hin, HB5.out, ?_⟩
          have := HO5.out
          rw [apr_succ, intL_append, show (1 : Int) * i = i by omega]
          exact this
        case measure => simp [intOf]; omega

      · obtain rfl : i = n := by omega
        obtain ⟨A, cp, rfl, hcp1, hcp2, hcp3, hrd, hlo⟩ := owns_form hown
        have HRd := Lib.hid hrd
        clear hown hcp3 hrd hlo hcp2
        go_wp2_with fail
        refine (HL.out _).mono ?_
        rintro e w4 ⟨rfl, hb4⟩
        have hb5 := HBi.out.trans (hb4.mono HBi.out.size)
        have HB4 := Lib.hid hb5
        have HR4 := Lib.hid (HRd.out.below hb4)
        have K2 := cell_blk (HSR.out _ hb5) 2 (v := .int .i64 N) rfl
        clear hb4 hb5 X0 X1
        have HK := Lib.hid (show ∀ k : Nat, i = k → k ≤ 31 → 0 = 0 from fun _ _ _ => rfl)
        obtain ⟨k, hk⟩ : ∃ k, i = k := ⟨_, rfl⟩
        have hk31 : k ≤ 31 := by omega
        rw [hk] at HR HR4 hcp1 ⊢
        have hlen := apr_length (a - d + 1) 1 k
        have hget := apr_get (a - d + 1) 1 k
        clear hk HK
        generalize apr (a - d + 1) 1 k = L at *
        unfold atR at HR
        by_cases hneg : N < 0
        · rw [if_pos hneg] at HR
          rcases (show (k : Int) + N < 0 ∨ 0 ≤ (k : Int) + N by omega) with h | h
          · have d1 : decide (0 ≤ (k : Int) + N) = false := decide_eq_false (by omega)
            go_wp2_with fail
            go_ret
            exact ⟨ret_bool (by rw [← HR.out]; exact (decide_eq_false (by omega)).symm), HB2.out.trans (HB4.out.mono HB2.out.size)⟩
          · obtain ⟨j, hj⟩ : ∃ j : Nat, (k : Int) + N = j := ⟨((k : Int) + N).toNat, by omega⟩
            have hjk : j < k := by omega
            obtain ⟨ad, rfl, hcell⟩ := HR4.out (by rw [intL_length, hlen]; omega)
            have hc0 := hcell j (.int .i64 ((a - d + 1) + 1 * (j : Int))) (by unfold intL; rw [List.getElem?_map, hget j hjk]; rfl)
            rw [hj] at HR
            have HH := Lib.hid (And.intro hjk h)
            clear hcell h
            go_wp2_with fail
            go_ret
            refine ⟨ret_bool ?_, HB2.out.trans (HB4.out.mono HB2.out.size)⟩
            rw [← HR.out, Bool.eq_iff_iff]
            simp
            have := HH.out.1
            omega
        · rw [if_neg hneg] at HR
          rcases (show N - 1 < 0 ∨ (0 ≤ N - 1 ∧ (k : Int) ≤ N - 1) ∨ (0 ≤ N - 1 ∧ N - 1 < (k : Int)) by omega) with h | ⟨h, h'⟩ | ⟨h, h'⟩
          · have d1 : decide (0 ≤ N - 1) = false := decide_eq_false (by omega)
            go_wp2_with fail
            go_ret
            exact ⟨ret_bool (by rw [← HR.out]; exact (decide_eq_false (by omega)).symm), HB2.out.trans (HB4.out.mono HB2.out.size)⟩
          · have d1 : decide (0 ≤ N - 1) = true := decide_eq_true (by omega)
            have d2 : decide (N - 1 < (k : Int)) = false := decide_eq_false (by omega)
            go_wp2_with fail
            go_ret
            exact ⟨ret_bool (by rw [← HR.out]; exact (decide_eq_false (by omega)).symm), HB2.out.trans (HB4.out.mono HB2.out.size)⟩
          · obtain ⟨j, hj⟩ : ∃ j : Nat, N - 1 = j := ⟨(N - 1).toNat, by omega⟩
            have hjk : j < k := by omega
            obtain ⟨ad, rfl, hcell⟩ := HR4.out (by rw [intL_length, hlen]; omega)
            have hc0 := hcell j (.int .i64 ((a - d + 1) + 1 * (j : Int))) (by unfold intL; rw [List.getElem?_map, hget j hjk]; rfl)
            rw [hj] at HR
            have HH := Lib.hid (And.intro hjk h)
            clear hcell h h'
            go_wp2_with fail
            go_ret
            refine ⟨ret_bool ?_, HB2.out.trans (HB4.out.mono HB2.out.size)⟩
            rw [← HR.out, Bool.eq_iff_iff]
            simp
            have := HH.out.1
            omega

end Go.Proofs.YtlogapkpllgdcaaGreatDoor
/- Contract: the document's Match of Nth. -/
namespace Go.Proofs.YtlogapkpllgdcaaGreatDoor
open Go.RowKit


set_option maxRecDepth 100000 in
set_option maxHeartbeats 1000000 in
theorem refMatch2n (mo N wk : Int) (y : Int) (m : Nat) (d a : Int) (w : World) (hi : Is y m d) (hn : nr y m d = a) (ha1 : -70368744177664 ≤ a) (ha2 : a ≤ 70368744177664) (hm : ¬ (mo = 0 ∨ mo = m)) :
    Calls Tryz.prog 47 #[rv ⟨2, mo, N, wk, 0, 0, 0, 0, 0, 0⟩, .int .i64 a] w fun e w' => e = .returned (.bool false) ∧ Below w.heap.size w w' := by
  have hb0 := (Below.refl w.heap.size w).alloc (Nat.le_refl _) (.cells #[.int .i64 2, .int .i64 mo, .int .i64 N, .int .i64 wk, .int .i64 0, .int .i64 0, .int .i64 0, .int .i64 0, .int .i64 0, .int .i64 0] 61)
  have G0 := Lib.hid (heap_alloc_new w (.cells #[.int .i64 2, .int .i64 mo, .int .i64 N, .int .i64 wk, .int .i64 0, .int .i64 0, .int .i64 0, .int .i64 0, .int .i64 0, .int .i64 0] 61))
  have HB0 := Lib.hid hb0
  have HO := Lib.hid (fun W => refOf_any y m d a W hi hn ha1 ha2)
  have c1 : (mo != 0) = true := by simp; omega
  have c2 : (mo != m) = true := by simp; omega
  clear hm
  unfold dt at HO
  unfold rv
  simp only
  clear hb0 hi hn
  go_enter Tryz.func47, Tryz.ntmps47
  go_wp2_with fail
  refine (HO.out _).mono ?_
  rintro e w1 ⟨rfl, hb1⟩
  have hb2 := HB0.out.trans (hb1.mono HB0.out.size)
  have hg1 := (hb1.block w.heap.size (by simp)).trans G0.out
  have hlt1 := (Array.getElem?_eq_some_iff.1 hg1).1
  have hb3 := hb2.alloc hb2.size (.cells #[.int .i64 y, .int .i64 m, .int .i64 d] 59)
  have hgr := (Below.heap_alloc w1 (.cells #[.int .i64 y, .int .i64 m, .int .i64 d] 59) w.heap.size hlt1).trans hg1
  have hgd := heap_alloc_new w1 (.cells #[.int .i64 y, .int .i64 m, .int .i64 d] 59)
  obtain ⟨w2, hw2⟩ : ∃ w2, w1.alloc (.cells #[.int .i64 y, .int .i64 m, .int .i64 d] 59) = w2 := ⟨_, rfl⟩
  have HBE := Lib.hid hb3
  have hgr2 := hgr
  have hgd2 := hgd
  rw [hw2] at hb3 hgr2 hgd2
  have HB2 := Lib.hid hb3
  have HW2 := Lib.hid hw2
  have GR := Lib.hid hgr2
  have GD := Lib.hid hgd2
  have K0 := cell_blk hgr 0 (v := .int .i64 2) rfl
  have K1 := cell_blk hgr 1 (v := .int .i64 mo) rfl
  have X1 := cell_blk hgd 1 (v := .int .i64 m) rfl
  clear hb1 hb2 hg1 hlt1 hb3 hgr hgd hgr2 hgd2 hw2 HW2 GR GD HB2
  go_wp2_with fail
  go_ret
  exact ⟨rfl, HBE.out⟩

set_option maxRecDepth 100000 in
set_option maxHeartbeats 4000000 in
theorem refMatch2y (mo N wk : Int) (y : Int) (m : Nat) (d a : Int) (n : Nat) (w : World) (hi : Is y m d) (hn : nr y m d = a) (ha1 : -70368744177664 ≤ a) (ha2 : a ≤ 70368744177664) (hm : mo = 0 ∨ mo = m) (hl : mlen y m = n) (hN1 : -31 ≤ N) (hN2 : N ≤ 31) (c : Nat) (hcc : c < 7) (hw : wd (a - d + 1 + c) = wk) :
    Calls Tryz.prog 47 #[rv ⟨2, mo, N, wk, 0, 0, 0, 0, 0, 0⟩, .int .i64 a] w fun e w' => e = .returned (.bool (pick (a - d + 1 + c) 7 (cn7 c n) N a)) ∧ Below w.heap.size w w' := by
  have hb0 := (Below.refl w.heap.size w).alloc (Nat.le_refl _) (.cells #[.int .i64 2, .int .i64 mo, .int .i64 N, .int .i64 wk, .int .i64 0, .int .i64 0, .int .i64 0, .int .i64 0, .int .i64 0, .int .i64 0] 61)
  have G0 := Lib.hid (heap_alloc_new w (.cells #[.int .i64 2, .int .i64 mo, .int .i64 N, .int .i64 wk, .int .i64 0, .int .i64 0, .int .i64 0, .int .i64 0, .int .i64 0, .int .i64 0] 61))
  have HB0 := Lib.hid hb0
  have HO := Lib.hid (fun W => refOf_any y m d a W hi hn ha1 ha2)
  have hd1 := hi.d1
  have hd2 := hi.dl
  have hm1 := hi.m1
  have hm2 := hi.m12
  have hml := mlen_le (y := y) hm1 hm2
  have HL := Lib.hid (fun W => refLength_any y m W hm1 hm2)
  rw [hl] at hd2 hml HL
  have hn31 : n ≤ 31 := by omega
  have hd31 : d ≤ 31 := by omega
  obtain ⟨res, hres⟩ : ∃ r, pick (a - d + 1 + c) 7 (cn7 c n) N a = r := ⟨_, rfl⟩
  rw [hres]
  have HR : Hid (decide (0 ≤ atR N (cn7 c n) ∧ atR N (cn7 c n) < ((cn7 c n) : Nat) ∧ (a - d + 1 + c) + 7 * atR N (cn7 c n) = a) = res) := hres
  have c1 : (mo != 0) = false ∨ ((mo != 0) = true ∧ (mo != m) = false) := by
    rcases hm with h | h
    · left; simp [h]
    · right; simp; omega

  have HCW := Lib.hid (And.intro hcc hw)
  have HWd := Lib.hid (fun (i : Int) W (h1 : 0 ≤ i) (h2 : i ≤ 31) => refWeekday_any (a - d + 1 + i) W (by omega) (by omega))
  have hcn : cn7 c n ≤ 31 := by unfold cn7; omega
  clear hcc hw

  clear hm hl hml hres hm2 hd2
  unfold dt at HO
  unfold rv
  simp only
  clear hb0 hi hn
  go_enter Tryz.func47, Tryz.ntmps47
  go_wp2_with fail
  refine (HO.out _).mono ?_
  rintro e w1 ⟨rfl, hb1⟩
  have hb2 := HB0.out.trans (hb1.mono HB0.out.size)
  have hg1 := (hb1.block w.heap.size (by simp)).trans G0.out
  have hlt1 := (Array.getElem?_eq_some_iff.1 hg1).1
  have hb3 := hb2.alloc hb2.size (.cells #[.int .i64 y, .int .i64 m, .int .i64 d] 59)
  have hgr := (Below.heap_alloc w1 (.cells #[.int .i64 y, .int .i64 m, .int .i64 d] 59) w.heap.size hlt1).trans hg1
  have hgd := heap_alloc_new w1 (.cells #[.int .i64 y, .int .i64 m, .int .i64 d] 59)
  obtain ⟨w2, hw2⟩ : ∃ w2, w1.alloc (.cells #[.int .i64 y, .int .i64 m, .int .i64 d] 59) = w2 := ⟨_, rfl⟩
  have HBE := Lib.hid hb3
  have hgr2 := hgr
  have hgd2 := hgd
  rw [hw2] at hb3 hgr2 hgd2
  have HB2 := Lib.hid hb3
  have HW2 := Lib.hid hw2
  have GR := Lib.hid hgr2
  have GD := Lib.hid hgd2
  have hlr := (Array.getElem?_eq_some_iff.1 hgr2).1
  have hld := (Array.getElem?_eq_some_iff.1 hgd2).1
  have HSR := Lib.hid (show ∀ W, Below w2.heap.size w2 W → W.heap[w.heap.size]? = some (.cells #[.int .i64 2, .int .i64 mo, .int .i64 N, .int .i64 wk, .int .i64 0, .int .i64 0, .int .i64 0, .int .i64 0, .int .i64 0, .int .i64 0] 61 (0, 0)) from fun W hb => (hb.block _ hlr).trans GR.out)
  have HSD := Lib.hid (show ∀ W, Below w2.heap.size w2 W → W.heap[w1.heap.size]? = some (.cells #[.int .i64 y, .int .i64 m, .int .i64 d] 59 (0, 0)) from fun W hb => (hb.block _ hld).trans GD.out)
  have K0 := cell_blk hgr 0 (v := .int .i64 2) rfl
  have K1 := cell_blk hgr 1 (v := .int .i64 mo) rfl
  have X1 := cell_blk hgd 1 (v := .int .i64 m) rfl
  have X2 := cell_blk hgd 2 (v := .int .i64 d) rfl
  have HD := Lib.hid (And.intro hd1 hm1)
  clear hb1 hb2 hg1 hlt1 hb3 hgr hgd hgr2 hgd2 hw2 hlr hld GR GD HB0 G0 HO hm1
  rcases c1 with c1 | ⟨c1, c2⟩
  case' inl => go_wp2_with fail
  case' inr => go_wp2_with fail
  all_goals
    rw [HW2.out]
    clear K0 K1 X1 X2 HW2 c1
    go_loopw [7, 8] (fun l v wr => ∃ i : Nat, v = .int .i64 i ∧ i ≤ n ∧ Below w2.heap.size w2 wr ∧ wr.ownsRow w2.heap.size 3 1 l (cn7 c i) (intL (apr (a - d + 1 + c) 7 (cn7 c i)))) (fun _ v _ => n - (intOf v).toNat)
    case atStart =>

      have e0 : cn7 c 0 = 0 := by have := HCW.out.1; unfold cn7; omega
      exact ⟨0, rfl, Nat.zero_le _, Below.refl _ _, by rw [e0]; exact World.ownsRow_nil _ _ _ _⟩

    case round =>
      obtain ⟨i, rfl, hi, hb, hown⟩ := hrel
      have HBi := Lib.hid hb
      have HOi := Lib.hid hown
      have X0 := cell_blk (HSD.out _ hb) 0 (v := .int .i64 y) rfl
      have X1 := cell_blk (HSD.out _ hb) 1 (v := .int .i64 m) rfl
      clear hb
      by_cases hin : i < n
      · clear hown
        go_wp2_with fail
        refine (HL.out _).mono ?_
        rintro e w4 ⟨rfl, hb4⟩
        have hb5 := HBi.out.trans (hb4.mono HBi.out.size)
        have hown4 := owns_below HOi.out hb4
        have HB4 := Lib.hid hb5
        have HO4 := Lib.hid hown4
        have K0 := cell_blk (HSR.out _ hb5) 0 (v := .int .i64 2) rfl

        have hlt4 := (Array.getElem?_eq_some_iff.1 (HSR.out _ hb5)).1
        have HKK := Lib.hid (show ∀ W, Below w4.heap.size w4 W → W.cell? ⟨w.heap.size, 0, none⟩ = some (.int .i64 2) ∧ W.cell? ⟨w.heap.size, 3, none⟩ = some (.int .i64 wk) from fun W hW => ⟨cell_blk ((hW.block _ hlt4).trans (HSR.out _ hb5)) 0 rfl, cell_blk ((hW.block _ hlt4).trans (HSR.out _ hb5)) 3 rfl⟩)
        have HWi := Lib.hid (fun W => HWd.out i W (by omega) (by omega))
        have hbd := below_dr w4
        have HHit := Lib.hid (wd_hit c i (a - d + 1) wk HCW.out.1 HCW.out.2)
        have HC7 := Lib.hid HCW.out.1
        have hcb : cn7 c i ≤ 31 := by unfold cn7; omega
        generalize wd (a - d + 1 + i) = q at *
        clear hb4 hb5 hown4 X0 X1 hlt4
        by_cases hh : i % 7 = c
        case' pos =>
          have hq : (q == wk) = true := by have := HHit.out.2 hh; simpa using this
          obtain ⟨hs1, hs2⟩ := cn7_hit HC7.out hh
          have HS := Lib.hid (And.intro hs1 hs2)
          have hwr : IntKind.i64.wrap (a - d + 1 + (i : Int)) = a - d + 1 + i := IntWalk.i64_in _ (by omega)
          clear hh hs1 hs2 HHit
          go_wp2_with fail
          go_region_held3 (fun W => W.cell? ⟨w.heap.size, 0, none⟩ = some (.int .i64 2) ∧ W.cell? ⟨w.heap.size, 3, none⟩ = some (.int .i64 wk)) (exact HKK.out _ (by assumption))
            (first
              | (go_at_call 78
                 refine (HWi.out _).mono ?_
                 rintro e w6 ⟨rfl, hb6⟩
                 have hb6' : Below w4.heap.size w4 w6 := hbd.trans (hb6.mono hbd.size)
                 clear hb6))
          have HB6 := Lib.hid (HB4.out.trans (hb6'.mono HB4.out.size))
          have HO6 := Lib.hid (owns_below HO4.out hb6')
          have hz6 := HB6.out.size
          clear hb6' hbd hq hwr
          go_wp2_with (first
            | (at_builtin
               refine wpList_app rfl (.tmp 71) (.tmp 75) _ rfl elInt w2.heap.size _ (cn7 c i) (intL (apr (a - d + 1 + c) 7 (cn7 c i))) rfl (HO6.out.alloc _) _ 1 1 (intL [a - d + 1 + i]) rfl rfl ?rd (intL_one _) (by unfold maxLen; omega) (by omega) (by simp; omega) ?_
               case rd => exact Rd.block (cs := #[.int .i64 (a - d + 1 + i)]) (heap_alloc_new _ _)
               intro v5 w5 hown5 hg5 hat5
               have HO5 := Lib.hid hown5
               have HB5 := Lib.hid ((HB6.out.alloc HB6.out.size (.cells #[.int .i64 (a - d + 1 + i)] 3)).grown hg5 (by simp; omega) (fun j hj => owns_block HO6.out j hj))
               clear hown5 hg5 hat5))
          go_roundw
          case rel =>
            refine ⟨i + 1, by go_num, hin, HB5.out, ?_⟩
            have := HO5.out
            rw [HS.out.1, apr_succ, intL_append, show a - d + 1 + (c : Int) + 7 * (cn7 c i : Nat) = a - d + 1 + i by have := HS.out.2; omega]
            exact this
          case measure => simp [intOf]; omega
        case' neg =>
          have hq : (q == wk) = false := by rw [beq_eq_false_iff_ne]; exact fun e => hh (HHit.out.1 e)
          have HS := Lib.hid (cn7_miss HC7.out hh)
          have hwr : IntKind.i64.wrap (a - d + 1 + (i : Int)) = a - d + 1 + i := IntWalk.i64_in _ (by omega)
          clear hh HHit
          go_wp2_with fail
          go_region_held3 (fun W => W.cell? ⟨w.heap.size, 0, none⟩ = some (.int .i64 2) ∧ W.cell? ⟨w.heap.size, 3, none⟩ = some (.int .i64 wk)) (exact HKK.out _ (by assumption))
            (first
              | (go_at_call 78
                 refine (HWi.out _).mono ?_
                 rintro e w6 ⟨rfl, hb6⟩
                 have hb6' : Below w4.heap.size w4 w6 := hbd.trans (hb6.mono hbd.size)
                 clear hb6))
          have HB6 := Lib.hid (HB4.out.trans (hb6'.mono HB4.out.size))
          have HO6 := Lib.hid (owns_below HO4.out hb6')
          clear hb6' hbd hq hwr
          go_wp2_with fail
          go_roundw
          case rel => exact ⟨i + 1, by go_num, hin, HB6.out, by rw [HS.out]; exact HO6.out⟩
          case measure => simp [intOf]; omega

      · obtain rfl : i = n := by omega
        obtain ⟨A, cp, rfl, hcp1, hcp2, hcp3, hrd, hlo⟩ := owns_form hown
        have HRd := Lib.hid hrd
        clear hown hcp3 hrd hlo hcp2
        go_wp2_with fail
        refine (HL.out _).mono ?_
        rintro e w4 ⟨rfl, hb4⟩
        have hb5 := HBi.out.trans (hb4.mono HBi.out.size)
        have HB4 := Lib.hid hb5
        have HR4 := Lib.hid (HRd.out.below hb4)
        have K2 := cell_blk (HSR.out _ hb5) 2 (v := .int .i64 N) rfl
        clear hb4 hb5 X0 X1
        have HK := Lib.hid (show ∀ k : Nat, (cn7 c i) = k → k ≤ 31 → 0 = 0 from fun _ _ _ => rfl)
        obtain ⟨k, hk⟩ : ∃ k, (cn7 c i) = k := ⟨_, rfl⟩
        have hk31 : k ≤ 31 := by omega
        rw [hk] at HR HR4 hcp1 ⊢
        have hlen := apr_length (a - d + 1 + c) 7 k
        have hget := apr_get (a - d + 1 + c) 7 k
        clear hk HK
        generalize apr (a - d + 1 + c) 7 k = L at *
        unfold atR at HR
        by_cases hneg : N < 0
        · rw [if_pos hneg] at HR
          rcases (show (k : Int) + N < 0 ∨ 0 ≤ (k : Int) + N by omega) with h | h
          · have d1 : decide (0 ≤ (k : Int) + N) = false := decide_eq_false (by omega)
            go_wp2_with fail
            go_ret
            exact ⟨ret_bool (by rw [← HR.out]; exact (decide_eq_false (by omega)).symm), HB2.out.trans (HB4.out.mono HB2.out.size)⟩
          · obtain ⟨j, hj⟩ : ∃ j : Nat, (k : Int) + N = j := ⟨((k : Int) + N).toNat, by omega⟩
            have hjk : j < k := by omega
            obtain ⟨ad, rfl, hcell⟩ := HR4.out (by rw [intL_length, hlen]; omega)
            have hc0 := hcell j (.int .i64 ((a - d + 1 + c) + 7 * (j : Int))) (by unfold intL; rw [List.getElem?_map, hget j hjk]; rfl)
            rw [hj] at HR
            have HH := Lib.hid (And.intro hjk h)
            clear hcell h
            go_wp2_with fail
            go_ret
            refine ⟨ret_bool ?_, HB2.out.trans (HB4.out.mono HB2.out.size)⟩
            rw [← HR.out, Bool.eq_iff_iff]
            simp
            have := HH.out.1
            omega
        · rw [if_neg hneg] at HR
          rcases (show N - 1 < 0 ∨ (0 ≤ N - 1 ∧ (k : Int) ≤ N - 1) ∨ (0 ≤ N - 1 ∧ N - 1 < (k : Int)) by omega) with h | ⟨h, h'⟩ | ⟨h, h'⟩
          · have d1 : decide (0 ≤ N - 1) = false := decide_eq_false (by omega)
            go_wp2_with fail
            go_ret
            exact ⟨ret_bool (by rw [← HR.out]; exact (decide_eq_false (by omega)).symm), HB2.out.trans (HB4.out.mono HB2.out.size)⟩
          · have d1 : decide (0 ≤ N - 1) = true := decide_eq_true (by omega)
            have d2 : decide (N - 1 < (k : Int)) = false := decide_eq_false (by omega)
            go_wp2_with fail
            go_ret
            exact ⟨ret_bool (by rw [← HR.out]; exact (decide_eq_false (by omega)).symm), HB2.out.trans (HB4.out.mono HB2.out.size)⟩
          · obtain ⟨j, hj⟩ : ∃ j : Nat, N - 1 = j := ⟨(N - 1).toNat, by omega⟩
            have hjk : j < k := by omega
            obtain ⟨ad, rfl, hcell⟩ := HR4.out (by rw [intL_length, hlen]; omega)
            have hc0 := hcell j (.int .i64 ((a - d + 1 + c) + 7 * (j : Int))) (by unfold intL; rw [List.getElem?_map, hget j hjk]; rfl)
            rw [hj] at HR
            have HH := Lib.hid (And.intro hjk h)
            clear hcell h h'
            go_wp2_with fail
            go_ret
            refine ⟨ret_bool ?_, HB2.out.trans (HB4.out.mono HB2.out.size)⟩
            rw [← HR.out, Bool.eq_iff_iff]
            simp
            have := HH.out.1
            omega

end Go.Proofs.YtlogapkpllgdcaaGreatDoor
/- The document's Match, of any rule that may be. -/
namespace Go.Proofs.YtlogapkpllgdcaaGreatDoor
open Go.RowKit

/-- The document's Match, of a rule that may be. -/
theorem refMatch_any (r : Rl) (y : Int) (m : Nat) (d a : Int) (w : World) (hi : Is y m d) (hn : nr y m d = a) (ha1 : -70368744177664 ≤ a) (ha2 : a ≤ 70368744177664) (h : mayR r = true) :
    Calls Tryz.prog 47 #[rv r, .int .i64 a] w fun e w' => e = .returned (.bool (hitsR r y m d a)) ∧ Below w.heap.size w w' := by
  have hl := mlen_le (y := y) hi.m1 hi.m12
  obtain ⟨n, hln⟩ : ∃ n : Nat, mlen y m = n := ⟨(mlen y m).toNat, by omega⟩
  have hd1 := hi.d1
  have hd2 := hi.dl
  rw [hln] at hd2
  have ea : a - d + 1 + d - 1 = a := by omega
  rcases may_cases h with ⟨wk, rfl, h1, h2⟩ | ⟨mo, n', rfl, h1, h2, h3, h4, h5⟩ | ⟨mo, n', wk, rfl, h1, h2, h3, h4, h5, h6, h7⟩ | ⟨fy, fm, fd, ty, tm, td, rfl, h1, h2, h3, h4, h5, h6, h7⟩
  · exact refMatch0 wk y m d a w hi hn ha1 ha2
  · by_cases hm : mo = 0 ∨ mo = m
    · have e := pick_1 y m n d mo n' (a - d + 1) hln hd1 hd2 hm h3
      rw [ea] at e
      rw [e]
      exact refMatch1y mo n' y m d a n w hi hn ha1 ha2 hm hln h4 h5
    · have e : hitsR ⟨1, mo, n', 0, 0, 0, 0, 0, 0, 0⟩ y m d a = false := by
        show (decide (mo = 0 ∨ mo = m) && decide (n' = d ∨ n' = -(mlen y m - d + 1))) = false
        rw [decide_eq_false hm, Bool.false_and]
      rw [e]
      exact refMatch1n mo n' y m d a w hi hn ha1 ha2 hm
  · by_cases hm : mo = 0 ∨ mo = m
    · obtain ⟨c, hc, hw⟩ := first_ex (a - d + 1) wk h6 h7
      have e := pick_2 y m n c d mo n' wk (a - d + 1) hln hd1 hd2 hm h3 hc hw
      rw [ea] at e
      rw [e]
      exact refMatch2y mo n' wk y m d a n w hi hn ha1 ha2 hm hln (by omega) (by omega) c hc hw
    · have e : hitsR ⟨2, mo, n', wk, 0, 0, 0, 0, 0, 0⟩ y m d a = false := by
        show (decide (wd a = wk) && (decide (mo = 0 ∨ mo = m) && decide (n' = (d - 1) / 7 + 1 ∨ n' = -((mlen y m - d) / 7 + 1)))) = false
        rw [decide_eq_false hm, Bool.false_and, Bool.and_false]
      rw [e]
      exact refMatch2n mo n' wk y m d a w hi hn ha1 ha2 hm
  · exact refMatch3 fy fm fd ty tm td y m d a w hi hn ha1 ha2 h1 h2
end Go.Proofs.YtlogapkpllgdcaaGreatDoor

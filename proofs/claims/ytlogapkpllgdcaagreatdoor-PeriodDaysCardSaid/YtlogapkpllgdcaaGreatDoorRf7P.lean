/- The document's borders, plain: seconds between which nothing changes; the first time and a day's spans by them. -/
import Derived.Test.YtlogapkpllgdcaaGreatDoorPdNx
import Derived.Test.YtlogapkpllgdcaaGreatDoorPdDay
namespace Go.Proofs.YtlogapkpllgdcaaGreatDoor

/-- A second at which something may change, or 0. -/
def atB (x : Spn) (s : Nat) : Bool := x.f == (s : Int) || x.t == (s : Int)
def bordB (l : List Prd) (s : Nat) : Bool := s == 0 || l.any fun p => p.es.any fun e => e.sp.any fun x => atB x s
structure Brd (l : List Prd) (L : List Nat) : Prop where
  pos : 0 < L.length
  len : L.length ≤ 86400
  zero : L.getD 0 0 = 0
  lt : ∀ k, k < L.length → L.getD k 0 < 86400
  asc : ∀ k, k + 1 < L.length → L.getD k 0 < L.getD (k + 1) 0
  gap : ∀ k, k < L.length → ∀ q, L.getD k 0 < q → q < 86400 → (k + 1 < L.length → q < L.getD (k + 1) 0) → bordB l q = false
theorem Brd.mono {l : List Prd} {L : List Nat} (h : Brd l L) {j : Nat} : ∀ k, j < k → k < L.length → L.getD j 0 < L.getD k 0 := by
  intro k
  induction k with
  | zero => intro h1; exact (Nat.not_lt_zero _ h1).elim
  | succ k ih =>
    intro h1 h2
    have h3 := h.asc k h2
    rcases Nat.lt_or_ge j k with h4 | h4
    · exact Nat.lt_trans (ih h4 (by omega)) h3
    · rw [show j = k by omega]; exact h3
/-- The last border that is not behind s. -/
theorem Brd.flo {l : List Prd} {L : List Nat} (h : Brd l L) (s : Nat) : ∃ k, k < L.length ∧ L.getD k 0 ≤ s ∧ (k + 1 < L.length → s < L.getD (k + 1) 0) := by
  have key : ∀ m, m < L.length → ∃ k, k < L.length ∧ L.getD k 0 ≤ s ∧ (k + 1 ≤ m → s < L.getD (k + 1) 0) := by
    intro m
    induction m with
    | zero => intro _; exact ⟨0, h.pos, by rw [h.zero]; omega, fun h1 => by omega⟩
    | succ m ih =>
      intro hm
      by_cases hs : L.getD (m + 1) 0 ≤ s
      · exact ⟨m + 1, hm, hs, fun h1 => by omega⟩
      · obtain ⟨k, h1, h2, h3⟩ := ih (by omega)
        refine ⟨k, h1, h2, fun h4 => ?_⟩
        rcases Nat.lt_or_ge m (k + 1) with h5 | h5
        · rw [show k + 1 = m + 1 by omega]; omega
        · exact h3 h5
  have hp := h.pos
  obtain ⟨k, h1, h2, h3⟩ := key (L.length - 1) (by omega)
  exact ⟨k, h1, h2, fun h4 => h3 (by omega)⟩
theorem bord_sp {l : List Prd} {s : Nat} (h : bordB l s = false) {p : Prd} (hp : p ∈ l) {e : Ent} (he : e ∈ p.es) {x : Spn} (hx : x ∈ e.sp) : x.f ≠ (s : Int) ∧ x.t ≠ (s : Int) := by
  have : atB x s = false := by
    cases ha : atB x s
    · rfl
    · have h1 : (l.any fun p => p.es.any fun e => e.sp.any fun x => atB x s) = true := List.any_eq_true.2 ⟨p, hp, List.any_eq_true.2 ⟨e, he, List.any_eq_true.2 ⟨x, hx, ha⟩⟩⟩
      unfold bordB at h
      rw [h1, Bool.or_true] at h
      cases h
  simp only [atB, Bool.or_eq_false_iff, beq_eq_false_iff_ne] at this
  exact this
/-- Where no border lies between, the same holds. -/
theorem sec_same {l : List Prd} {b s : Nat} (day : Int) (i : Nat) (hbs : b ≤ s) (hg : ∀ q, b < q → q ≤ s → bordB l q = false) : secF l day i b = secF l day i s := by
  unfold secF
  refine inn_congr (fun p hp e he => ?_) i
  unfold hitE
  congr 1
  refine any_congr fun x hx => ?_
  unfold inS
  have h1 : decide (x.f ≤ (b : Int)) = decide (x.f ≤ (s : Int)) := by
    by_cases h : x.f ≤ (b : Int)
    · rw [decide_eq_true h, decide_eq_true (by omega)]
    · rw [decide_eq_false h]
      by_cases h' : x.f ≤ (s : Int)
      · have := (bord_sp (hg x.f.toNat (by omega) (by omega)) hp he hx).1
        omega
      · rw [decide_eq_false h']
  have h2 : decide ((b : Int) < x.t) = decide ((s : Int) < x.t) := by
    by_cases h : (s : Int) < x.t
    · rw [decide_eq_true h, decide_eq_true (by omega)]
    · rw [decide_eq_false h]
      by_cases h' : (b : Int) < x.t
      · have := (bord_sp (hg x.t.toNat (by omega) (by omega)) hp he hx).2
        omega
      · rw [decide_eq_false h']
  rw [h1, h2]
theorem Brd.same {l : List Prd} {L : List Nat} (h : Brd l L) (day : Int) (i : Nat) {k s : Nat} (hk : k < L.length) (h1 : L.getD k 0 ≤ s) (hs : s < 86400) (h2 : k + 1 < L.length → s < L.getD (k + 1) 0) : secF l day i s = secF l day i (L.getD k 0) :=
  (sec_same day i h1 fun q a b => h.gap k hk q a (by omega) fun hx => by have := h2 hx; omega).symm
/-- A border that Next leaves out. -/
def Rej (l : List Prd) (L : List Nat) (i : Nat) (d : Int) (s : Nat) (z : Int) (m q : Nat) : Prop :=
  86400 * (m : Int) + (L.getD q 0 : Nat) - s ≤ 0 ∨ z < 86400 * (m : Int) + (L.getD q 0 : Nat) - s ∨ secF l (d + m) i (L.getD q 0) = false
/-- A time ahead of which all borders were left out. -/
theorem rej_no {l : List Prd} {L : List Nat} {i s : Nat} {o t d z : Int} (h : Brd l L) (hd : (t + o) / 86400 = d) (hs : (t + o) % 86400 = s) (h0 : secF l d i s = false) {u : Int} (hu : t ≤ u) (hz : u ≤ t + z)
    (hr : ∀ m q : Nat, q < L.length → 86400 * (m : Int) + (L.getD q 0 : Nat) - s ≤ u - t → Rej l L i d s z m q) : inT l i o u = false := by
  obtain ⟨m, hm⟩ : ∃ m : Nat, (u + o) / 86400 = d + m := ⟨((u + o) / 86400 - d).toNat, by omega⟩
  obtain ⟨v, hv⟩ : ∃ v : Nat, (u + o) % 86400 = v := ⟨((u + o) % 86400).toNat, by omega⟩
  have he : inT l i o u = secF l (d + m) i v := by
    unfold inT secF
    rw [hm, hv]
    rfl
  rw [he]
  obtain ⟨k, k1, k2, k3⟩ := h.flo v
  rw [h.same (d + m) i k1 k2 (by omega) k3]
  have hby : 86400 * (m : Int) + (L.getD k 0 : Nat) - s ≤ u - t := by omega
  rcases hr m k k1 hby with h1 | h1 | h1
  · have hk8 := h.lt k k1
    have hm0 : m = 0 := by omega
    subst hm0
    rw [← h.same (d + (0 : Nat)) i (s := s) k1 (by omega) (by omega) (fun h5 => by have := k3 h5; omega)]
    rw [show d + ((0 : Nat) : Int) = d by omega]
    exact h0
  · omega
  · exact h1
theorem ref_none {l : List Prd} {L : List Nat} {i s : Nat} {o t d b : Int} (h : Brd l L) (hd : (t + o) / 86400 = d) (hs : (t + o) % 86400 = s) (h0 : secF l d i s = false) (hb : b ≤ 34560000)
    (hr : ∀ m q : Nat, m ≤ 401 → q < L.length → Rej l L i d s (lim t b) m q) : NextAns (inT l i o) t (t + lim t b) false 0 := by
  refine .inr ⟨rfl, rfl, fun u h1 h2 => rej_no h hd hs h0 h1 h2 fun m q hq hby => ?_⟩
  have hl : lim t b ≤ b := by unfold lim; split <;> omega
  exact hr m q (by omega) hq
theorem ref_hit {l : List Prd} {L : List Nat} {i s : Nat} {o t d b : Int} {n k : Nat} (h : Brd l L) (hd : (t + o) / 86400 = d) (hs : (t + o) % 86400 = s) (h0 : secF l d i s = false) (hk : k < L.length)
    (hr1 : ∀ m q : Nat, m < n → q < L.length → Rej l L i d s (lim t b) m q) (hr2 : ∀ q, q < k → Rej l L i d s (lim t b) n q) (h1 : 0 < 86400 * (n : Int) + (L.getD k 0 : Nat) - s) (h2 : 86400 * (n : Int) + (L.getD k 0 : Nat) - s ≤ lim t b)
    (h3 : secF l (d + n) i (L.getD k 0) = true) : NextAns (inT l i o) t (t + lim t b) true (t + (86400 * (n : Int) + (L.getD k 0 : Nat) - s)) := by
  have hk8 := h.lt k hk
  refine .inl ⟨rfl, by omega, by omega, ?_, fun u u1 u2 => rej_no (z := lim t b) h hd hs h0 u1 (by omega) fun m q hq hby => ?_⟩
  · have e1 : (t + (86400 * (n : Int) + (L.getD k 0 : Nat) - s) + o) / 86400 = d + n := by omega
    have e2 : (t + (86400 * (n : Int) + (L.getD k 0 : Nat) - s) + o) % 86400 = (L.getD k 0 : Nat) := by omega
    unfold inT
    rw [e1, e2]
    exact h3
  · have hq8 := h.lt q hq
    rcases Nat.lt_trichotomy m n with h5 | h5 | h5
    · exact hr1 m q h5 hq
    · subst h5
      rcases Nat.lt_or_ge q k with h6 | h6
      · exact hr2 q h6
      · rcases Nat.lt_or_ge k q with h7 | h7
        · have := h.mono q h7 hq
          omega
        · rw [show q = k by omega] at hby
          omega
    · omega
theorem ref_here {l : List Prd} {i s : Nat} {o t d b : Int} (hd : (t + o) / 86400 = d) (hs : (t + o) % 86400 = s) (h0 : secF l d i s = true) (hb : 0 ≤ lim t b) : NextAns (inT l i o) t (t + lim t b) true t := by
  refine .inl ⟨rfl, Int.le_refl _, by omega, ?_, fun u u1 u2 => by omega⟩
  unfold inT
  rw [hd, hs]
  exact h0
/-- Where the k-th stretch ends. -/
def stp (L : List Nat) (k : Nat) : Nat := if k < L.length then L.getD k 0 else 86400
/-- The spans up to the second q. -/
structure UpD (f : Nat → Bool) (o : List Spn) (q : Nat) : Prop where
  can : Can (-1) o
  last : lastT (-1) o ≤ q
  mem : ∀ j, j < q → f j = o.any fun s => inS s j
theorem Brd.step {l : List Prd} {L : List Nat} (h : Brd l L) (day : Int) (i : Nat) {k : Nat} (hk : k < L.length) : stp L k < stp L (k + 1) ∧ stp L (k + 1) ≤ 86400 ∧ ∀ j, stp L k ≤ j → j < stp L (k + 1) → secF l day i j = secF l day i (stp L k) := by
  unfold stp
  rw [if_pos hk]
  have h8 := h.lt k hk
  by_cases h1 : k + 1 < L.length
  · rw [if_pos h1]
    have h9 := h.lt (k + 1) h1
    exact ⟨h.asc k h1, by omega, fun j a b => h.same day i hk a (by omega) fun _ => b⟩
  · rw [if_neg h1]
    exact ⟨h8, Nat.le_refl _, fun j a b => h.same day i hk a b fun h2 => absurd h2 h1⟩
theorem UpD.no {f : Nat → Bool} {o : List Spn} {q r : Nat} (h : UpD f o q) (hr : q < r) (hf : ∀ j, q ≤ j → j < r → f j = f q) (hq : f q = false) : UpD f o r := by
  refine ⟨h.can, by have := h.last; omega, fun j hj => ?_⟩
  rcases Nat.lt_or_ge j q with h1 | h1
  · exact h.mem j h1
  · rw [hf j h1 hj, hq, h.can.none_hi (j := j) (by have := h.last; omega)]
theorem UpD.one {f : Nat → Bool} {o : List Spn} {q r : Nat} (h : UpD f o q) (hr : q < r) (h8 : r ≤ 86400) (hf : ∀ j, q ≤ j → j < r → f j = f q) (hq : f q = true) (hl : lastT (-1) o < q) : UpD f (o ++ [⟨q, r⟩]) r := by
  refine ⟨h.can.snoc hl (by show (q : Int) < r; omega) (by show (r : Int) ≤ 86400; omega), by rw [lastT_snoc]; exact Int.le_refl _, fun j hj => ?_⟩
  rw [any_snoc]
  rcases Nat.lt_or_ge j q with h1 | h1
  · rw [← h.mem j h1]
    have : inS ⟨q, r⟩ j = false := by
      simp only [inS, Bool.and_eq_false_iff, decide_eq_false_iff_not]
      omega
    rw [this, Bool.or_false]
  · rw [h.can.none_hi (j := j) (by omega), Bool.false_or, hf j h1 hj, hq, eq_comm]
    simp only [inS, Bool.and_eq_true, decide_eq_true_eq]
    omega
theorem Can.snoc_inv {lo : Int} {o : List Spn} {s : Spn} (h : Can lo (o ++ [s])) : Can lo o ∧ lastT lo o < s.f ∧ s.f < s.t := by
  induction o generalizing lo with
  | nil => exact ⟨trivial, h.1, h.2.1⟩
  | cons a o ih =>
    obtain ⟨h1, h2, h3, h4⟩ := h
    obtain ⟨i1, i2, i3⟩ := ih h4
    exact ⟨⟨h1, h2, h3, i1⟩, i2, i3⟩
theorem UpD.more {f : Nat → Bool} {o : List Spn} {a : Int} {q r : Nat} (h : UpD f (o ++ [⟨a, q⟩]) q) (hr : q < r) (h8 : r ≤ 86400) (hf : ∀ j, q ≤ j → j < r → f j = f q) (hq : f q = true) : UpD f (o ++ [⟨a, r⟩]) r := by
  obtain ⟨h1, h2, h3⟩ := h.can.snoc_inv
  simp only at h2 h3
  refine ⟨h1.snoc h2 (by show a < (r : Int); omega) (by show (r : Int) ≤ 86400; omega), by rw [lastT_snoc]; exact Int.le_refl _, fun j hj => ?_⟩
  rw [any_snoc]
  rcases Nat.lt_or_ge j q with h4 | h4
  · rw [h.mem j h4, any_snoc]
    congr 1
    simp only [inS]
    rw [decide_eq_true (p := (j : Int) < (q : Int)) (by omega), decide_eq_true (p := (j : Int) < (r : Int)) (by omega)]
  · rw [h1.none_hi (j := j) (by omega), Bool.false_or, hf j h4 hj, hq, eq_comm]
    simp only [inS, Bool.and_eq_true, decide_eq_true_eq]
    omega
theorem UpD.start {f : Nat → Bool} : UpD f [] 0 := ⟨trivial, by show (-1 : Int) ≤ 0; omega, fun j hj => by omega⟩
/-- The document's spans of a day. -/
theorem UpD.end_ {f : Nat → Bool} {o : List Spn} (h : UpD f o 86400) : Can (-1) o ∧ ∀ j, j < 86400 → f j = o.any fun s => inS s j := ⟨h.can, h.mem⟩
/-- The borders, by going over all seconds. -/
structure BrdUp (l : List Prd) (L : List Nat) (s : Nat) : Prop where
  len : L.length ≤ s
  zero : 0 < s → 0 < L.length ∧ L.getD 0 0 = 0
  lt : ∀ k, k < L.length → L.getD k 0 < s
  asc : ∀ k, k + 1 < L.length → L.getD k 0 < L.getD (k + 1) 0
  gap : ∀ k, k < L.length → ∀ q, L.getD k 0 < q → q < s → (k + 1 < L.length → q < L.getD (k + 1) 0) → bordB l q = false
theorem BrdUp.start (l : List Prd) : BrdUp l [] 0 := ⟨Nat.le_refl _, fun h => absurd h (Nat.lt_irrefl _), fun _ h => absurd h (Nat.not_lt_zero _), fun _ h => absurd h (Nat.not_lt_zero _), fun _ h => absurd h (Nat.not_lt_zero _)⟩
theorem bord_zero (l : List Prd) : bordB l 0 = true := rfl
theorem BrdUp.no {l : List Prd} {L : List Nat} {s : Nat} (h : BrdUp l L s) (hb : bordB l s = false) : BrdUp l L (s + 1) := by
  refine ⟨by have := h.len; omega, fun _ => ?_, fun k hk => by have := h.lt k hk; omega, h.asc, fun k hk q a b c => ?_⟩
  · refine h.zero ?_
    rcases Nat.eq_zero_or_pos s with h0 | h0
    · rw [h0, bord_zero] at hb; cases hb
    · exact h0
  · rcases Nat.lt_or_ge q s with h1 | h1
    · exact h.gap k hk q a h1 c
    · rw [show q = s by omega]; exact hb
theorem getD_snoc_lt {L : List Nat} {s k : Nat} (h : k < L.length) : (L ++ [s]).getD k 0 = L.getD k 0 := by
  rw [List.getD_eq_getElem?_getD, List.getD_eq_getElem?_getD, List.getElem?_append_left h]
theorem getD_snoc_eq {L : List Nat} {s k : Nat} (h : k = L.length) : (L ++ [s]).getD k 0 = s := by
  subst h
  rw [List.getD_eq_getElem?_getD, List.getElem?_append_right (Nat.le_refl _), Nat.sub_self]
  rfl
theorem BrdUp.yes {l : List Prd} {L : List Nat} {s : Nat} (h : BrdUp l L s) : BrdUp l (L ++ [s]) (s + 1) := by
  have hl : (L ++ [s]).length = L.length + 1 := by simp
  refine ⟨by have := h.len; omega, fun _ => ⟨by omega, ?_⟩, fun k hk => ?_, fun k hk => ?_, fun k hk q a b c => ?_⟩
  · rcases Nat.eq_zero_or_pos s with h0 | h0
    · have : L.length = 0 := by have := h.len; omega
      rw [getD_snoc_eq this.symm, h0]
    · obtain ⟨h1, h2⟩ := h.zero h0
      rw [getD_snoc_lt h1, h2]
  · rcases Nat.lt_or_ge k L.length with h1 | h1
    · rw [getD_snoc_lt h1]; have := h.lt k h1; omega
    · rw [getD_snoc_eq (by omega)]; omega
  · rw [hl] at hk
    rw [getD_snoc_lt (by omega)]
    rcases Nat.lt_or_ge (k + 1) L.length with h1 | h1
    · rw [getD_snoc_lt h1]; exact h.asc k h1
    · rw [getD_snoc_eq (by omega)]; exact h.lt k (by omega)
  · rw [hl] at hk c
    rcases Nat.lt_or_ge k L.length with h1 | h1
    · rw [getD_snoc_lt h1] at a
      have c1 := c (by omega)
      refine h.gap k h1 q a ?_ fun h2 => ?_
      · rcases Nat.lt_or_ge (k + 1) L.length with h2 | h2
        · rw [getD_snoc_lt h2] at c1
          have := h.lt (k + 1) h2
          omega
        · rw [getD_snoc_eq (by omega)] at c1
          exact c1
      · rw [getD_snoc_lt h2] at c1
        exact c1
    · rw [getD_snoc_eq (by omega)] at a
      omega
theorem BrdUp.end_ {l : List Prd} {L : List Nat} (h : BrdUp l L 86400) : Brd l L := by
  obtain ⟨h1, h2⟩ := h.zero (by omega)
  exact ⟨h1, h.len, h2, h.lt, h.asc, h.gap⟩
end Go.Proofs.YtlogapkpllgdcaaGreatDoor

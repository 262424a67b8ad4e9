/- Spans that ascend and neither touch nor meet: one list for one set of seconds. Plain. -/
import Derived.Test.YtlogapkpllgdcaaDoorPdBits
namespace Go.Proofs.YtlogapkpllgdcaaDoor

def Can : Int → List Spn → Prop
  | _, [] => True
  | lo, s :: r => lo < s.f ∧ s.f < s.t ∧ s.t ≤ 86400 ∧ Can s.t r
def lastT (lo : Int) : List Spn → Int
  | [] => lo
  | s :: r => lastT s.t r
theorem lastT_snoc (lo : Int) (l : List Spn) (s : Spn) : lastT lo (l ++ [s]) = s.t := by
  induction l generalizing lo with
  | nil => rfl
  | cons a l ih => exact ih a.t
theorem Can.snoc {lo : Int} {l : List Spn} {s : Spn} (h : Can lo l) (h1 : lastT lo l < s.f) (h2 : s.f < s.t) (h3 : s.t ≤ 86400) : Can lo (l ++ [s]) := by
  induction l generalizing lo with
  | nil => exact ⟨h1, h2, h3, trivial⟩
  | cons a l ih => exact ⟨h.1, h.2.1, h.2.2.1, ih h.2.2.2 h1⟩
theorem Can.lo {lo : Int} {l : List Spn} (h : Can lo l) : lo ≤ lastT lo l := by
  induction l generalizing lo with
  | nil => exact Int.le_refl _
  | cons a l ih => have := ih h.2.2.2; have := h.1; have := h.2.1; show lo ≤ lastT a.t l; omega
/-- A second that is in lies behind lo. -/
theorem Can.in_lo {lo : Int} {l : List Spn} {j : Nat} (h : Can lo l) (hj : l.any (fun s => inS s j) = true) : lo < j := by
  induction l generalizing lo with
  | nil => cases hj
  | cons a l ih =>
    rw [List.any_cons, Bool.or_eq_true] at hj
    rcases hj with hj | hj
    · simp only [inS, Bool.and_eq_true, decide_eq_true_eq] at hj
      have := h.1
      omega
    · have := ih h.2.2.2 hj
      have := h.1
      have := h.2.1
      omega
theorem Can.at_ {lo : Int} {l : List Spn} (h : Can lo l) (k : Nat) (hk : k < l.length) : lo < (l.getD k ⟨0, 0⟩).f ∧ (l.getD k ⟨0, 0⟩).f < (l.getD k ⟨0, 0⟩).t ∧ (l.getD k ⟨0, 0⟩).t ≤ 86400 := by
  induction l generalizing lo k with
  | nil => cases hk
  | cons a l ih =>
    cases k with
    | zero => exact ⟨h.1, h.2.1, h.2.2.1⟩
    | succ k =>
      have h1 := ih h.2.2.2 k (by simpa using hk)
      have h2 := h.1
      have h3 := h.2.1
      rw [List.getD_cons_succ]
      omega
theorem Can.gap {lo : Int} {l : List Spn} (h : Can lo l) (k : Nat) (hk : k + 1 < l.length) : (l.getD k ⟨0, 0⟩).t < (l.getD (k + 1) ⟨0, 0⟩).f := by
  induction l generalizing lo k with
  | nil => cases hk
  | cons a l ih =>
    cases k with
    | zero => exact (h.2.2.2.at_ 0 (by simpa using hk)).1
    | succ k =>
      rw [List.getD_cons_succ, List.getD_cons_succ]
      exact ih h.2.2.2 k (by simpa using hk)
/-- Of one set of seconds there is one such list. -/
theorem Can.one {lo : Int} {l l' : List Spn} (hlo : -1 ≤ lo) (h : Can lo l) (h' : Can lo l') (he : ∀ j : Nat, (l.any fun s => inS s j) = (l'.any fun s => inS s j)) : l = l' := by
  induction l generalizing lo l' with
  | nil =>
    cases l' with
    | nil => rfl
    | cons a r =>
      have h1 := h'.1
      have h2 := h'.2.1
      have := he a.f.toNat
      rw [List.any_nil, List.any_cons] at this
      have hin : inS a a.f.toNat = true := by simp only [inS, Bool.and_eq_true, decide_eq_true_eq]; omega
      rw [hin] at this
      cases this
  | cons s l ih =>
    have a1 := h.1
    have a2 := h.2.1
    have a3 := h.2.2.1
    cases l' with
    | nil =>
      have := he s.f.toNat
      rw [List.any_nil, List.any_cons] at this
      have hin : inS s s.f.toNat = true := by simp only [inS, Bool.and_eq_true, decide_eq_true_eq]; omega
      rw [hin] at this
      cases this
    | cons s' r =>
      have b1 := h'.1
      have b2 := h'.2.1
      have b3 := h'.2.2.1
      have key : ∀ (x y : Spn) (p q : List Spn), lo < x.f → x.f < x.t → Can x.t p → y.f < y.t → Can y.t q → (∀ j : Nat, ((x :: p).any fun s => inS s j) = ((y :: q).any fun s => inS s j)) → y.f ≤ x.f := by
        intro x y p q c1 c2 _ c4 c5 ce
        have := ce x.f.toNat
        have hin : inS x x.f.toNat = true := by simp only [inS, Bool.and_eq_true, decide_eq_true_eq]; omega
        rw [List.any_cons, hin, Bool.true_or, List.any_cons, eq_comm, Bool.or_eq_true] at this
        rcases this with h | h
        · simp only [inS, Bool.and_eq_true, decide_eq_true_eq] at h
          omega
        · have := c5.in_lo h
          omega
      have f1 := key s s' l r a1 a2 h.2.2.2 b2 h'.2.2.2 he
      have f2 := key s' s r l b1 b2 h'.2.2.2 a2 h.2.2.2 (fun j => (he j).symm)
      have ef : s.f = s'.f := by omega
      have key2 : ∀ (x y : Spn) (p q : List Spn), lo < x.f → x.f = y.f → x.f < x.t → Can x.t p → (∀ j : Nat, ((x :: p).any fun s => inS s j) = ((y :: q).any fun s => inS s j)) → ¬ x.t < y.t := by
        intro x y p q c1 c2 c3 c4 ce hlt
        have := ce x.t.toNat
        have hin : inS y x.t.toNat = true := by simp only [inS, Bool.and_eq_true, decide_eq_true_eq]; omega
        rw [List.any_cons (l := q), hin, Bool.true_or, List.any_cons, Bool.or_eq_true] at this
        rcases this with h | h
        · simp only [inS, Bool.and_eq_true, decide_eq_true_eq] at h
          omega
        · have := c4.in_lo h
          omega
      have t1 := key2 s s' l r a1 ef a2 h.2.2.2 he
      have t2 := key2 s' s r l b1 ef.symm b2 h'.2.2.2 (fun j => (he j).symm)
      have et : s.t = s'.t := by omega
      have es : s = s' := by cases s; cases s'; simp_all
      subst es
      congr 1
      refine ih (by omega) h.2.2.2 h'.2.2.2 fun j => ?_
      have hj := he j
      rw [List.any_cons, List.any_cons] at hj
      cases hi : inS s j
      · rw [hi, Bool.false_or, Bool.false_or] at hj
        exact hj
      · have hle : ¬ s.t < (j : Int) := by
          simp only [inS, Bool.and_eq_true, decide_eq_true_eq] at hi
          omega
        have n1 : (l.any fun s => inS s j) = false := by
          cases hx : l.any fun s => inS s j
          · rfl
          · exact absurd (h.2.2.2.in_lo hx) hle
        have n2 : (r.any fun s => inS s j) = false := by
          cases hx : r.any fun s => inS s j
          · rfl
          · exact absurd (h'.2.2.2.in_lo hx) hle
        rw [n1, n2]
/-- Up to q the spans are the seconds of f; q is the next one. -/
structure Upq (f : Nat → Bool) (o : List Spn) (q : Nat) : Prop where
  can : Can (-1) o
  last : lastT (-1) o < q ∨ q = 86400
  mem : ∀ j, j < q → f j = o.any fun s => inS s j
  top : q ≤ 86400
theorem any_snoc (o : List Spn) (s : Spn) (j : Nat) : ((o ++ [s]).any fun s => inS s j) = ((o.any fun s => inS s j) || inS s j) := by simp
/-- Behind the last span nothing is in. -/
theorem Can.none_hi {lo : Int} {l : List Spn} {j : Nat} (h : Can lo l) (hj : lastT lo l ≤ j) : (l.any fun s => inS s j) = false := by
  induction l generalizing lo with
  | nil => rfl
  | cons a l ih =>
    have h1 := h.2.2.2.lo
    have h2 : lastT a.t l ≤ j := hj
    rw [List.any_cons, ih h.2.2.2 h2, Bool.or_false]
    simp only [inS, Bool.and_eq_false_iff, decide_eq_false_iff_not]
    omega
/-- One span more. -/
theorem Upq.step {f : Nat → Bool} {o : List Spn} {q t r : Nat} (h : Upq f o q) (hq : q < 86400) (hf : f q = true) (hlast : lastT (-1) o < q)
    (ht1 : q ≤ t) (ht2 : t ≤ 86400) (ht3 : ∀ j, q ≤ j → j < t → f j = true) (ht4 : t < 86400 → f t = false)
    (hr1 : t ≤ r) (hr2 : r ≤ 86400) (hr3 : ∀ j, t ≤ j → j < r → f j = false) (hr4 : r < 86400 → f r = true) : Upq f (o ++ [⟨q, t⟩]) r := by
  have hqt : q < t := by
    rcases Nat.lt_or_ge q t with h | h
    · exact h
    · have e : q = t := by omega
      subst e
      rw [ht4 hq] at hf
      cases hf
  refine ⟨h.can.snoc hlast (by show (q : Int) < t; omega) (by show (t : Int) ≤ 86400; omega), ?_, fun j hj => ?_, hr2⟩
  · rw [lastT_snoc]
    by_cases e : r = 86400
    · exact .inr e
    · refine .inl ?_
      show (t : Int) < r
      have : t ≠ r := fun e' => by
        subst e'
        rw [ht4 (by omega)] at hr4
        cases hr4 (by omega)
      omega
  · rw [any_snoc]
    rcases Nat.lt_or_ge j q with h1 | h1
    · rw [← h.mem j h1]
      have : inS ⟨q, t⟩ j = false := by
        simp only [inS, Bool.and_eq_false_iff, decide_eq_false_iff_not]
        omega
      rw [this, Bool.or_false]
    · have hn := h.can.none_hi (j := j) (by omega)
      rw [hn, Bool.false_or]
      rcases Nat.lt_or_ge j t with h2 | h2
      · rw [ht3 j h1 h2, eq_comm]
        simp only [inS, Bool.and_eq_true, decide_eq_true_eq]
        omega
      · rw [hr3 j h2 hj, eq_comm]
        simp only [inS, Bool.and_eq_false_iff, decide_eq_false_iff_not]
        omega
theorem Upq.start {f : Nat → Bool} {q : Nat} (h1 : q ≤ 86400) (h2 : ∀ j, j < q → f j = false) : Upq f [] q :=
  ⟨trivial, .inl (by show (-1 : Int) < q; omega), fun j hj => by rw [h2 j hj]; rfl, h1⟩
end Go.Proofs.YtlogapkpllgdcaaDoor

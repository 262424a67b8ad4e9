/- Plain words of layer 7: spans, entries, periods; ways, loops, ranks; who is in. -/
import Derived.Test.YtlogapkpllgdcaaDoorRlMath
namespace Go.Proofs.YtlogapkpllgdcaaDoor

structure Spn where
  f : Int
  t : Int
structure Ent where
  r : Rl
  sp : List Spn
structure Prd where
  es : List Ent
  ex : List Int

def badS (s : Spn) : Bool := decide (s.f < 0) || (decide (86400 < s.t) || decide (s.t ≤ s.f))
theorem badS_no {s : Spn} (h : badS s = false) : 0 ≤ s.f ∧ s.t ≤ 86400 ∧ s.f < s.t := by
  simp only [badS, Bool.or_eq_false_iff, decide_eq_false_iff_not] at h
  omega
theorem badS_of {s : Spn} (h1 : 0 ≤ s.f) (h2 : s.t ≤ 86400) (h3 : s.f < s.t) : badS s = false := by
  simp only [badS, Bool.or_eq_false_iff, decide_eq_false_iff_not]
  omega
def longE (e : Ent) : Bool := decide (32 < e.sp.length)
def longP (p : Prd) : Bool := decide (64 < p.es.length) || (decide (64 < p.ex.length) || p.es.any longE)
def wrongE (e : Ent) : Bool := !mayR e.r || e.sp.any badS
def wrongP (p : Prd) : Bool := p.es.any wrongE
def isOneB (n : Nat) (x : Int) : Bool := decide (0 ≤ x) && decide (x < n)
def noneP (n : Nat) (p : Prd) : Bool := p.ex.any fun x => !isOneB n x

/-- One step by an exclude; ways of one step and more. -/
def Step (l : List Prd) (i j : Nat) : Prop := ∃ p, l[i]? = some p ∧ (j : Int) ∈ p.ex
inductive Way (l : List Prd) : Nat → Nat → Prop
  | one {i j} : Step l i j → Way l i j
  | more {i j k} : Step l i j → Way l j k → Way l i k
theorem Way.snoc {l : List Prd} {i j k : Nat} (h : Way l i j) (s : Step l j k) : Way l i k := by
  induction h with
  | one a => exact .more a (.one s)
  | more a _ ih => exact .more a (ih s)
theorem Way.trans {l : List Prd} {i j k : Nat} (h : Way l i j) (s : Way l j k) : Way l i k := by
  induction h with
  | one a => exact .more a s
  | more a _ ih => exact .more a (ih s)
def Loops (l : List Prd) : Prop := ∃ i, Way l i i
theorem Step.lt {l : List Prd} {i j : Nat} (h : Step l i j) : i < l.length := by
  obtain ⟨p, hp, _⟩ := h
  exact (List.getElem?_eq_some_iff.1 hp).1
theorem Way.lt {l : List Prd} {i j : Nat} (h : Way l i j) : i < l.length := by
  cases h with
  | one a => exact a.lt
  | more a _ => exact a.lt
/-- What is closed by steps is closed by ways. -/
theorem Way.closed {l : List Prd} {D : Nat → Prop} (hD : ∀ i j, D i → Step l i j → D j) {i j : Nat} (h : Way l i j) (hi : D i) : D j := by
  induction h with
  | one a => exact hD _ _ hi a
  | more a _ ih => exact ih (hD _ _ hi a)
theorem filter_lt {α : Type} (p q : α → Bool) : ∀ (L : List α), (∀ x ∈ L, p x = true → q x = true) → (∃ x ∈ L, q x = true ∧ p x = false) → (L.filter p).length < (L.filter q).length := by
  have hle : ∀ (L : List α), (∀ x ∈ L, p x = true → q x = true) → (L.filter p).length ≤ (L.filter q).length := by
    intro L
    induction L with
    | nil => intro _; simp
    | cons a L ih =>
      intro h
      have h1 := ih fun x hx => h x (List.mem_cons_of_mem _ hx)
      have h2 := h a List.mem_cons_self
      rw [List.filter_cons, List.filter_cons]
      by_cases ha : p a = true
      · rw [if_pos ha, if_pos (h2 ha)]; simpa using h1
      · rw [if_neg ha]; split <;> simp <;> omega
  intro L
  induction L with
  | nil => intro _ ⟨x, hx, _⟩; cases hx
  | cons a L ih =>
    intro h hx
    have h2 := h a List.mem_cons_self
    have h3 := hle L fun x hx => h x (List.mem_cons_of_mem _ hx)
    rw [List.filter_cons, List.filter_cons]
    obtain ⟨x, hm, hq, hp⟩ := hx
    rcases List.mem_cons.1 hm with rfl | hm
    · rw [if_neg (by rw [hp]; decide), if_pos hq]; simp; omega
    · have h1 := ih (fun x hx => h x (List.mem_cons_of_mem _ hx)) ⟨x, hm, hq, hp⟩
      by_cases ha : p a = true
      · rw [if_pos ha, if_pos (h2 ha)]; simpa using h1
      · rw [if_neg ha]; split <;> simp <;> omega
open Classical in
/-- How many there are ways to. -/
noncomputable def rk (l : List Prd) (i : Nat) : Nat := ((List.range l.length).filter fun j => decide (Way l i j)).length
theorem rk_le (l : List Prd) (i : Nat) : rk l i ≤ l.length := by
  unfold rk
  have := List.length_filter_le (fun j => @decide (Way l i j) (Classical.propDecidable _)) (List.range l.length)
  rw [List.length_range] at this
  exact this
open Classical in
theorem rk_lt {l : List Prd} (h : ¬ Loops l) {i j : Nat} (hs : Step l i j) (hj : j < l.length) : rk l j < rk l i := by
  unfold rk
  apply filter_lt
  · intro x _ hx
    exact decide_eq_true (Way.more hs (of_decide_eq_true hx))
  · refine ⟨j, List.mem_range.2 hj, ?_, ?_⟩
    · exact decide_eq_true (Way.one hs)
    · exact decide_eq_false fun hw => h ⟨j, hw⟩

/-- All excludes are of the list. -/
def InRange (l : List Prd) : Prop := ∀ p ∈ l, ∀ x ∈ p.ex, 0 ≤ x ∧ x < (l.length : Int)
theorem inRange_of {l : List Prd} (h : l.any (noneP l.length) = false) : InRange l := fun p hp x hx => by
  have h1 := (List.any_eq_false.1 h) p hp
  simp only [noneP, Bool.not_eq_true, List.any_eq_false] at h1
  have h2 := h1 x hx
  simp only [isOneB, Bool.not_eq_eq_eq_not, Bool.not_false, Bool.and_eq_true, decide_eq_true_eq] at h2
  exact h2

/-- Who is in: hit says which entries are meant. -/
def innF (l : List Prd) (hit : Ent → Bool) : Nat → Nat → Bool
  | 0, _ => false
  | k + 1, i => match l[i]? with
    | none => false
    | some p => p.es.any hit && !p.ex.any fun x => innF l hit k x.toNat
noncomputable def inn (l : List Prd) (hit : Ent → Bool) (i : Nat) : Bool := innF l hit (l.length + 1) i
theorem any_congr {α : Type} {p q : α → Bool} : ∀ {L : List α}, (∀ x ∈ L, p x = q x) → L.any p = L.any q
  | [], _ => rfl
  | a :: L, h => by rw [List.any_cons, List.any_cons, h a List.mem_cons_self, any_congr fun x hx => h x (List.mem_cons_of_mem _ hx)]
theorem innF_stable {l : List Prd} (hit : Ent → Bool) (hl : ¬ Loops l) (hr : InRange l) : ∀ (k : Nat) (i k' : Nat), rk l i < k → rk l i < k' → innF l hit k i = innF l hit k' i := by
  intro k
  induction k with
  | zero => intro i k' h; omega
  | succ k ih =>
    intro i k' h h'
    obtain ⟨k', rfl⟩ : ∃ m, k' = m + 1 := ⟨k' - 1, by omega⟩
    simp only [innF]
    cases hp : l[i]? with
    | none => rfl
    | some p =>
      simp only
      congr 2
      refine any_congr fun x hx => ?_
      have hb := hr p (List.mem_of_getElem? hp) x hx
      have hlt := rk_lt hl (i := i) (j := x.toNat) ⟨p, hp, by rw [Int.toNat_of_nonneg hb.1]; exact hx⟩ (by omega)
      exact ih x.toNat k' (by omega) (by omega)
theorem inn_eq {l : List Prd} (hit : Ent → Bool) (hl : ¬ Loops l) (hr : InRange l) {i : Nat} {p : Prd} (hp : l[i]? = some p) :
    inn l hit i = (p.es.any hit && !p.ex.any fun x => inn l hit x.toNat) := by
  have h1 := rk_le l i
  have e : inn l hit i = innF l hit (l.length + 1) i := rfl
  rw [e]
  simp only [innF, hp]
  congr 2
  refine any_congr fun x hx => ?_
  have hb := hr p (List.mem_of_getElem? hp) x hx
  have hlt := rk_lt hl (i := i) (j := x.toNat) ⟨p, hp, by rw [Int.toNat_of_nonneg hb.1]; exact hx⟩ (by omega)
  exact innF_stable hit hl hr _ _ _ (by omega) (by omega)
theorem innF_congr {l : List Prd} {hit hit' : Ent → Bool} (h : ∀ p ∈ l, ∀ e ∈ p.es, hit e = hit' e) : ∀ k i, innF l hit k i = innF l hit' k i := by
  intro k
  induction k with
  | zero => intro i; rfl
  | succ k ih =>
    intro i
    simp only [innF]
    cases hp : l[i]? with
    | none => rfl
    | some p =>
      simp only
      rw [any_congr fun e he => h p (List.mem_of_getElem? hp) e he]
      simp only [ih]
theorem inn_congr {l : List Prd} {hit hit' : Ent → Bool} (h : ∀ p ∈ l, ∀ e ∈ p.es, hit e = hit' e) (i : Nat) : inn l hit i = inn l hit' i := innF_congr h _ i
end Go.Proofs.YtlogapkpllgdcaaDoor

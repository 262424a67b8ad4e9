/- Plain: what leads where (of no program). E i: where i leads. -/
import Derived.Test.YtkfnbapnkmlopaaDoorBase
namespace Go.Proofs.YtkfnbapnkmlopaaDoor

/-- Ways of one step and more. -/
inductive Wy (E : Nat → List Nat) : Nat → Nat → Prop
  | one {i j} : j ∈ E i → Wy E i j
  | more {i j k} : j ∈ E i → Wy E j k → Wy E i k
theorem Wy.snoc {E : Nat → List Nat} {i j k : Nat} (h : Wy E i j) (s : k ∈ E j) : Wy E i k := by
  induction h with
  | one a => exact .more a (.one s)
  | more a _ ih => exact .more a (ih s)
theorem Wy.trans {E : Nat → List Nat} {i j k : Nat} (h : Wy E i j) (s : Wy E j k) : Wy E i k := by
  induction h with
  | one a => exact .more a s
  | more a _ ih => exact .more a (ih s)
/-- What is closed by steps is closed by ways. -/
theorem Wy.closed {E : Nat → List Nat} {D : Nat → Prop} (hD : ∀ i j, D i → j ∈ E i → D j) {i j : Nat} (h : Wy E i j) (hi : D i) : D j := by
  induction h with
  | one a => exact hD _ _ hi a
  | more a _ ih => exact ih (hD _ _ hi a)
/-- The first step of a way. -/
theorem Wy.head {E : Nat → List Nat} {i k : Nat} (h : Wy E i k) : ∃ j, j ∈ E i ∧ (j = k ∨ Wy E j k) := by
  cases h with
  | one a => exact ⟨k, a, .inl rfl⟩
  | more a b => exact ⟨_, a, .inr b⟩
def Cyc (E : Nat → List Nat) : Prop := ∃ i, Wy E i i
theorem filt_lt {α : Type} (p q : α → Bool) : ∀ (L : List α), (∀ x ∈ L, p x = true → q x = true) → (∃ x ∈ L, q x = true ∧ p x = false) → (L.filter p).length < (L.filter q).length := by
  have hle : ∀ (L : List α), (∀ x ∈ L, p x = true → q x = true) → (L.filter p).length ≤ (L.filter q).length := by
    intro L
    induction L with
    | nil => intro _; simp
    | cons a L ih =>
      intro h
      have h1 := ih fun x hx => h x (List.mem_cons_of_mem _ hx)
      have h2 := h a List.mem_cons_self
      rw [List.filter_cons, List.filter_cons]
      by_cases ha : p a = true
      · rw [if_pos ha, if_pos (h2 ha)]; simpa using h1
      · rw [if_neg ha]; split <;> simp <;> omega
  intro L
  induction L with
  | nil => intro _ ⟨x, hx, _⟩; cases hx
  | cons a L ih =>
    intro h hx
    have h2 := h a List.mem_cons_self
    have h3 := hle L fun x hx => h x (List.mem_cons_of_mem _ hx)
    rw [List.filter_cons, List.filter_cons]
    obtain ⟨x, hm, hq, hp⟩ := hx
    rcases List.mem_cons.1 hm with rfl | hm
    · rw [if_neg (by rw [hp]; decide), if_pos hq]; simp; omega
    · have h1 := ih (fun x hx => h x (List.mem_cons_of_mem _ hx)) ⟨x, hm, hq, hp⟩
      by_cases ha : p a = true
      · rw [if_pos ha, if_pos (h2 ha)]; simpa using h1
      · rw [if_neg ha]; split <;> simp <;> omega
open Classical in
/-- To how many of n there are ways. -/
noncomputable def rkG (E : Nat → List Nat) (n i : Nat) : Nat := ((List.range n).filter fun j => decide (Wy E i j)).length
theorem rkG_le (E : Nat → List Nat) (n i : Nat) : rkG E n i ≤ n := by
  unfold rkG
  have := List.length_filter_le (fun j => @decide (Wy E i j) (Classical.propDecidable _)) (List.range n)
  rw [List.length_range] at this
  exact this
open Classical in
theorem rkG_lt {E : Nat → List Nat} {n : Nat} (h : ¬ Cyc E) {i j : Nat} (hs : j ∈ E i) (hj : j < n) : rkG E n j < rkG E n i := by
  unfold rkG
  apply filt_lt
  · intro x _ hx
    exact decide_eq_true (Wy.more hs (of_decide_eq_true hx))
  · refine ⟨j, List.mem_range.2 hj, ?_, ?_⟩
    · exact decide_eq_true (Wy.one hs)
    · exact decide_eq_false fun hw => h ⟨j, hw⟩
/-- Without a way back, one of those that are left has all its steps beyond them. -/
theorem acyc_pick {E : Nat → List Nat} {n : Nat} (h : ¬ Cyc E) (hE : ∀ i, i < n → ∀ j ∈ E i, j < n) (D : Nat → Prop) (hD : ∃ i, i < n ∧ ¬ D i) : ∃ i, i < n ∧ ¬ D i ∧ ∀ j ∈ E i, D j := by
  have key : ∀ m i, rkG E n i < m → i < n → ¬ D i → ∃ i, i < n ∧ ¬ D i ∧ ∀ j ∈ E i, D j := by
    intro m
    induction m with
    | zero => intro i hi; omega
    | succ m ih =>
      intro i hi hin hDi
      by_cases hall : ∀ j ∈ E i, D j
      · exact ⟨i, hin, hDi, hall⟩
      · obtain ⟨j, hj⟩ := Classical.not_forall.1 hall
        obtain ⟨hj1, hj2⟩ := Classical.not_imp.1 hj
        have hjn := hE i hin j hj1
        exact ih j (by have := rkG_lt h hj1 hjn; omega) hjn hj2
  obtain ⟨i, hi, hDi⟩ := hD
  exact key _ i (Nat.lt_succ_self _) hi hDi
/-! A value that hangs on the values of those that a thing leads to. -/
def calcF {α : Type} (E : Nat → List Nat) (z : α) (f : Nat → List α → α) : Nat → Nat → α
  | 0, _ => z
  | d + 1, i => f i ((E i).map (calcF E z f d))
theorem calcF_stable {α : Type} {E : Nat → List Nat} {z : α} {f : Nat → List α → α} {n : Nat} (h : ¬ Cyc E) (hE : ∀ i, i < n → ∀ j ∈ E i, j < n) :
    ∀ d i d', i < n → rkG E n i < d → rkG E n i < d' → calcF E z f d i = calcF E z f d' i := by
  intro d
  induction d with
  | zero => intro i d' _ h0; omega
  | succ d ih =>
    intro i d' hi h1 h2
    obtain ⟨d', rfl⟩ : ∃ m, d' = m + 1 := ⟨d' - 1, by omega⟩
    simp only [calcF]
    congr 1
    refine List.map_congr_left fun j hj => ?_
    have hjn := hE i hi j hj
    have := rkG_lt h hj hjn
    exact ih j d' hjn (by omega) (by omega)
def calV {α : Type} (E : Nat → List Nat) (z : α) (f : Nat → List α → α) (n i : Nat) : α := calcF E z f (n + 1) i
theorem calV_eq {α : Type} {E : Nat → List Nat} {z : α} {f : Nat → List α → α} {n : Nat} (h : ¬ Cyc E) (hE : ∀ i, i < n → ∀ j ∈ E i, j < n) {i : Nat} (hi : i < n) :
    calV E z f n i = f i ((E i).map (calV E z f n)) := by
  show f i ((E i).map (calcF E z f n)) = f i ((E i).map (calcF E z f (n + 1)))
  congr 1
  refine List.map_congr_left fun j hj => ?_
  have hjn := hE i hi j hj
  have h1 := rkG_lt h hj hjn
  have h2 := rkG_le E n i
  exact calcF_stable h hE _ _ _ hjn (by omega) (by omega)
/-! Marks set by sweeps. -/
def cntB (F : List Bool) : Nat := (F.filter id).length
theorem cntB_le (F : List Bool) : cntB F ≤ F.length := List.length_filter_le _ _
theorem cntB_set : ∀ (F : List Bool) (j : Nat), F[j]? = some false → cntB (F.set j true) = cntB F + 1
  | b :: F, 0, h => by
    have hb : b = false := by simpa using h
    subst hb
    simp [cntB]
  | b :: F, j + 1, h => by
    have ih := cntB_set F j (by simpa using h)
    unfold cntB at ih ⊢
    rw [List.set_cons_succ]
    cases b <;> simp [ih]
theorem set_same : ∀ (F : List Bool) (j : Nat), F[j]? = some true → F.set j true = F
  | b :: F, 0, h => by
    have hb : b = true := by simpa using h
    subst hb
    rfl
  | b :: F, j + 1, h => by rw [List.set_cons_succ, set_same F j (by simpa using h)]
end Go.Proofs.YtkfnbapnkmlopaaDoor

/- Plain: events in their order (chapter 15's words; of no program). -/
namespace Go.Proofs.YtkihfafkglkjnaaDoor

/-- At, Kind, ID. -/
abbrev Ev := Int × Int × Int
def ahE (a b : Ev) : Bool := decide (a.1 < b.1) || (decide (a.1 = b.1) && (decide (a.2.1 < b.2.1) || (decide (a.2.1 = b.2.1) && decide (a.2.2 < b.2.2))))
def keyB (k i : Int) (e : Ev) : Bool := decide (e.2.1 = k) && decide (e.2.2 = i)
/-- The place of the event of a kind and an id; -1: there is none. -/
def fdE (k i : Int) : List Ev → Nat → Int
  | [], _ => -1
  | e :: r, j => if keyB k i e = true then j else fdE k i r (j + 1)
/-- Ahead of how many stand those that are due ahead of e. -/
def cutE (e : Ev) : List Ev → Nat
  | [] => 0
  | x :: r => if ahE x e = true then cutE e r + 1 else 0
def insE (e : Ev) (L : List Ev) : List Ev := L.take (cutE e L) ++ e :: L.drop (cutE e L)
def wioE (L : List Ev) (j : Nat) : List Ev := L.take j ++ L.drop (j + 1)
def badE15 (e : Ev) : Bool := decide (e.1 < 0) || decide (4611686018427387904 < e.1) || decide (e.2.1 < 0) || decide (e.2.2 < 0)
/-- Set: the list, the error. -/
def stE (L : List Ev) (n : Int) (e : Ev) : List Ev × Nat :=
  if badE15 e = true then (L, 1) else
  if 0 ≤ fdE e.2.1 e.2.2 L 0 then (insE e (wioE L (fdE e.2.1 e.2.2 L 0).toNat), 0) else
  if n ≤ L.length then (L, 10) else (insE e L, 0)
def drE (L : List Ev) (k i : Int) : List Ev × Bool := if 0 ≤ fdE k i L 0 then (wioE L (fdE k i L 0).toNat, true) else (L, false)
theorem fdE_ge (k i : Int) : ∀ (L : List Ev) (j : Nat), -1 ≤ fdE k i L j
  | [], _ => by unfold fdE; omega
  | e :: r, j => by
    unfold fdE
    split
    · omega
    · exact fdE_ge k i r (j + 1)
theorem fdE_shift (k i : Int) : ∀ (L : List Ev) (j : Nat), fdE k i L j = if 0 ≤ fdE k i L 0 then fdE k i L 0 + j else -1
  | [], j => by unfold fdE; rw [if_neg (by omega)]
  | e :: r, j => by
    unfold fdE
    by_cases h : keyB k i e = true
    · rw [if_pos h, if_pos h, if_pos (by omega)]; omega
    · rw [if_neg h, if_neg h, fdE_shift k i r (j + 1), fdE_shift k i r 1]
      have := fdE_ge k i r 0
      by_cases h0 : 0 ≤ fdE k i r 0
      · rw [if_pos h0, if_pos h0, if_pos (by omega)]; omega
      · rw [if_neg h0, if_neg h0, if_neg (by omega)]
theorem fdE_hit {k i : Int} : ∀ {L : List Ev} {j : Nat} {e : Ev}, L[j]? = some e → keyB k i e = true → (∀ t, t < j → ∀ x, L[t]? = some x → keyB k i x = false) → fdE k i L 0 = j
  | [], _, _, h, _, _ => by simp at h
  | x :: r, 0, e, h, hk, _ => by
    have : x = e := by simpa using h
    unfold fdE
    rw [this, if_pos hk]
  | x :: r, j + 1, e, h, hk, hno => by
    have h1 := fdE_hit (L := r) (j := j) (by simpa using h) hk (fun t ht y hy => hno (t + 1) (by omega) y (by simpa using hy))
    have h2 := hno 0 (by omega) x (by simp)
    unfold fdE
    rw [if_neg (by rw [h2]; decide), fdE_shift, h1, if_pos (by omega)]
    omega
theorem fdE_no {k i : Int} : ∀ {L : List Ev}, (∀ x ∈ L, keyB k i x = false) → fdE k i L 0 = -1
  | [], _ => rfl
  | x :: r, h => by
    unfold fdE
    rw [if_neg (by rw [h x (by simp)]; decide), fdE_shift, fdE_no (L := r) (fun y hy => h y (by simp [hy])), if_neg (by omega)]
theorem fdE_at {k i : Int} : ∀ {L : List Ev} {j : Nat}, fdE k i L 0 = j → ∃ e, L[j]? = some e ∧ keyB k i e = true
  | [], j, h => by unfold fdE at h; omega
  | x :: r, j, h => by
    unfold fdE at h
    by_cases hk : keyB k i x = true
    · rw [if_pos hk] at h
      obtain rfl : j = 0 := by omega
      exact ⟨x, by simp, hk⟩
    · rw [if_neg hk, fdE_shift] at h
      by_cases h0 : 0 ≤ fdE k i r 0
      · rw [if_pos h0] at h
        obtain ⟨t, rfl⟩ : ∃ t, j = t + 1 := ⟨j - 1, by omega⟩
        obtain ⟨e, h1, h2⟩ := fdE_at (k := k) (i := i) (L := r) (j := t) (by omega)
        exact ⟨e, by simpa using h1, h2⟩
      · rw [if_neg h0] at h; omega
theorem fdE_lt {k i : Int} {L : List Ev} {j : Nat} (h : fdE k i L 0 = j) : j < L.length := by
  obtain ⟨e, h1, _⟩ := fdE_at h
  exact (List.getElem?_eq_some_iff.1 h1).1
theorem fdE_none {k i : Int} : ∀ {L : List Ev}, ¬ 0 ≤ fdE k i L 0 → ∀ x ∈ L, keyB k i x = false
  | [], _, x, hx => absurd hx List.not_mem_nil
  | e :: r, h, x, hx => by
    unfold fdE at h
    by_cases hk : keyB k i e = true
    · rw [if_pos hk] at h
      exact absurd (Int.natCast_nonneg 0) h
    · rw [if_neg hk, fdE_shift] at h
      have h2 : ¬ 0 ≤ fdE k i r 0 := fun h3 => by
        rw [if_pos h3] at h
        omega
      rcases List.mem_cons.1 hx with rfl | hx
      · simpa using hk
      · exact fdE_none h2 x hx
theorem wioE_len {L : List Ev} {j : Nat} (h : j < L.length) : (wioE L j).length + 1 = L.length := by
  unfold wioE
  rw [List.length_append, List.length_take, List.length_drop]
  omega
theorem cutE_le (e : Ev) : ∀ L : List Ev, cutE e L ≤ L.length
  | [] => Nat.le_refl _
  | x :: r => by
    have := cutE_le e r
    unfold cutE
    split
    · simp; omega
    · simp
theorem insE_len (e : Ev) (L : List Ev) : (insE e L).length = L.length + 1 := by
  have := cutE_le e L
  unfold insE
  rw [List.length_append, List.length_take, List.length_cons, List.length_drop]
  omega
theorem cutE_of {e : Ev} : ∀ {L : List Ev} {k : Nat}, k ≤ L.length → (∀ t, t < k → ∀ x, L[t]? = some x → ahE x e = true) → (∀ x, L[k]? = some x → ahE x e = false) → cutE e L = k
  | [], k, h, _, _ => by
    have : k = 0 := by simpa using h
    subst this
    rfl
  | x :: r, 0, _, _, hno => by
    unfold cutE
    rw [if_neg (by rw [hno x (by simp)]; decide)]
  | x :: r, k + 1, h, hy, hno => by
    unfold cutE
    rw [if_pos (hy 0 (by omega) x (by simp)), cutE_of (L := r) (k := k) (by simpa using h) (fun t ht y hyy => hy (t + 1) (by omega) y (by simpa using hyy)) (fun y hyy => hno y (by simpa using hyy))]
end Go.Proofs.YtkihfafkglkjnaaDoor

/- Plain: what leads where, of ways (chapter 12's words; of no program). -/
import Derived.Test.YtkfnbapnkmlopaaDoorGph
namespace Go.Proofs.YtkfnbapnkmlopaaDoor

abbrev Wt := List (Nat × Nat)
/-- Where a place leads. -/
def eM (M : Wt) (i : Nat) : List Nat := (M.filter fun p => p.1 == i).map (·.2)
theorem eM_mem {M : Wt} {i j : Nat} : j ∈ eM M i ↔ (i, j) ∈ M := by
  unfold eM
  rw [List.mem_map]
  constructor
  · rintro ⟨p, hp, rfl⟩
    obtain ⟨h1, h2⟩ := List.mem_filter.1 hp
    have e : p.1 = i := by simpa using h2
    rw [← e]
    exact h1
  · intro h
    exact ⟨(i, j), List.mem_filter.2 ⟨h, by simp⟩, rfl⟩
def Okw (n : Nat) (M : Wt) : Prop := ∀ p ∈ M, p.1 < n ∧ p.2 < n
theorem eM_lt {n : Nat} {M : Wt} (h : Okw n M) : ∀ i, i < n → ∀ j ∈ eM M i, j < n := fun _ _ _ hj => (h _ (eM_mem.1 hj)).2
theorem Wy.lt {n : Nat} {M : Wt} (h : Okw n M) {i j : Nat} (hw : Wy (eM M) i j) : i < n ∧ j < n := by
  induction hw with
  | one a => exact h _ (eM_mem.1 a)
  | more a _ ih => exact ⟨(h _ (eM_mem.1 a)).1, ih.2⟩
/-! Ways turned round. -/
def rvM (M : Wt) : Wt := M.map fun p => (p.2, p.1)
theorem rv_ok {n : Nat} {M : Wt} (h : Okw n M) : Okw n (rvM M) := fun p hp => by
  obtain ⟨q, hq, rfl⟩ := List.mem_map.1 hp
  exact ⟨(h q hq).2, (h q hq).1⟩
theorem rv_mem {M : Wt} {i j : Nat} : (i, j) ∈ rvM M ↔ (j, i) ∈ M := by
  unfold rvM
  rw [List.mem_map]
  constructor
  · rintro ⟨p, hp, e⟩
    injection e with e1 e2
    rw [← e1, ← e2]
    exact hp
  · intro h
    exact ⟨(j, i), h, rfl⟩
theorem rv_one {M : Wt} {i j : Nat} (h : Wy (eM M) i j) : Wy (eM (rvM M)) j i := by
  induction h with
  | one a => exact .one (eM_mem.2 (rv_mem.2 (eM_mem.1 a)))
  | more a _ ih => exact ih.snoc (eM_mem.2 (rv_mem.2 (eM_mem.1 a)))
theorem rv_rv (M : Wt) : rvM (rvM M) = M := by
  unfold rvM
  rw [List.map_map]
  exact List.map_id _
theorem rv_iff {M : Wt} {i j : Nat} : Wy (eM (rvM M)) i j ↔ Wy (eM M) j i := ⟨fun h => by have := rv_one h; rwa [rv_rv] at this, rv_one⟩
/-! Sweeps: what x leads to. -/
structure Ldr (M : Wt) (n x : Nat) (F : List Bool) : Prop where
  len : F.length = n
  way : ∀ j, F[j]? = some true → Wy (eM M) x j
theorem Ldr.init (M : Wt) (n x : Nat) : Ldr M n x (List.replicate n false) where
  len := by simp
  way := fun j h => by
    rw [List.getElem?_replicate] at h
    split at h <;> cases h
/-- Does a way begin at x, or where a mark is? -/
def hitW (x : Nat) (F : List Bool) (p : Nat × Nat) : Bool := p.1 == x || F[p.1]? == some true
theorem Ldr.set {M : Wt} {n x : Nat} {F : List Bool} (h : Ldr M n x F) {p : Nat × Nat} (hp : p ∈ M) (hh : hitW x F p = true) : Ldr M n x (F.set p.2 true) where
  len := by rw [List.length_set]; exact h.len
  way := fun j hj => by
    by_cases e : p.2 = j
    · rw [← e]
      unfold hitW at hh
      rcases Bool.or_eq_true_iff.1 hh with h1 | h1
      · have e1 : p.1 = x := by simpa using h1
        rw [← e1]
        exact .one (eM_mem.2 hp)
      · exact (h.way p.1 (by simpa using h1)).snoc (eM_mem.2 hp)
    · rw [List.getElem?_set_ne e] at hj
      exact h.way j hj
/-- All ways that begin there end at a mark. -/
def Cld (M : Wt) (x : Nat) (F : List Bool) : Prop := ∀ p ∈ M, hitW x F p = true → F[p.2]? = some true
theorem Ldr.all {M : Wt} {n x : Nat} {F : List Bool} (_ : Ldr M n x F) (hc : Cld M x F) : ∀ j, Wy (eM M) x j → F[j]? = some true := by
  have key : ∀ i j, Wy (eM M) i j → (i = x ∨ F[i]? = some true) → F[j]? = some true := by
    intro i j hw
    induction hw with
    | @one i j a =>
      intro hi
      refine hc (i, j) (eM_mem.1 a) ?_
      unfold hitW
      rcases hi with rfl | hi
      · simp
      · simp [hi]
    | @more i j k a _ ih =>
      intro hi
      refine ih (.inr (hc (i, j) (eM_mem.1 a) ?_))
      unfold hitW
      rcases hi with rfl | hi
      · simp
      · simp [hi]
  intro j hw
  exact key x j hw (.inl rfl)
/-- Within a sweep: the first i ways were looked at. -/
def Swn (M : Wt) (x : Nat) (F0 : List Bool) (i : Nat) (F : List Bool) : Prop :=
  (F = F0 ∧ ∀ p ∈ M.take i, hitW x F0 p = true → F0[p.2]? = some true) ∨ (cntB F0 + 1 ≤ cntB F ∧ ¬ Cld M x F0)
theorem Swn.init (M : Wt) (x : Nat) (F0 : List Bool) : Swn M x F0 0 F0 := .inl ⟨rfl, fun p hp => by simp at hp⟩
theorem Swn.no {M : Wt} {x i : Nat} {F0 F : List Bool} (h : Swn M x F0 i F) {p : Nat × Nat} (hp : M[i]? = some p) (hn : hitW x F p = false) : Swn M x F0 (i + 1) F := by
  rcases h with ⟨rfl, h2⟩ | h
  · refine .inl ⟨rfl, fun q hq hh => ?_⟩
    obtain ⟨hi, e⟩ := List.getElem?_eq_some_iff.1 hp
    rw [List.take_succ_eq_append_getElem hi, e] at hq
    rcases List.mem_append.1 hq with h3 | h3
    · exact h2 q h3 hh
    · rw [List.mem_singleton.1 h3, hn] at hh
      cases hh
  · exact .inr h
theorem Swn.yes {M : Wt} {x i : Nat} {F0 F : List Bool} (h : Swn M x F0 i F) {p : Nat × Nat} (hp : M[i]? = some p) (hh : hitW x F p = true) (hl : p.2 < F.length) : Swn M x F0 (i + 1) (F.set p.2 true) := by
  have hb : F[p.2]? = some F[p.2] := List.getElem?_eq_getElem hl
  rcases h with ⟨rfl, h2⟩ | h
  · cases hv : F[p.2] with
    | true =>
      rw [hv] at hb
      rw [set_same F p.2 hb]
      refine .inl ⟨rfl, fun q hq hh => ?_⟩
      obtain ⟨hi, e⟩ := List.getElem?_eq_some_iff.1 hp
      rw [List.take_succ_eq_append_getElem hi, e] at hq
      rcases List.mem_append.1 hq with h3 | h3
      · exact h2 q h3 hh
      · rw [List.mem_singleton.1 h3]; exact hb
    | false =>
      rw [hv] at hb
      refine .inr ⟨by rw [cntB_set F p.2 hb]; exact Nat.le_refl _, fun hc => ?_⟩
      have := hc p (List.mem_of_getElem? hp) hh
      rw [hb] at this
      cases this
  · right
    cases hv : F[p.2] with
    | true => rw [hv] at hb; rw [set_same F p.2 hb]; exact h
    | false => rw [hv] at hb; rw [cntB_set F p.2 hb]; exact ⟨by have := h.1; omega, h.2⟩
/-- Behind k sweeps. -/
def Fry (M : Wt) (x k : Nat) (F : List Bool) : Prop := Cld M x F ∨ k ≤ cntB F
theorem Fry.init (M : Wt) (x : Nat) (F : List Bool) : Fry M x 0 F := .inr (Nat.zero_le _)
theorem Fry.next {M : Wt} {x k : Nat} {F0 F : List Bool} (h : Fry M x k F0) (hs : Swn M x F0 M.length F) : Fry M x (k + 1) F := by
  rcases hs with ⟨rfl, h2⟩ | ⟨h1, h2⟩
  · exact .inl fun p hp => h2 p (by rw [List.take_length]; exact hp)
  · rcases h with h0 | h0
    · exact absurd h0 h2
    · exact .inr (by omega)
theorem Fry.done {M : Wt} {n x : Nat} {F : List Bool} (h : Fry M x (n + 1) F) (hl : Ldr M n x F) : Cld M x F := by
  rcases h with h | h
  · exact h
  · have := cntB_le F
    rw [hl.len] at this
    omega
open Classical in
/-- What x leads to. -/
noncomputable def ldT (M : Wt) (n x : Nat) : List Bool := (List.range n).map fun j => decide (Wy (eM M) x j)
theorem ldT_get {M : Wt} {n x j : Nat} (h : j < n) : (ldT M n x)[j]? = some (@decide (Wy (eM M) x j) (Classical.propDecidable _)) := by
  unfold ldT
  rw [List.getElem?_map, List.getElem?_range h]
  rfl
open Classical in
theorem Ldr.full {M : Wt} {n x : Nat} {F : List Bool} (h : Ldr M n x F) (hc : Cld M x F) : F = ldT M n x := by
  apply List.ext_getElem?
  intro j
  by_cases hj : j < n
  · rw [ldT_get hj]
    obtain ⟨b, hb⟩ : ∃ b, F[j]? = some b := ⟨_, List.getElem?_eq_getElem (by rw [h.len]; exact hj)⟩
    rw [hb]
    congr 1
    cases b with
    | true => exact (decide_eq_true (h.way j hb)).symm
    | false =>
      refine (decide_eq_false fun hw => ?_).symm
      have := h.all hc j hw
      rw [hb] at this
      cases this
  · rw [List.getElem?_eq_none (by rw [h.len]; omega), List.getElem?_eq_none (by unfold ldT; simp; omega)]
/-! The answers. -/
def ckW (n : Int) (L : List (Int × Int)) : Nat := if n < 0 ∨ 4096 < n ∨ 1048576 < L.length then 2 else if L.any (fun p => decide (p.1 < 0) || decide (n ≤ p.1) || decide (p.2 < 0) || decide (n ≤ p.2)) = true then 5 else 0
def ntW (L : List (Int × Int)) : Wt := L.map fun p => (p.1.toNat, p.2.toNat)
theorem ckW_ok {n : Int} {L : List (Int × Int)} (h : ckW n L = 0) : ∃ k : Nat, n = k ∧ k ≤ 4096 ∧ L.length ≤ 1048576 ∧ Okw k (ntW L) ∧ L = (ntW L).map fun p => ((p.1 : Int), (p.2 : Int)) := by
  unfold ckW at h
  split at h
  · cases h
  · rename_i h1
    split at h
    · cases h
    · rename_i h2
      have hn : 0 ≤ n := by omega
      have key : ∀ p ∈ L, 0 ≤ p.1 ∧ p.1 < n ∧ 0 ≤ p.2 ∧ p.2 < n := fun p hp => by
        have h3 : ¬ (decide (p.1 < 0) || decide (n ≤ p.1) || decide (p.2 < 0) || decide (n ≤ p.2)) = true := fun e => h2 (List.any_eq_true.2 ⟨p, hp, e⟩)
        simp only [Bool.or_eq_true, decide_eq_true_eq] at h3
        omega
      refine ⟨n.toNat, by omega, by omega, by omega, fun q hq => ?_, ?_⟩
      · obtain ⟨p, hp, rfl⟩ := List.mem_map.1 hq
        have := key p hp
        dsimp only
        omega
      · unfold ntW
        rw [List.map_map]
        refine (List.map_id L).symm.trans (List.map_congr_left fun p hp => ?_)
        have := key p hp
        show p = ((p.1.toNat : Int), (p.2.toNat : Int))
        rw [Int.toNat_of_nonneg this.1, Int.toNat_of_nonneg this.2.2.1]
open Classical in
/-- The least place that leads back to itself. -/
noncomputable def lpT (M : Wt) (n : Nat) : Option Nat := (List.range n).find? fun x => decide (Wy (eM M) x x)
open Classical in
theorem lpT_some {M : Wt} {n x : Nat} (h : lpT M n = some x) : x < n ∧ Wy (eM M) x x ∧ ∀ y, y < x → ¬ Wy (eM M) y y := by
  unfold lpT at h
  rw [List.find?_range_eq_some] at h
  obtain ⟨h1, h2, h3⟩ := h
  refine ⟨List.mem_range.1 h2, of_decide_eq_true h1, fun y hy hw => ?_⟩
  have := h3 y hy
  simp [hw] at this
open Classical in
theorem lpT_none {M : Wt} {n : Nat} (hM : Okw n M) : lpT M n = none ↔ ¬ Cyc (eM M) := by
  unfold lpT
  rw [List.find?_eq_none]
  constructor
  · rintro h ⟨i, hi⟩
    have := h i (List.mem_range.2 (Wy.lt hM hi).1)
    simp [hi] at this
  · intro h x _ hx
    exact h ⟨x, of_decide_eq_true hx⟩
open Classical in
theorem lpT_of {M : Wt} {n x : Nat} (hx : x < n) (hw : Wy (eM M) x x) (hno : ∀ y, y < x → ¬ Wy (eM M) y y) : lpT M n = some x := by
  unfold lpT
  rw [List.find?_range_eq_some]
  refine ⟨decide_eq_true hw, List.mem_range.2 hx, fun y hy => ?_⟩
  simp [hno y hy]
open Classical in
/-- The places that x reaches, and it. -/
noncomputable def rcT (M : Wt) (n x : Nat) : List Nat := (List.range n).filter fun j => j == x || decide (Wy (eM M) x j)
theorem rcT_mem {M : Wt} {n x j : Nat} : j ∈ rcT M n x ↔ j < n ∧ (j = x ∨ Wy (eM M) x j) := by
  unfold rcT
  rw [List.mem_filter, List.mem_range]
  simp
/-! The order. -/
/-- May x stand behind these? -/
def frT (M : Wt) (D : List Nat) (x : Nat) : Bool := !(D.contains x) && M.all fun p => !(p.2 == x) || D.contains p.1
def nxtT (M : Wt) (n : Nat) (D : List Nat) : Option Nat := (List.range n).find? (frT M D)
def ordK (M : Wt) (n : Nat) : Nat → List Nat
  | 0 => []
  | k + 1 => ordK M n k ++ (nxtT M n (ordK M n k)).toList
def ordT (M : Wt) (n : Nat) : List Nat := ordK M n n
theorem frT_iff {M : Wt} {D : List Nat} {x : Nat} : frT M D x = true ↔ x ∉ D ∧ ∀ y, (y, x) ∈ M → y ∈ D := by
  unfold frT
  rw [Bool.and_eq_true, List.all_eq_true]
  constructor
  · rintro ⟨h1, h2⟩
    refine ⟨by simpa using h1, fun y hy => ?_⟩
    have := h2 _ hy
    simpa using this
  · rintro ⟨h1, h2⟩
    refine ⟨by simpa using h1, fun p hp => ?_⟩
    by_cases e : p.2 = x
    · have := h2 p.1 (by rw [← e]; exact hp)
      simp [this]
    · simp [e]
/-- How far an order is. -/
structure Orw (M : Wt) (n : Nat) (D : List Nat) : Prop where
  nd : D.Nodup
  lt : ∀ x ∈ D, x < n
  pre : ∀ (b : Nat) (x : Nat), D[b]? = some x → ∀ y, (y, x) ∈ M → y ∈ D.take b
theorem Orw.next {M : Wt} {n : Nat} {D : List Nat} (h : Orw M n D) {x : Nat} (hx : nxtT M n D = some x) : Orw M n (D ++ [x]) := by
  have h1 := List.find?_some hx
  have h2 := List.mem_range.1 (List.mem_of_find?_eq_some hx)
  obtain ⟨h3, h4⟩ := frT_iff.1 h1
  refine ⟨?_, fun y hy => ?_, fun b y hb z hz => ?_⟩
  · rw [List.nodup_append]
    refine ⟨h.nd, by simp, fun a ha b hb e => ?_⟩
    rw [List.mem_singleton.1 hb] at e
    rw [e] at ha
    exact h3 ha
  · rcases List.mem_append.1 hy with hy | hy
    · exact h.lt y hy
    · rw [List.mem_singleton.1 hy]; exact h2
  · by_cases hbl : b < D.length
    · rw [List.getElem?_append_left hbl] at hb
      rw [List.take_append_of_le_length (by omega)]
      exact h.pre b y hb z hz
    · rw [List.getElem?_append_right (by omega)] at hb
      have hb0 := (List.getElem?_eq_some_iff.1 hb).1
      have e0 : b = D.length := by simp at hb0; omega
      subst e0
      have e : x = y := by simpa using hb
      subst e
      rw [List.take_left]
      exact h4 z hz
theorem nxtT_ex {M : Wt} {n : Nat} (hM : Okw n M) (hc : ¬ Cyc (eM M)) {D : List Nat} (_ : Orw M n D) (hl : D.length < n) : ∃ x, nxtT M n D = some x := by
  have hc' : ¬ Cyc (eM (rvM M)) := fun ⟨i, hi⟩ => hc ⟨i, rv_iff.1 hi⟩
  have hD : ∃ i, i < n ∧ ¬ i ∈ D := by
    refine Classical.byContradiction fun hno => ?_
    have hall : ∀ i, i < n → i ∈ D := fun i hi => Classical.byContradiction fun hn => hno ⟨i, hi, hn⟩
    have := List.Nodup.length_le_of_subset (l₁ := List.range n) (l₂ := D) List.nodup_range fun i hi => hall i (List.mem_range.1 hi)
    rw [List.length_range] at this
    omega
  obtain ⟨x, hx, hxD, hpre⟩ := acyc_pick hc' (eM_lt (rv_ok hM)) (fun i => i ∈ D) hD
  have hf : frT M D x = true := frT_iff.2 ⟨hxD, fun y hy => hpre y (eM_mem.2 (rv_mem.2 hy))⟩
  cases hn : nxtT M n D with
  | some y => exact ⟨y, rfl⟩
  | none =>
    have := List.find?_eq_none.1 hn x (List.mem_range.2 hx)
    exact absurd hf this
theorem ordK_ok {M : Wt} {n : Nat} (hM : Okw n M) (hc : ¬ Cyc (eM M)) : ∀ k, k ≤ n → Orw M n (ordK M n k) ∧ (ordK M n k).length = k
  | 0, _ => ⟨⟨List.nodup_nil, fun x hx => (by cases hx), fun b x hb => (by rw [ordK] at hb; cases hb)⟩, rfl⟩
  | k + 1, hk => by
    obtain ⟨h1, h2⟩ := ordK_ok hM hc k (by omega)
    obtain ⟨x, hx⟩ := nxtT_ex hM hc h1 (by omega)
    have e : ordK M n (k + 1) = ordK M n k ++ [x] := by rw [ordK, hx]; rfl
    rw [e]
    exact ⟨h1.next hx, by rw [List.length_append, h2]; rfl⟩
theorem ordK_succ {M : Wt} {n k x : Nat} (hx : nxtT M n (ordK M n k) = some x) : ordK M n (k + 1) = ordK M n k ++ [x] := by rw [ordK, hx]; rfl
/-! How many ways lead to a place, one behind the other. -/
def mxT (vs : List Nat) : Nat := vs.foldr (fun v a => max (v + 1) a) 0
theorem mxT_le {vs : List Nat} {v : Nat} (h : v ∈ vs) : v + 1 ≤ mxT vs := by
  induction vs with
  | nil => cases h
  | cons a vs ih =>
    unfold mxT at ih ⊢
    rw [List.foldr_cons]
    rcases List.mem_cons.1 h with rfl | h
    · exact Nat.le_max_left _ _
    · exact Nat.le_trans (ih h) (Nat.le_max_right _ _)
theorem mxT_ub {vs : List Nat} {m : Nat} (h : ∀ v ∈ vs, v + 1 ≤ m) : mxT vs ≤ m := by
  induction vs with
  | nil => exact Nat.zero_le _
  | cons a vs ih =>
    unfold mxT at ih ⊢
    rw [List.foldr_cons]
    exact Nat.max_le.2 ⟨h a (by simp), ih fun v hv => h v (by simp [hv])⟩
def dpT (M : Wt) (n x : Nat) : Nat := calV (eM (rvM M)) 0 (fun _ vs => mxT vs) n x
theorem dpT_eq {M : Wt} {n : Nat} (hM : Okw n M) (hc : ¬ Cyc (eM M)) {x : Nat} (hx : x < n) : dpT M n x = mxT ((eM (rvM M) x).map (dpT M n)) :=
  calV_eq (fun ⟨i, hi⟩ => hc ⟨i, rv_iff.1 hi⟩) (eM_lt (rv_ok hM)) hx
theorem dpT_lt {M : Wt} {n : Nat} (hM : Okw n M) (hc : ¬ Cyc (eM M)) {y x : Nat} (h : (y, x) ∈ M) : dpT M n y < dpT M n x := by
  rw [dpT_eq hM hc (hM _ h).2]
  exact mxT_le (List.mem_map.2 ⟨y, eM_mem.2 (rv_mem.2 h), rfl⟩)
theorem dpT_ub {M : Wt} {n : Nat} (hM : Okw n M) (hc : ¬ Cyc (eM M)) {x m : Nat} (hx : x < n) (h : ∀ y, (y, x) ∈ M → dpT M n y + 1 ≤ m) : dpT M n x ≤ m := by
  rw [dpT_eq hM hc hx]
  refine mxT_ub fun v hv => ?_
  obtain ⟨y, hy, rfl⟩ := List.mem_map.1 hv
  exact h y (rv_mem.1 (eM_mem.1 hy))
theorem dpT_rk {M : Wt} {n : Nat} (hM : Okw n M) (hc : ¬ Cyc (eM M)) : ∀ (m x : Nat), rkG (eM (rvM M)) n x < m → x < n → dpT M n x ≤ rkG (eM (rvM M)) n x := by
  intro m
  induction m with
  | zero => intro x hx; omega
  | succ m ih =>
    intro x hx hxn
    refine dpT_ub hM hc hxn fun y hy => ?_
    have h1 := rkG_lt (E := eM (rvM M)) (n := n) (fun ⟨i, hi⟩ => hc ⟨i, rv_iff.1 hi⟩) (eM_mem.2 (rv_mem.2 hy)) (hM _ hy).1
    have h2 := ih y (by omega) (hM _ hy).1
    omega
theorem dpT_le {M : Wt} {n : Nat} (hM : Okw n M) (hc : ¬ Cyc (eM M)) {x : Nat} (hx : x < n) : dpT M n x ≤ n :=
  Nat.le_trans (dpT_rk hM hc _ x (Nat.lt_succ_self _) hx) (rkG_le _ _ _)
/-- How far the depths are: k whole rounds, and i ways of the next one. -/
structure Rlx (M : Wt) (n k i : Nat) (O : List Nat) : Prop where
  len : O.length = n
  ub : ∀ x v, O[x]? = some v → v ≤ dpT M n x
  lo : ∀ x v, O[x]? = some v → min (dpT M n x) k ≤ v
  seen : ∀ p ∈ M.take i, ∀ v, O[p.2]? = some v → min (dpT M n p.1) k + 1 ≤ v
theorem Rlx.init (M : Wt) (n : Nat) : Rlx M n 0 0 (List.replicate n 0) where
  len := by simp
  ub := fun x v h => by
    rw [List.getElem?_replicate] at h
    split at h
    · rw [← Option.some.inj h]; exact Nat.zero_le _
    · cases h
  lo := fun x v _ => by omega
  seen := fun p hp => by simp at hp
theorem Rlx.step {M : Wt} {n k i : Nat} {O : List Nat} (h : Rlx M n k i O) (hM : Okw n M) (hc : ¬ Cyc (eM M)) {p : Nat × Nat} (hp : M[i]? = some p) {a b : Nat} (ha : O[p.2]? = some a) (hb : O[p.1]? = some b) : Rlx M n k (i + 1) (O.set p.2 (max a (b + 1))) := by
  have hpm : (p.1, p.2) ∈ M := List.mem_of_getElem? hp
  have hlt := dpT_lt hM hc hpm
  obtain ⟨hl, _⟩ := List.getElem?_eq_some_iff.1 ha
  have hget : ∀ x v, (O.set p.2 (max a (b + 1)))[x]? = some v → (x = p.2 ∧ v = max a (b + 1)) ∨ (x ≠ p.2 ∧ O[x]? = some v) := fun x v hv => by
    by_cases e : p.2 = x
    · rw [← e, List.getElem?_set_self hl] at hv
      exact .inl ⟨e.symm, (Option.some.inj hv).symm⟩
    · rw [List.getElem?_set_ne e] at hv
      exact .inr ⟨fun h => e h.symm, hv⟩
  refine ⟨by rw [List.length_set]; exact h.len, fun x v hv => ?_, fun x v hv => ?_, fun q hq v hv => ?_⟩
  · rcases hget x v hv with ⟨rfl, rfl⟩ | ⟨_, h1⟩
    · have h1 := h.ub _ _ ha
      have h2 := h.ub _ _ hb
      omega
    · exact h.ub x v h1
  · rcases hget x v hv with ⟨rfl, rfl⟩ | ⟨_, h1⟩
    · have h1 := h.lo _ _ ha
      omega
    · exact h.lo x v h1
  · have hold : ∀ v', O[q.2]? = some v' → v' ≤ v := fun v' hv' => by
      rcases hget q.2 v hv with ⟨e, rfl⟩ | ⟨_, h1⟩
      · rw [e, ha] at hv'
        rw [← Option.some.inj hv']
        exact Nat.le_max_left _ _
      · rw [h1] at hv'
        rw [Option.some.inj hv']
        exact Nat.le_refl _
    obtain ⟨hi, e⟩ := List.getElem?_eq_some_iff.1 hp
    rw [List.take_succ_eq_append_getElem hi, e] at hq
    rcases List.mem_append.1 hq with hq | hq
    · have hql : q.2 < O.length := by rw [h.len]; exact (hM q (List.mem_of_mem_take hq)).2
      have h1 := h.seen q hq _ (List.getElem?_eq_getElem hql)
      have h2 := hold _ (List.getElem?_eq_getElem hql)
      omega
    · rw [List.mem_singleton.1 hq] at hv ⊢
      rcases hget p.2 v hv with ⟨_, rfl⟩ | ⟨hne, _⟩
      · have h1 := h.lo _ _ hb
        omega
      · exact absurd rfl hne
theorem Rlx.round {M : Wt} {n k : Nat} {O : List Nat} (h : Rlx M n k M.length O) (hM : Okw n M) (hc : ¬ Cyc (eM M)) : Rlx M n (k + 1) 0 O where
  len := h.len
  ub := h.ub
  lo := fun x v hv => by
    rcases Nat.lt_or_ge k v with h1 | h1
    · omega
    · have hx : x < n := by rw [← h.len]; exact (List.getElem?_eq_some_iff.1 hv).1
      have := dpT_ub (m := v) hM hc hx fun y hy => by
        have h2 := h.seen (y, x) (by rw [List.take_length]; exact hy) v hv
        dsimp only at h2
        omega
      omega
  seen := fun p hp => by simp at hp
theorem Rlx.done {M : Wt} {n : Nat} {O : List Nat} (h : Rlx M n n 0 O) (hM : Okw n M) (hc : ¬ Cyc (eM M)) : O = (List.range n).map (dpT M n) := by
  apply List.ext_getElem?
  intro x
  by_cases hx : x < n
  · obtain ⟨v, hv⟩ : ∃ v, O[x]? = some v := ⟨_, List.getElem?_eq_getElem (by rw [h.len]; exact hx)⟩
    rw [hv, List.getElem?_map, List.getElem?_range hx]
    have h1 := h.ub x v hv
    have h2 := h.lo x v hv
    have h3 := dpT_le hM hc hx
    show some v = some (dpT M n x)
    congr 1
    omega
  · rw [List.getElem?_eq_none (by rw [h.len]; omega), List.getElem?_eq_none (by simp; omega)]
end Go.Proofs.YtkfnbapnkmlopaaDoor

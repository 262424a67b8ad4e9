/- Plain: a heap of events in a list. -/
import Derived.Test.YtkihfafkglkjnaaDoorQuS
namespace Go.Proofs.YtkihfafkglkjnaaDoor

def evA (H : List Ev) (i : Nat) : Ev := (H[i]?).getD (0, 0, 0)
def parN (i : Nat) : Nat := (i - 1) / 2
def leE (a b : Ev) : Prop := ahE b a = false
theorem leE.trans {a b c : Ev} (h1 : leE a b) (h2 : leE b c) : leE a c := by
  unfold leE at *
  cases h : ahE c a with
  | false => rfl
  | true =>
    have n1 : ¬ ahE b a = true := by rw [h1]; decide
    have n2 : ¬ ahE c b = true := by rw [h2]; decide
    rw [ahE_iff] at h n1 n2
    omega
theorem leE.of {a b : Ev} (h : ahE a b = true) : leE a b := ahE_asym h
theorem leE.refl (a : Ev) : leE a a := ahE_irr a
theorem leE.anti {a b : Ev} (h1 : leE a b) (h2 : leE b a) : a = b := Decidable.byContradiction fun h => by
  have := ahE_tot h2 h
  unfold leE at h1
  rw [this] at h1
  cases h1
theorem evA_at {H : List Ev} {i : Nat} (h : i < H.length) : H[i]? = some (evA H i) := by
  unfold evA
  rw [List.getElem?_eq_getElem h]
  rfl
theorem evA_get {H : List Ev} {i : Nat} (h : i < H.length) : H[i] = evA H i := by
  have := evA_at h
  rw [List.getElem?_eq_getElem h] at this
  injection this
theorem evA_mem {H : List Ev} {i : Nat} (h : i < H.length) : evA H i ∈ H := List.mem_of_getElem? (evA_at h)
theorem mem_evA {H : List Ev} {x : Ev} (h : x ∈ H) : ∃ i, i < H.length ∧ evA H i = x := by
  obtain ⟨i, hi, e⟩ := List.mem_iff_getElem.1 h
  exact ⟨i, hi, by rw [← evA_get hi, e]⟩
/-- Two events, each in the other's place. -/
def swL (H : List Ev) (a b : Nat) : List Ev := (H.set a (evA H b)).set b (evA H a)
theorem swL_len (H : List Ev) (a b : Nat) : (swL H a b).length = H.length := by
  unfold swL
  rw [List.length_set, List.length_set]
theorem evA_set {H : List Ev} {a : Nat} (ha : a < H.length) (e : Ev) (i : Nat) : evA (H.set a e) i = if i = a then e else evA H i := by
  unfold evA
  rw [List.getElem?_set]
  by_cases h : i = a
  · subst h
    rw [if_pos rfl, if_pos rfl, if_pos ha]
    rfl
  · rw [if_neg h, if_neg (fun e => h e.symm)]
theorem evA_sw {H : List Ev} {a b : Nat} (ha : a < H.length) (hb : b < H.length) (i : Nat) : evA (swL H a b) i = if i = b then evA H a else if i = a then evA H b else evA H i := by
  unfold swL
  rw [evA_set (by rw [List.length_set]; exact hb), evA_set ha]
theorem swL_perm {H : List Ev} {a b : Nat} (ha : a < H.length) (hb : b < H.length) : (swL H a b).Perm H := by
  unfold swL
  rw [← evA_get ha, ← evA_get hb]
  exact List.set_set_perm ha hb
/-- Each event is due no later than the two beneath. -/
def HeapE (H : List Ev) : Prop := ∀ i, 0 < i → i < H.length → leE (evA H (parN i)) (evA H i)
/-- .. but for what comes in at p0, which has risen to p. -/
structure UpH (p0 p : Nat) (H : List Ev) : Prop where
  le : p ≤ p0
  a : ∀ i, 0 < i → i < H.length → i ≠ p → (parN i ≠ p ∨ p ≠ p0) → leE (evA H (parN i)) (evA H i)
  b : ∀ i, 0 < i → i < H.length → parN i = p → 0 < p → leE (evA H (parN p)) (evA H i)
/-- .. but for the event at p, which may have to sink. -/
structure DnH (p : Nat) (H : List Ev) : Prop where
  a : ∀ i, 0 < i → i < H.length → parN i ≠ p → leE (evA H (parN i)) (evA H i)
  b : ∀ i, 0 < i → i < H.length → parN i = p → 0 < p → leE (evA H (parN p)) (evA H i)
theorem parN_lt {i : Nat} (h : 0 < i) : parN i < i := by unfold parN; omega
theorem UpH.new {H H' : List Ev} {p : Nat} (h : HeapE H) (hs : ∀ i, i < H'.length → i ≠ p → i < H.length ∧ evA H' i = evA H i) : UpH p p H' := by
  refine ⟨Nat.le_refl _, fun i h0 hi hp hq => ?_, fun i h0 hi hp h0p => ?_⟩
  · have h1 := hs i hi hp
    have hl := parN_lt h0
    have h2 := hs (parN i) (by omega) (hq.elim id (fun h => absurd rfl h))
    rw [h1.2, h2.2]
    exact h i h0 h1.1
  · have hl := parN_lt h0
    have hl2 := parN_lt h0p
    have h1 := hs i hi (by omega)
    have h2 := hs (parN p) (by omega) (by omega)
    rw [h1.2, h2.2]
    have h3 := h i h0 h1.1
    rw [hp] at h3
    exact (h p h0p (by omega)).trans h3
theorem UpH.rise {H : List Ev} {p0 p : Nat} (h : UpH p0 p H) (hp : p < H.length) (h0 : 0 < p) (ha : ahE (evA H p) (evA H (parN p)) = true) : UpH p0 (parN p) (swL H p (parN p)) := by
  have hl := parN_lt h0
  have hle := h.le
  have hS := fun i => evA_sw (H := H) hp (Nat.lt_trans hl hp) i
  have hup : leE (evA H p) (evA H (parN p)) := leE.of ha
  refine ⟨by omega, fun i i0 hi hip _ => ?_, fun i i0 hi hip g0 => ?_⟩
  · rw [swL_len] at hi
    have hli := parN_lt i0
    rw [hS, hS, if_neg hip]
    by_cases e1 : i = p
    · subst e1
      rw [if_pos rfl, if_pos rfl]
      exact hup
    · rw [if_neg e1]
      by_cases e2 : parN i = parN p
      · rw [if_pos e2]
        have h3 := h.a i i0 hi e1 (.inl (by rw [e2]; omega))
        rw [e2] at h3
        exact hup.trans h3
      · rw [if_neg e2]
        by_cases e3 : parN i = p
        · rw [if_pos e3]
          exact h.b i i0 hi e3 h0
        · rw [if_neg e3]
          exact h.a i i0 hi e1 (.inl e3)
  · rw [swL_len] at hi
    have hlg := parN_lt g0
    have hgp := h.a (parN p) g0 (by omega) (by omega) (.inl (by omega))
    rw [hS, hS, if_neg (by omega), if_neg (by omega)]
    have hi1 : i ≠ parN p := fun e => by rw [e] at hip; omega
    rw [if_neg hi1]
    by_cases e1 : i = p
    · rw [if_pos e1]
      exact hgp
    · rw [if_neg e1]
      have h3 := h.a i i0 hi e1 (.inl (by rw [hip]; omega))
      rw [hip] at h3
      exact hgp.trans h3
theorem UpH.done {H : List Ev} {p0 p : Nat} (h : UpH p0 p H) (hp0 : p0 < H.length) (he : 0 < p → leE (evA H (parN p)) (evA H p)) : DnH p0 H := by
  have full : p ≠ p0 → HeapE H := fun hne i i0 hi => by
    by_cases e : i = p
    · subst e
      exact he i0
    · exact h.a i i0 hi e (.inr hne)
  refine ⟨fun i i0 hi hip => ?_, fun i i0 hi hip h0 => ?_⟩
  · by_cases e : i = p
    · subst e
      exact he i0
    · refine h.a i i0 hi e ?_
      by_cases e2 : p = p0
      · exact .inl (by rw [e2]; exact hip)
      · exact .inr e2
  · by_cases e2 : p = p0
    · subst e2
      exact h.b i i0 hi hip h0
    · have hf := full e2
      have h1 := hf i i0 hi
      rw [hip] at h1
      exact (hf p0 h0 hp0).trans h1
/-- The first of one and the two beneath it. -/
def fmA (H : List Ev) (f u : Nat) : Nat := if u < H.length ∧ ahE (evA H u) (evA H f) = true then u else f
def fmE (H : List Ev) (p : Nat) : Nat := fmA H (fmA H p (2 * p + 1)) (2 * p + 2)
theorem parN_iff {i p : Nat} (h : 0 < i) : parN i = p ↔ i = 2 * p + 1 ∨ i = 2 * p + 2 := by unfold parN; omega
theorem fmE_spec (H : List Ev) (p : Nat) : (fmE H p = p ∧ ∀ i, 0 < i → i < H.length → parN i = p → leE (evA H p) (evA H i)) ∨
    (fmE H p ≠ p ∧ p < fmE H p ∧ fmE H p < H.length ∧ parN (fmE H p) = p ∧ ahE (evA H (fmE H p)) (evA H p) = true ∧ ∀ i, 0 < i → i < H.length → parN i = p → leE (evA H (fmE H p)) (evA H i)) := by
  unfold fmE
  by_cases h1 : 2 * p + 1 < H.length ∧ ahE (evA H (2 * p + 1)) (evA H p) = true
  · have e1 : fmA H p (2 * p + 1) = 2 * p + 1 := if_pos h1
    rw [e1]
    by_cases h2 : 2 * p + 2 < H.length ∧ ahE (evA H (2 * p + 2)) (evA H (2 * p + 1)) = true
    · have e2 : fmA H (2 * p + 1) (2 * p + 2) = 2 * p + 2 := if_pos h2
      rw [e2]
      refine .inr ⟨by omega, by omega, h2.1, by unfold parN; omega, ahE_trans h2.2 h1.2, fun i i0 hi hip => ?_⟩
      rcases (parN_iff i0).1 hip with rfl | rfl
      · exact leE.of h2.2
      · exact leE.refl _
    · have e2 : fmA H (2 * p + 1) (2 * p + 2) = 2 * p + 1 := if_neg h2
      rw [e2]
      refine .inr ⟨by omega, by omega, h1.1, by unfold parN; omega, h1.2, fun i i0 hi hip => ?_⟩
      rcases (parN_iff i0).1 hip with rfl | rfl
      · exact leE.refl _
      · unfold leE
        cases h : ahE (evA H (2 * p + 2)) (evA H (2 * p + 1)) with
        | false => rfl
        | true => exact absurd ⟨hi, h⟩ h2
  · have e1 : fmA H p (2 * p + 1) = p := if_neg h1
    rw [e1]
    have hl1 : 2 * p + 1 < H.length → leE (evA H p) (evA H (2 * p + 1)) := fun hi => by
      unfold leE
      cases h : ahE (evA H (2 * p + 1)) (evA H p) with
      | false => rfl
      | true => exact absurd ⟨hi, h⟩ h1
    by_cases h2 : 2 * p + 2 < H.length ∧ ahE (evA H (2 * p + 2)) (evA H p) = true
    · have e2 : fmA H p (2 * p + 2) = 2 * p + 2 := if_pos h2
      rw [e2]
      refine .inr ⟨by omega, by omega, h2.1, by unfold parN; omega, h2.2, fun i i0 hi hip => ?_⟩
      rcases (parN_iff i0).1 hip with rfl | rfl
      · exact (leE.of h2.2).trans (hl1 hi)
      · exact leE.refl _
    · have e2 : fmA H p (2 * p + 2) = p := if_neg h2
      rw [e2]
      refine .inl ⟨rfl, fun i i0 hi hip => ?_⟩
      rcases (parN_iff i0).1 hip with rfl | rfl
      · exact hl1 hi
      · unfold leE
        cases h : ahE (evA H (2 * p + 2)) (evA H p) with
        | false => rfl
        | true => exact absurd ⟨hi, h⟩ h2
theorem DnH.sink {H : List Ev} {p : Nat} (h : DnH p H) (hp : p < H.length) (hne : fmE H p ≠ p) : DnH (fmE H p) (swL H p (fmE H p)) := by
  rcases fmE_spec H p with ⟨h1, _⟩ | ⟨_, hlt, hcl, hpar, hah, hmin⟩
  · exact absurd h1 hne
  obtain ⟨c, hc⟩ : ∃ c, fmE H p = c := ⟨_, rfl⟩
  rw [hc] at hlt hcl hpar hah hmin ⊢
  have hS := fun i => evA_sw (H := H) hp hcl i
  have hc0 : 0 < c := by omega
  refine ⟨fun i i0 hi hip => ?_, fun i i0 hi hip g0 => ?_⟩
  · rw [swL_len] at hi
    rw [hS, hS, if_neg hip]
    by_cases e1 : i = c
    · subst e1
      rw [if_pos hpar, if_pos rfl]
      exact leE.of hah
    · rw [if_neg e1]
      by_cases e2 : i = p
      · subst e2
        have hl := parN_lt i0
        rw [if_neg (by omega), if_pos rfl]
        exact h.b c hc0 hcl hpar i0
      · rw [if_neg e2]
        by_cases e3 : parN i = p
        · rw [if_pos e3]
          exact hmin i i0 hi e3
        · rw [if_neg e3]
          exact h.a i i0 hi e3
  · rw [swL_len] at hi
    have hl := parN_lt i0
    rw [hS, hS, hpar, if_neg (by omega), if_pos rfl, if_neg (by omega), if_neg (by omega)]
    have h3 := h.a i i0 hi (by omega)
    rw [hip] at h3
    exact h3
theorem DnH.done {H : List Ev} {p : Nat} (h : DnH p H) (he : fmE H p = p) : HeapE H := by
  rcases fmE_spec H p with ⟨_, h1⟩ | ⟨h1, _⟩
  · intro i i0 hi
    by_cases e : parN i = p
    · rw [e]
      exact h1 i i0 hi e
    · exact h.a i i0 hi e
  · exact absurd he h1
theorem HeapE.min {H : List Ev} (h : HeapE H) : ∀ n i, i < n → i < H.length → leE (evA H 0) (evA H i)
  | 0, _, hi, _ => absurd hi (Nat.not_lt_zero _)
  | n + 1, i, hin, hi => by
    by_cases h0 : i = 0
    · rw [h0]
      exact leE.refl _
    · have hl := parN_lt (i := i) (by omega)
      exact (h.min n (parN i) (by omega) (by omega)).trans (h i (by omega) hi)
theorem HeapE.nil : HeapE [] := fun _ _ hi => absurd hi (Nat.not_lt_zero _)
/-- No two of a kind and id. -/
def KeyE (H : List Ev) : Prop := H.Pairwise fun a b => a.2 ≠ b.2
theorem KeyE.perm {H H' : List Ev} (h : KeyE H) (hp : H'.Perm H) : KeyE H' := (hp.pairwise_iff (fun h e => h e.symm)).2 h
theorem KeyE.ne {H : List Ev} (h : KeyE H) {i j : Nat} (hi : i < H.length) (hj : j < H.length) (he : (evA H i).2 = (evA H j).2) : i = j := by
  rcases Nat.lt_trichotomy i j with hl | hl | hl
  · have := List.pairwise_iff_getElem.1 h i j hi hj hl
    rw [evA_get hi, evA_get hj] at this
    exact absurd he this
  · exact hl
  · have := List.pairwise_iff_getElem.1 h j i hj hi hl
    rw [evA_get hi, evA_get hj] at this
    exact absurd he.symm this
theorem KeyE.nodup {H : List Ev} (h : KeyE H) : H.Nodup := h.imp fun {a b} hab e => hab (by rw [e])
/-- Where the event of a key stands. -/
def PosE (H : List Ev) (k : Int × Int) : Option Nat := H.findIdx? fun e => e.2 == k
theorem PosE.hit {H : List Ev} (h : KeyE H) {i : Nat} (hi : i < H.length) : PosE H (evA H i).2 = some i := by
  unfold PosE
  rw [List.findIdx?_eq_some_iff_getElem]
  refine ⟨hi, by rw [evA_get hi]; simp, fun j hji => ?_⟩
  have : ¬ (evA H j).2 = (evA H i).2 := fun e => by
    have := h.ne (Nat.lt_trans hji hi) hi e
    omega
  rw [evA_get]
  simpa using this
theorem PosE.at_ {H : List Ev} {k : Int × Int} {i : Nat} (h : PosE H k = some i) : i < H.length ∧ (evA H i).2 = k := by
  unfold PosE at h
  rw [List.findIdx?_eq_some_iff_getElem] at h
  obtain ⟨h1, h2, _⟩ := h
  rw [evA_get h1] at h2
  exact ⟨h1, by simpa using h2⟩
theorem PosE.none {H : List Ev} {k : Int × Int} (h : PosE H k = Option.none) : ∀ x ∈ H, x.2 ≠ k := by
  unfold PosE at h
  rw [List.findIdx?_eq_none_iff] at h
  intro x hx
  simpa using h x hx
theorem PosE.none_of {H : List Ev} {k : Int × Int} (h : ∀ x ∈ H, x.2 ≠ k) : PosE H k = Option.none := by
  unfold PosE
  rw [List.findIdx?_eq_none_iff]
  intro x hx
  simpa using h x hx
/-- The list in order of a heap. -/
structure OrdE (H L : List Ev) : Prop where
  sr : SrE L
  pm : H.Perm L
theorem OrdE.key {H L : List Ev} (h : OrdE H L) : KeyE H := KeyE.perm h.sr.key h.pm
theorem OrdE.len {H L : List Ev} (h : OrdE H L) : H.length = L.length := h.pm.length_eq
theorem OrdE.nil : OrdE [] [] := ⟨SrE.nil, List.Perm.refl _⟩
theorem OrdE.of {H L : List Ev} (hs : SrE L) (hk : KeyE H) (hm : ∀ x, x ∈ H ↔ x ∈ L) : OrdE H L :=
  ⟨hs, (List.perm_ext_iff_of_nodup hk.nodup (KeyE.nodup hs.key)).2 hm⟩
theorem OrdE.perm {H H' L : List Ev} (h : OrdE H L) (hp : H'.Perm H) : OrdE H' L := ⟨h.sr, hp.trans h.pm⟩
/-- .. as the document finds one. -/
theorem OrdE.fd {H L : List Ev} (h : OrdE H L) (k i : Int) : (0 ≤ fdE k i L 0 ↔ (PosE H (k, i)).isSome = true) ∧ ∀ j t : Nat, PosE H (k, i) = some j → fdE k i L 0 = t → L[t]? = some (evA H j) := by
  cases hp : PosE H (k, i) with
  | none =>
    refine ⟨⟨fun h0 => ?_, fun h0 => by cases h0⟩, fun j t e _ => by cases e⟩
    obtain ⟨t, ht⟩ : ∃ t : Nat, fdE k i L 0 = t := ⟨(fdE k i L 0).toNat, by omega⟩
    obtain ⟨e, h1, h2⟩ := fdE_at ht
    exact absurd (keyB_iff.1 h2) (PosE.none hp e (h.pm.mem_iff.2 (List.mem_of_getElem? h1)))
  | some j =>
    obtain ⟨h1, h2⟩ := PosE.at_ hp
    refine ⟨⟨fun _ => rfl, fun _ => Decidable.byContradiction fun h0 => ?_⟩, fun j' t e ht => ?_⟩
    · have := fdE_none h0 _ (h.pm.mem_iff.1 (evA_mem h1))
      rw [keyB_iff.2 h2] at this
      cases this
    · cases e
      obtain ⟨e, h3, h4⟩ := fdE_at ht
      have h5 := h.pm.mem_iff.2 (List.mem_of_getElem? h3)
      obtain ⟨u, hu, rfl⟩ := mem_evA h5
      have h6 := h.key.ne hu h1 (by rw [h2]; exact keyB_iff.1 h4)
      rw [h3, h6]
/-- Set: an event of a new key. -/
theorem OrdE.add {H L : List Ev} (h : OrdE H L) {e : Ev} (hn : PosE H e.2 = Option.none) : OrdE (H ++ [e]) (insE e L) := by
  have hno := PosE.none hn
  refine .of (h.sr.ins fun x hx => hno x (h.pm.mem_iff.2 hx)) ?_ fun x => ?_
  · unfold KeyE
    rw [List.pairwise_append]
    refine ⟨h.key, List.pairwise_singleton _ _, fun a ha b hb => ?_⟩
    rw [List.mem_singleton.1 hb]
    exact hno a ha
  · rw [insE_mem, List.mem_append, List.mem_singleton, h.pm.mem_iff]
    exact Or.comm
theorem mem_set {H : List Ev} {j : Nat} (hk : KeyE H) (hj : j < H.length) {e x : Ev} (he : e.2 = (evA H j).2) : x ∈ H.set j e ↔ x = e ∨ (x ∈ H ∧ x.2 ≠ e.2) := by
  constructor
  · intro hx
    obtain ⟨i, hi, rfl⟩ := mem_evA hx
    rw [List.length_set] at hi
    rw [evA_set hj]
    by_cases e1 : i = j
    · rw [if_pos e1]
      exact .inl rfl
    · rw [if_neg e1]
      exact .inr ⟨evA_mem hi, fun h => e1 (hk.ne hi hj (by rw [h, he]))⟩
  · rintro (rfl | ⟨hx, hne⟩)
    · have : evA (H.set j x) j = x := by rw [evA_set hj, if_pos rfl]
      have h9 := evA_mem (H := H.set j x) (i := j) (by rw [List.length_set]; exact hj)
      rwa [this] at h9
    · obtain ⟨i, hi, rfl⟩ := mem_evA hx
      have hij : i ≠ j := fun h => hne (by rw [h, he])
      have : evA (H.set j e) i = evA H i := by rw [evA_set hj, if_neg hij]
      rw [← this]
      exact evA_mem (by rw [List.length_set]; exact hi)
theorem KeyE.set {H : List Ev} {j : Nat} (hk : KeyE H) (hj : j < H.length) {e : Ev} (he : e.2 = (evA H j).2) : KeyE (H.set j e) := by
  refine List.pairwise_iff_getElem.2 fun a b ha hb hab h => ?_
  rw [evA_get ha, evA_get hb, evA_set hj, evA_set hj] at h
  rw [List.length_set] at ha hb
  have key : (evA H a).2 = (evA H b).2 := by
    by_cases e1 : a = j
    · rw [if_pos e1, if_neg (by omega)] at h
      rw [e1, ← he, h]
    · rw [if_neg e1] at h
      by_cases e2 : b = j
      · rw [if_pos e2] at h
        rw [h, he, e2]
      · rw [if_neg e2] at h
        exact h
  have := hk.ne ha hb key
  omega
/-- Set: in the place of another one. -/
theorem OrdE.put {H L : List Ev} (h : OrdE H L) {e : Ev} {j t : Nat} (hj : PosE H e.2 = some j) (ht : fdE e.2.1 e.2.2 L 0 = t) : OrdE (H.set j e) (insE e (wioE L t)) := by
  obtain ⟨h1, h2⟩ := PosE.at_ hj
  have hw := fun x => wioE_mem (x := x) h.sr ht
  refine .of ((h.sr.sub (wioE_sub L t)).ins fun x hx => ((hw x).1 hx).2) (h.key.set h1 h2.symm) fun x => ?_
  rw [insE_mem, mem_set h.key h1 h2.symm, hw, h.pm.mem_iff]
/-- Taken away: the last one comes into its place. -/
def tkL (H : List Ev) (j : Nat) : List Ev := (swL H j (H.length - 1)).take (H.length - 1)
theorem tkL_len {H : List Ev} {j : Nat} (hj : j < H.length) : (tkL H j).length = H.length - 1 := by
  unfold tkL
  rw [List.length_take, swL_len]
  omega
theorem evA_take {H : List Ev} {n i : Nat} (h : i < n) : evA (H.take n) i = evA H i := by
  unfold evA
  rw [List.getElem?_take_of_lt h]
theorem evA_tk {H : List Ev} {j : Nat} (hj : j < H.length) {i : Nat} (hi : i < H.length - 1) : evA (tkL H j) i = if i = j then evA H (H.length - 1) else evA H i := by
  unfold tkL
  rw [evA_take hi, evA_sw hj (by omega), if_neg (by omega)]
theorem mem_tk {H : List Ev} {j : Nat} (hk : KeyE H) (hj : j < H.length) {x : Ev} : x ∈ tkL H j ↔ x ∈ H ∧ x.2 ≠ (evA H j).2 := by
  constructor
  · intro hx
    obtain ⟨i, hi, rfl⟩ := mem_evA hx
    rw [tkL_len hj] at hi
    rw [evA_tk hj hi]
    by_cases e : i = j
    · rw [if_pos e]
      refine ⟨evA_mem (by omega), fun h => ?_⟩
      have := hk.ne (by omega) hj h
      omega
    · rw [if_neg e]
      exact ⟨evA_mem (by omega), fun h => e (hk.ne (by omega) hj h)⟩
  · rintro ⟨hx, hne⟩
    obtain ⟨i, hi, rfl⟩ := mem_evA hx
    have hij : i ≠ j := fun h => hne (by rw [h])
    by_cases e : i = H.length - 1
    · have h1 : evA (tkL H j) j = evA H i := by rw [evA_tk hj (by omega), if_pos rfl, e]
      rw [← h1]
      exact evA_mem (by rw [tkL_len hj]; omega)
    · have h1 : evA (tkL H j) i = evA H i := by rw [evA_tk hj (by omega), if_neg hij]
      rw [← h1]
      exact evA_mem (by rw [tkL_len hj]; omega)
theorem KeyE.tk {H : List Ev} {j : Nat} (hk : KeyE H) (hj : j < H.length) : KeyE (tkL H j) :=
  List.Pairwise.sublist (List.take_sublist _ _) (hk.perm (swL_perm hj (by omega)))
theorem OrdE.del {H L : List Ev} (h : OrdE H L) {k i : Int} {j t : Nat} (hj : PosE H (k, i) = some j) (ht : fdE k i L 0 = t) : OrdE (tkL H j) (wioE L t) := by
  obtain ⟨h1, h2⟩ := PosE.at_ hj
  refine .of (h.sr.sub (wioE_sub L t)) (h.key.tk h1) fun x => ?_
  rw [mem_tk h.key h1, wioE_mem h.sr ht, h.pm.mem_iff, h2]
theorem OrdE.head {H L : List Ev} (h : OrdE H L) (hh : HeapE H) (h0 : 0 < H.length) : L = evA H 0 :: L.tail := by
  cases L with
  | nil => rw [h.len] at h0; exact absurd h0 (Nat.lt_irrefl _)
  | cons a r =>
    have h1 : a ∈ H := h.pm.mem_iff.2 List.mem_cons_self
    obtain ⟨i, hi, e⟩ := mem_evA h1
    have h2 := hh.min (i + 1) i (Nat.lt_succ_self _) hi
    have h3 := h.pm.mem_iff.1 (evA_mem h0)
    rcases List.mem_cons.1 h3 with h4 | h4
    · rw [List.tail_cons, h4]
    · have h5 := (List.pairwise_cons.1 h.sr.srt).1 _ h4
      rw [← e] at h5
      unfold leE at h2
      rw [h2] at h5
      cases h5
theorem OrdE.pop {H L : List Ev} (h : OrdE H L) (hh : HeapE H) (h0 : 0 < H.length) : OrdE (tkL H 0) L.tail := by
  have h1 := h.head hh h0
  have hs := h.sr
  have hkk := hs.key
  rw [h1] at hkk
  have hk2 := (List.pairwise_cons.1 hkk).1
  refine .of (hs.sub (List.tail_sublist L)) (h.key.tk h0) fun x => ?_
  rw [mem_tk h.key h0, h.pm.mem_iff]
  constructor
  · rintro ⟨hx, hne⟩
    rw [h1] at hx
    rcases List.mem_cons.1 hx with e | hx
    · exact absurd (by rw [e]) hne
    · exact hx
  · intro hx
    exact ⟨List.mem_of_mem_tail hx, fun e => hk2 x hx e.symm⟩
theorem UpH.tk {H : List Ev} {j : Nat} (h : HeapE H) (hj : j < H.length) : UpH j j (tkL H j) :=
  .new h fun i hi hij => by
    rw [tkL_len hj] at hi
    exact ⟨by omega, by rw [evA_tk hj hi, if_neg hij]⟩
theorem HeapE.last {H : List Ev} {j : Nat} (h : HeapE H) (hj : j < H.length) (hl : ¬ j < H.length - 1) : HeapE (tkL H j) := fun i i0 hi => by
  rw [tkL_len hj] at hi
  have := parN_lt i0
  rw [evA_tk hj hi, evA_tk hj (by omega), if_neg (by omega), if_neg (by omega)]
  exact h i i0 (by omega)
theorem UpH.add {H : List Ev} (h : HeapE H) (e : Ev) : UpH H.length H.length (H ++ [e]) :=
  .new h fun i hi hij => by
    rw [List.length_append, List.length_singleton] at hi
    refine ⟨by omega, ?_⟩
    unfold evA
    rw [List.getElem?_append_left (by omega)]
theorem UpH.put {H : List Ev} {j : Nat} (h : HeapE H) (hj : j < H.length) (e : Ev) : UpH j j (H.set j e) :=
  .new h fun i hi hij => by
    rw [List.length_set] at hi
    exact ⟨hi, by rw [evA_set hj, if_neg hij]⟩
end Go.Proofs.YtkihfafkglkjnaaDoor

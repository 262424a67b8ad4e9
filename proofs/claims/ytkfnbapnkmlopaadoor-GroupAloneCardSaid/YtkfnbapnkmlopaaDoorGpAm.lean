/- Plain: law GroupAlone's groups and items. -/
import Derived.Test.YtkfnbapnkmlopaaDoorGpHu
namespace Go.Proofs.YtkfnbapnkmlopaaDoor

def nm1 (i : Nat) : Tx := [UInt8.ofNat (97 + i)]
def gn1 (i : Nat) : Tx := [103, UInt8.ofNat (97 + i)]
def aX (k : Nat) : List Itm := (List.range k).map fun i => (nm1 i, [])
/-- The members of a group whose bits are f: each twice. -/
def gm1 (f : Nat → Bool) (k : Nat) : List Tx := (List.range k).flatMap fun j => if f j = true then [nm1 j, nm1 j] else []
def aZ (f : Nat → Nat → Bool) (k c : Nat) : List Grp := (List.range c).map fun i => (gn1 i, gm1 (f i) k, [])
def aG (f : Nat → Nat → Bool) (k c : Nat) : List Grp := aZ f k c ++ [([97, 108, 108], [], (List.range c).map gn1)]
theorem aX_len (k : Nat) : (aX k).length = k := by simp [aX]
theorem aX_at {i k : Nat} (h : i < k) : (aX k)[i]? = some (nm1 i, []) := by simp [aX, List.getElem?_range h]
theorem aX_succ (k : Nat) : aX (k + 1) = aX k ++ [(nm1 k, [])] := by simp [aX, List.range_succ]
theorem gm1_succ (f : Nat → Bool) (k : Nat) : gm1 f (k + 1) = gm1 f k ++ (if f k = true then [nm1 k, nm1 k] else []) := by simp [gm1, List.range_succ]
theorem gm1_len (f : Nat → Bool) : ∀ k, (gm1 f k).length ≤ 2 * k
  | 0 => by simp [gm1]
  | k + 1 => by
    have := gm1_len f k
    rw [gm1_succ, List.length_append]
    split <;> simp <;> omega
theorem gm1_mem {f : Nat → Bool} {k : Nat} {s : Tx} : s ∈ gm1 f k ↔ ∃ j, j < k ∧ f j = true ∧ s = nm1 j := by
  unfold gm1
  rw [List.mem_flatMap]
  constructor
  · rintro ⟨j, hj, h⟩
    split at h
    · rename_i hf
      simp at h
      exact ⟨j, List.mem_range.1 hj, hf, h⟩
    · cases h
  · rintro ⟨j, hj, hf, rfl⟩
    exact ⟨j, List.mem_range.2 hj, by rw [if_pos hf]; simp⟩
section
variable {f : Nat → Nat → Bool} {k c : Nat}
theorem aZ_len : (aZ f k c).length = c := by simp [aZ]
theorem aG_len : (aG f k c).length = c + 1 := by simp [aG, aZ_len]
theorem aZ_succ : aZ f k (c + 1) = aZ f k c ++ [(gn1 c, gm1 (f c) k, [])] := by simp [aZ, List.range_succ]
theorem aG_at {i : Nat} (h : i < c) : (aG f k c)[i]? = some (gn1 i, gm1 (f i) k, []) := by
  unfold aG
  rw [List.getElem?_append_left (by rw [aZ_len]; exact h)]
  simp [aZ, List.getElem?_range h]
theorem aG_last : (aG f k c)[c]? = some ([97, 108, 108], [], (List.range c).map gn1) := by
  unfold aG
  rw [List.getElem?_append_right (by rw [aZ_len]; exact Nat.le_refl _), aZ_len, Nat.sub_self]
  rfl
theorem nm1_inj {i j : Nat} (hi : i < 100) (hj : j < 100) (h : nm1 i = nm1 j) : i = j := by
  unfold nm1 at h
  injection h with h0 _
  have := congrArg UInt8.toNat h0
  rw [UInt8.toNat_ofNat', UInt8.toNat_ofNat'] at this
  omega
theorem gn1_inj {i j : Nat} (hi : i < 100) (hj : j < 100) (h : gn1 i = gn1 j) : i = j := by
  unfold gn1 at h
  injection h with _ h
  exact nm1_inj hi hj h
theorem gN_aG : gN (aG f k c) = (List.range c).map gn1 ++ [[97, 108, 108]] := by simp [gN, aG, aZ, Function.comp_def]
theorem iN_aX : iN (aX k) = (List.range k).map nm1 := by simp [iN, aX, Function.comp_def]
theorem nd_range {n : Nat} {h : Nat → Tx} (hi : ∀ i j, i < n → j < n → h i = h j → i = j) : ((List.range n).map h).Nodup := by
  refine List.pairwise_iff_getElem.2 fun i j hi' hj' hij e => ?_
  rw [List.length_map, List.length_range] at hi' hj'
  rw [List.getElem_map, List.getElem_map, List.getElem_range, List.getElem_range] at e
  have := hi i j hi' hj' e
  omega
theorem nd_gN (hc : c ≤ 8) : (gN (aG f k c)).Nodup := by
  rw [gN_aG]
  refine List.nodup_append.2 ⟨nd_range fun i j hi hj e => gn1_inj (by omega) (by omega) e, by simp, fun a ha b hb e => ?_⟩
  obtain ⟨i, _, rfl⟩ := List.mem_map.1 ha
  rw [List.mem_singleton.1 hb] at e
  have := congrArg List.length e
  cases this
theorem nd_iN (hk : k ≤ 8) : (iN (aX k)).Nodup := by
  rw [iN_aX]
  exact nd_range fun i j hi hj e => nm1_inj (by omega) (by omega) e
theorem ix_gn {i : Nat} (hc : c ≤ 8) (hi : i < c) : ixI (gN (aG f k c)) (gn1 i) = i := by
  have hnd := nd_gN (f := f) (k := k) hc
  have g1 : (gN (aG f k c))[i]? = some (gn1 i) := gN_at (aG_at hi)
  refine ixI_hit g1 fun p hp e => ?_
  have hpl := (List.getElem?_eq_some_iff.1 e).1
  have : p = i := (List.getElem?_inj hpl hnd).1 (e.trans g1.symm)
  omega
theorem eG_low {i : Nat} (hi : i ≠ c) : eG (aG f k c) i = [] := by
  by_cases h : i < c
  · rw [eG_at (aG_at h)]
    rfl
  · exact eG_out (by rw [aG_len]; omega)
theorem eG_top (hc : c ≤ 8) : eG (aG f k c) c = List.range c := by
  rw [eG_at aG_last, List.map_map]
  refine List.ext_getElem (by simp) fun i h1 h2 => ?_
  rw [List.length_range] at h2
  simp only [List.getElem_map, List.getElem_range, Function.comp_apply]
  rw [ix_gn hc h2]
  omega
theorem wy_top (hc : c ≤ 8) {a b : Nat} (h : Wy (eM (wyG (aG f k c))) a b) : a = c ∧ b < c := by
  have h1 : ∀ {a b : Nat}, b ∈ eM (wyG (aG f k c)) a → a = c ∧ b < c := fun {a b} h => by
    have h2 := eM_wyG.1 h
    by_cases e : a = c
    · subst e
      rw [eG_top hc] at h2
      exact ⟨rfl, List.mem_range.1 h2⟩
    · rw [eG_low e] at h2
      cases h2
  induction h with
  | one h => exact h1 h
  | more h _ ih =>
    have := h1 h
    omega
theorem okA (hk : k ≤ 8) (hc : c ≤ 8) : OkG (aG f k c) (aX k) where
  full := by
    unfold fullG
    rw [aG_len, aX_len, decide_eq_false (by omega), decide_eq_false (by omega), Bool.false_or, Bool.false_or]
    have h1 : (aG f k c).any (fun a => decide (4096 < a.2.1.length) || decide (4096 < a.2.2.length)) = false := by
      rw [List.any_eq_false]
      intro a ha
      unfold aG at ha
      rcases List.mem_append.1 ha with ha | ha
      · unfold aZ at ha
        obtain ⟨i, _, rfl⟩ := List.mem_map.1 ha
        have := gm1_len (f i) k
        simp
        omega
      · rw [List.mem_singleton.1 ha]
        simp
        omega
    rw [h1, Bool.false_or, List.any_eq_false]
    intro b hb
    unfold aX at hb
    obtain ⟨i, _, rfl⟩ := List.mem_map.1 hb
    simp
  tg := fun i hi => twB_of (nd_gN hc) i (by rw [gN, List.length_map]; exact hi)
  ti := fun i hi => twB_of (nd_iN hk) i (by rw [iN, List.length_map]; exact hi)
  no := fun i hi => by
    rw [aG_len] at hi
    unfold nonB
    by_cases h : i < c
    · rw [aG_at h, Option.any_some, Bool.or_eq_false_iff]
      refine ⟨?_, rfl⟩
      rw [List.any_eq_false]
      intro s hs
      obtain ⟨j, hj, _, rfl⟩ := gm1_mem.1 hs
      have hm : nm1 j ∈ iN (aX k) := by rw [iN_aX]; exact List.mem_map.2 ⟨j, List.mem_range.2 hj, rfl⟩
      have := ixI_mem.2 hm
      simp only [decide_eq_true_eq]
      omega
    · obtain rfl : i = c := by omega
      rw [aG_last, Option.any_some, Bool.or_eq_false_iff]
      refine ⟨rfl, ?_⟩
      rw [List.any_eq_false]
      intro s hs
      obtain ⟨j, hj, rfl⟩ := List.mem_map.1 hs
      rw [ix_gn hc (List.mem_range.1 hj)]
      simp only [decide_eq_true_eq]
      omega
  ni := fun i hi => by
    rw [aX_len] at hi
    unfold noiB
    rw [aX_at hi]
    rfl
  lp := fun i _ h => by
    have := wy_top hc h
    omega
theorem dirA {i j : Nat} (hk : k ≤ 8) (hi : i < c) (hj : j < k) : dirB (aG f k c) (aX k) i j = f i j := by
  unfold dirB
  rw [aG_at hi, aX_at hj, Option.any_some, Option.any_some, Bool.eq_iff_iff]
  simp only [Bool.or_eq_true, List.contains_iff_mem, List.not_mem_nil, or_false]
  constructor
  · intro h
    obtain ⟨j', hj', hf, e⟩ := gm1_mem.1 h
    rw [nm1_inj (by omega) (by omega) e]
    exact hf
  · exact fun h => gm1_mem.2 ⟨j, hj, h, rfl⟩
theorem dirA_top {j : Nat} (hj : j < k) : dirB (aG f k c) (aX k) c j = false := by
  unfold dirB
  rw [aG_last, aX_at hj, Option.any_some, Option.any_some]
  rfl
theorem exA_low {i : Nat} (hk : k ≤ 8) (hc : c ≤ 8) (hi : i < c) : memL (aG f k c) (aX k) i = (List.range k).filter (f i) := by
  rw [memL_of (p := f i) fun j hj => ?_, aX_len]
  rw [aX_len] at hj
  constructor
  · rintro ⟨t, rfl | ht, h⟩
    · rw [dirA hk hi hj] at h
      exact h
    · have := wy_top hc ht
      omega
  · intro h
    exact memB_dir (by rw [dirA hk hi hj]; exact h)
theorem exA_top (hk : k ≤ 8) (hc : c ≤ 8) : memL (aG f k c) (aX k) c = (List.range k).filter fun j => (List.range c).any fun i => f i j := by
  rw [memL_of (p := fun j => (List.range c).any fun i => f i j) fun j hj => ?_, aX_len]
  rw [aX_len] at hj
  rw [List.any_eq_true]
  constructor
  · rintro ⟨t, rfl | ht, h⟩
    · rw [dirA_top hj] at h
      cases h
    · have h1 := wy_top hc ht
      rw [dirA hk h1.2 hj] at h
      exact ⟨t, List.mem_range.2 h1.2, h⟩
  · rintro ⟨i, hi, h⟩
    have hic := List.mem_range.1 hi
    refine ⟨i, .inr (.one (eM_wyG.2 (by rw [eG_top hc]; exact hi))), ?_⟩
    rw [dirA hk hic hj]
    exact h
theorem exA_len : (exG (aG f k c) (aX k)).length = c + 1 := by
  unfold exG
  rw [List.length_map, List.length_range, aG_len]
theorem exA_at {i : Nat} (hk : k ≤ 8) (hc : c ≤ 8) (hi : i < c) : (exG (aG f k c) (aX k))[i]? = some ((List.range k).filter (f i)) := by
  unfold exG
  rw [List.getElem?_map, aG_len, List.getElem?_range (by omega), Option.map_some, exA_low hk hc hi]
theorem exA_end (hk : k ≤ 8) (hc : c ≤ 8) : (exG (aG f k c) (aX k))[c]? = some ((List.range k).filter fun j => (List.range c).any fun i => f i j) := by
  unfold exG
  rw [List.getElem?_map, aG_len, List.getElem?_range (by omega), Option.map_some, exA_top hk hc]
end
theorem nm1_str : ∀ i, i < 8 → (({ data := #[97, 98, 99, 100, 101, 102, 103, 104] } : ByteArray).extract i (i + 1)) = str (nm1 i) := by decide +kernel
theorem gn1_str : ∀ i, i < 8 → (({ data := #[103] } : ByteArray) ++ str (nm1 i)) = str (gn1 i) := by decide +kernel
end Go.Proofs.YtkfnbapnkmlopaaDoor

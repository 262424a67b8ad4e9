/- Plain: law GroupFull's groups and items. -/
import Derived.Test.YtkfnbapnkmlopaaDoorGpSu
namespace Go.Proofs.YtkfnbapnkmlopaaDoor

def nmG (i : Nat) : Tx := [UInt8.ofNat (97 + i % 26), UInt8.ofNat (97 + i / 26 % 26), UInt8.ofNat (97 + i / 676)]
def gF (j : Nat) : List Grp := (List.range j).map fun i => (nmG i, [], [])
def xF (k : Nat) : List Itm := (List.range k).map fun i => (nmG i, [[97, 97, 97]])
theorem gF_len (j : Nat) : (gF j).length = j := by simp [gF]
theorem xF_len (k : Nat) : (xF k).length = k := by simp [xF]
theorem gF_at {i j : Nat} (h : i < j) : (gF j)[i]? = some (nmG i, [], []) := by simp [gF, List.getElem?_range h]
theorem xF_at {i k : Nat} (h : i < k) : (xF k)[i]? = some (nmG i, [[97, 97, 97]]) := by simp [xF, List.getElem?_range h]
theorem u8_inj97 {a b : Nat} (ha : a < 100) (hb : b < 100) (h : UInt8.ofNat (97 + a) = UInt8.ofNat (97 + b)) : a = b := by
  have := congrArg UInt8.toNat h
  rw [UInt8.toNat_ofNat', UInt8.toNat_ofNat'] at this
  omega
theorem nmG_inj {i j : Nat} (hi : i < 1028) (hj : j < 1028) (h : nmG i = nmG j) : i = j := by
  unfold nmG at h
  injection h with h0 h
  injection h with h1 h
  injection h with h2 _
  have e0 := u8_inj97 (by omega) (by omega) h0
  have e1 := u8_inj97 (by omega) (by omega) h1
  have e2 := u8_inj97 (by omega) (by omega) h2
  omega
theorem nm_nodup {n : Nat} (hn : n ≤ 1028) : ((List.range n).map nmG).Nodup := by
  refine List.pairwise_iff_getElem.2 fun i j hi hj hij e => ?_
  rw [List.length_map, List.length_range] at hi hj
  rw [List.getElem_map, List.getElem_map, List.getElem_range, List.getElem_range] at e
  have := nmG_inj (by omega) (by omega) e
  omega
theorem gN_gF (j : Nat) : gN (gF j) = (List.range j).map nmG := by simp [gN, gF]
theorem iN_xF (k : Nat) : iN (xF k) = (List.range k).map nmG := by simp [iN, xF]
theorem gF_mem {j : Nat} {a : Grp} (h : a ∈ gF j) : a.2.1 = [] ∧ a.2.2 = [] := by
  unfold gF at h
  obtain ⟨i, _, rfl⟩ := List.mem_map.1 h
  exact ⟨rfl, rfl⟩
theorem xF_mem {k : Nat} {a : Itm} (h : a ∈ xF k) : a.2 = [[97, 97, 97]] := by
  unfold xF at h
  obtain ⟨i, _, rfl⟩ := List.mem_map.1 h
  rfl
theorem full_F (j k : Nat) : fullG (gF j) (xF k) = (decide (1024 < j) || decide (1024 < k)) := by
  have h1 : (gF j).any (fun a => decide (4096 < a.2.1.length) || decide (4096 < a.2.2.length)) = false := by
    rw [List.any_eq_false]
    intro a ha
    rw [(gF_mem ha).1, (gF_mem ha).2]
    decide
  have h2 : (xF k).any (fun a => decide (4096 < a.2.length)) = false := by
    rw [List.any_eq_false]
    intro a ha
    rw [xF_mem ha]
    decide
  unfold fullG
  rw [h1, h2, gF_len, xF_len, Bool.or_false, Bool.or_false]
theorem ix_aaa {j : Nat} (h : 0 < j) : ixI (gN (gF j)) [97, 97, 97] = 0 := by
  rw [gN_gF]
  obtain ⟨m, rfl⟩ : ∃ m, j = m + 1 := ⟨j - 1, by omega⟩
  rw [List.range_succ_eq_map, List.map_cons]
  unfold ixI
  exact if_pos (by decide)
theorem eG_F (j i : Nat) : eG (gF j) i = [] := by
  by_cases h : i < j
  · rw [eG_at (gF_at h)]
    rfl
  · exact eG_out (by rw [gF_len]; omega)
theorem no_wy {j a b : Nat} (h : Wy (eM (wyG (gF j))) a b) : False := by
  induction h with
  | one h => have := eM_wyG.1 h; rw [eG_F] at this; cases this
  | more h _ _ => have := eM_wyG.1 h; rw [eG_F] at this; cases this
theorem okF {j k : Nat} (h0 : 0 < j) (hj : j ≤ 1024) (hk : k ≤ 1024) : OkG (gF j) (xF k) where
  full := by rw [full_F, decide_eq_false (by omega), decide_eq_false (by omega)]; rfl
  tg := fun i hi => twB_of (by rw [gN_gF]; exact nm_nodup (by omega)) i (by rw [gN_len]; exact hi)
  ti := fun i hi => twB_of (by rw [iN_xF]; exact nm_nodup (by omega)) i (by rw [iN_len]; exact hi)
  no := fun i hi => by
    unfold nonB
    rw [gF_at (by rw [gF_len] at hi; exact hi)]
    rfl
  ni := fun i hi => by
    unfold noiB
    rw [xF_at (by rw [xF_len] at hi; exact hi), Option.any_some, List.any_cons, ix_aaa h0]
    rfl
  lp := fun i _ h => no_wy h
theorem ckF_full {j k : Nat} (h : 1024 < j ∨ 1024 < k) : ckG (gF j) (xF k) = (0, 10) := by
  refine ckG_full ?_
  rw [full_F]
  rcases h with h | h
  · rw [decide_eq_true h]; rfl
  · rw [decide_eq_true h, Bool.or_true]
theorem memF {j k i p : Nat} : memB (gF j) (xF k) i p ↔ dirB (gF j) (xF k) i p = true := by
  constructor
  · rintro ⟨t, rfl | ht, h⟩
    · exact h
    · exact (no_wy ht).elim
  · exact memB_dir
theorem exF_0 {j k : Nat} (hj : 0 < j) : memL (gF j) (xF k) 0 = List.range k := by
  rw [memL_of (p := fun _ => true) fun p hp => ?_, List.filter_eq_self.2 fun _ _ => rfl, xF_len]
  rw [memF]
  unfold dirB
  rw [gF_at hj, xF_at (by rw [xF_len] at hp; exact hp)]
  exact ⟨fun _ => rfl, fun _ => rfl⟩
theorem exF_1 {j k : Nat} (hj : 1 < j) : memL (gF j) (xF k) 1 = [] := by
  rw [memL_of (p := fun _ => false) fun p hp => ?_, List.filter_eq_nil_iff.2 fun _ _ => by decide]
  rw [memF]
  unfold dirB
  rw [gF_at hj, xF_at (by rw [xF_len] at hp; exact hp)]
  have e : ([[97, 97, 97]] : List Tx).contains (nmG 1) = false := by decide
  have e2 : (([] : List Tx).contains (nmG p) || ([[97, 97, 97]] : List Tx).contains (nmG 1)) = false := by rw [e]; rfl
  exact ⟨fun h => e2 ▸ h, fun h => by cases h⟩
theorem exF_len (j k : Nat) : (exG (gF j) (xF k)).length = j := by
  unfold exG
  rw [List.length_map, List.length_range, gF_len]
theorem exF_at0 {j k : Nat} (hj : 1 < j) : (exG (gF j) (xF k))[0]? = some (List.range k) := by
  unfold exG
  rw [List.getElem?_map, gF_len, List.getElem?_range (by omega), Option.map_some, exF_0 (by omega)]
theorem exF_at1 {j k : Nat} (hj : 1 < j) : (exG (gF j) (xF k))[1]? = some [] := by
  unfold exG
  rw [List.getElem?_map, gF_len, List.getElem?_range hj, Option.map_some, exF_1 hj]
/-- The name in numbers. -/
theorem nm_str13 : ∀ a, a < 26 → ∀ b, b < 26 → ∀ c, c < 2 → ({ data := #[UInt8.ofNat (97 + a), UInt8.ofNat (97 + b), UInt8.ofNat (97 + c)] } : ByteArray) = str [UInt8.ofNat (97 + a), UInt8.ofNat (97 + b), UInt8.ofNat (97 + c)] := fun _ _ _ _ _ _ => rfl
end Go.Proofs.YtkfnbapnkmlopaaDoor

/- The library's functions that value calls, by contracts. -/
import Derived.Test.YtencapplbedcmaaGreatDoorLxRW
import Derived.Test.YtencapplbedcmaaGreatDoorVaMath
import Derived.Test.YtencapplbedcmaaGreatDoorShelfV
import Derived.Lib.Join
namespace Go.Proofs.YtencapplbedcmaaGreatDoor
open Go.RowKit

theorem bl2_contains (b : UInt8) : ([32, 9] : Tx).contains b = bl2 b := by
  simp only [List.contains, List.elem, bl2]
  cases (b == 32) <;> cases (b == 9) <;> rfl
theorem trimS_trw (l : Tx) : Lib.trimS l [32, 9] = trw l := by
  have hf : (fun b => ([32, 9] : Tx).contains b) = bl2 := funext bl2_contains
  unfold Lib.trimS Lib.trimLeftS Lib.trimRightS trw
  rw [trw_comm, hf]
  rfl
theorem index1_any (l : Tx) (c : UInt8) (S : ByteArray) (hS : S = str [c]) (w : World) :
    Calls Tryz.prog 40 #[.string (str l), .string S] w fun e w' => e = .returned (.int .i64 (Lib.indexByte l c)) ∧ w = w' := by
  subst hS
  refine (show Calls Tryz.prog 40 #[.string (str l), .string (str [c])] w _ from Any.strings_Index_one Tryz.indexL (str l) c w).mono ?_
  rintro e w' ⟨rfl, rfl⟩
  exact ⟨rfl, rfl⟩
theorem idx_mem (l : Tx) (c : UInt8) : decide (0 ≤ Lib.indexByte l c) = l.contains c := by
  induction l with
  | nil => rfl
  | cons x l ih =>
    rw [Lib.indexByte, List.contains_cons]
    by_cases h : x = c
    · subst h
      simp
    · have h1 : (x == c) = false := beq_eq_false_iff_ne.2 h
      have h2 : (c == x) = false := beq_eq_false_iff_ne.2 (Ne.symm h)
      rw [h1, h2, Bool.false_or, ← ih]
      have h3 := Lib.indexByte_ge l c
      by_cases h4 : Lib.indexByte l c = -1
      · rw [h4]; rfl
      · rw [if_neg (by simp), if_neg (by simpa using h4), decide_eq_true (by omega), decide_eq_true (by omega)]
theorem has1_any (l : Tx) (c : UInt8) (S : ByteArray) (hS : S = str [c]) (w : World) :
    Calls Tryz.prog 35 #[.string (str l), .string S] w fun e w' => e = .returned (.bool (l.contains c)) ∧ w = w' := by
  subst hS
  refine (show Calls Tryz.prog 35 #[.string (str l), .string (str [c])] w _ from Any.strings_Contains_one Tryz.containsL (str l) c w).mono ?_
  rintro e w' ⟨rfl, rfl⟩
  exact ⟨ret_bool8 (idx_mem l c), rfl⟩
theorem hasRune_any (l : Tx) (c : UInt8) (hc : c.toNat < 128) (w : World) :
    Calls Tryz.prog 61 #[.string (str l), .int .i32 (c.toNat : Int)] w fun e w' => e = .returned (.bool (l.contains c)) ∧ w = w' := by
  refine (show Calls Tryz.prog 61 #[.string (str l), .int .i32 (c.toNat : Int)] w _ from Any.strings_ContainsRune_ascii Tryz.hasRuneL (str l) (c.toNat : Int) w (by omega) (by omega)).mono ?_
  rintro e w' ⟨rfl, rfl⟩
  have e1 : ((c.toNat : Int)).toNat.toUInt8 = c := by
    rw [Int.toNat_natCast]
    simp
  rw [e1]
  exact ⟨ret_bool8 (idx_mem l c), rfl⟩
theorem libTrim_any (l : Tx) (cs : ByteArray) (w : World) (hc : cs = str [32, 9]) (hl : l.length ≤ 1000000) : Calls Tryz.prog 53 #[.string (str l), .string cs] w fun e w' => e = .returned (.string (str (trw l))) ∧ Below w.heap.size w w' := by
  subst hc
  refine (show Calls Tryz.prog 53 #[.string (str l), .string (str [32, 9])] w _ from Any.strings_Trim_laid Tryz.trimL (by kernel_rfl) (str l) (str [32, 9]) w (by rw [str_size]; omega) (by decide) (ascii_of_all (by decide))).mono ?_
  rintro e w' ⟨rfl, hb⟩
  exact ⟨ret_str8 (congrArg str (trimS_trw l)), hb⟩
theorem trimPre_any (l : Tx) (p : ByteArray) (w : World) (hp : p = str [45]) :
    Calls Tryz.prog 43 #[.string (str l), .string p] w fun e w' => e = .returned (.string (str (if (l.head? == some 45) = true then l.tail else l))) ∧ w = w' := by
  subst hp
  refine (show Calls Tryz.prog 43 #[.string (str l), .string (str [45])] w _ from Any.strings_TrimPrefix Tryz.trimPreL (str l) (str [45]) w).mono ?_
  rintro e w' ⟨rfl, rfl⟩
  refine ⟨ret_str8 (congrArg str ?_), rfl⟩
  show Lib.trimPrefix l [45] = _
  unfold Lib.trimPrefix Lib.hasPrefix
  cases l with
  | nil => rfl
  | cons x l =>
    by_cases h : x = 45
    · subst h
      rfl
    · have h1 : ((45 : UInt8) == x) = false := beq_eq_false_iff_ne.2 (Ne.symm h)
      have h2 : (some x == some (45 : UInt8)) = false := by simpa using h
      simp [List.isPrefixOf, h1, h2]
theorem hasPre_any (l : Tx) (p : ByteArray) (w : World) (hp : p = str [48]) :
    Calls Tryz.prog 45 #[.string (str l), .string p] w fun e w' => e = .returned (.bool (l.head? == some 48)) ∧ w = w' := by
  subst hp
  refine (show Calls Tryz.prog 45 #[.string (str l), .string (str [48])] w _ from Any.strings_HasPrefix Tryz.hasPreL (str l) (str [48]) w).mono ?_
  rintro e w' ⟨rfl, rfl⟩
  refine ⟨ret_bool8 ?_, rfl⟩
  show Lib.hasPrefix l [48] = _
  unfold Lib.hasPrefix
  cases l with
  | nil => rfl
  | cons x l =>
    by_cases h : x = 48
    · subst h
      simp [List.isPrefixOf]
    · have h1 : ((48 : UInt8) == x) = false := beq_eq_false_iff_ne.2 (Ne.symm h)
      have h2 : (some x == some (48 : UInt8)) = false := by simpa using h
      simp [List.isPrefixOf, h1, h2]
theorem join_tail : ∀ (l : List Tx) (p : Tx), p ++ Lib.joinTail [44] l = joinC (p :: l)
  | [], p => by simp [Lib.joinTail, joinC]
  | q :: r, p => by
    rw [joinC, ← join_tail r q]
    simp [Lib.joinTail]
theorem join_lib : ∀ l : List Tx, Lib.join l [44] = joinC l
  | [] => rfl
  | p :: l => by rw [Lib.join_cons, join_tail]
theorem addr_spot {w : World} {a : Addr} {v : Value} (h : w.cell? a = some v) : a = ⟨a.block, a.off, none⟩ := by
  unfold World.cell? at h
  obtain ⟨b, o, s⟩ := a
  simp only at h ⊢
  split at h
  · cases s with
    | none => rfl
    | some x => simp at h
  · cases h
theorem join_any (A : Option Addr) (n c : Nat) (xs : List Tx) (sep : ByteArray) (w : World) (hsep : sep = str [44]) (hne : xs ≠ []) (hn : xs.length = n) (hr : RdS w A xs) (hcap : n ≤ c) (hlen : (joinC xs).length ≤ 1000000) (hbig : n ≤ 1000000) :
    Calls Tryz.prog 37 #[.slice A n c, .string sep] w fun e w' => e = .returned (.string (str (joinC xs))) ∧ Below w.heap.size w w' := by
  subst hsep
  subst hn
  have hp : 0 < xs.length := List.length_pos_iff.2 hne
  have hm : 0 < (xs.map txC).length := by rw [List.length_map]; exact hp
  obtain ⟨ad, rfl, h0⟩ := hr hm
  have hc0 := h0 0 _ (List.getElem?_eq_getElem hm)
  have ha : ad.add 0 = ad := by unfold Addr.add; rw [if_pos rfl]
  rw [ha] at hc0
  have hsp := addr_spot hc0
  obtain ⟨b, o, s⟩ := ad
  obtain rfl : s = none := by simpa using hsp
  have e1 : (xs.map str).map (·.data.toList) = xs := by
    rw [List.map_map]
    conv => rhs; rw [← List.map_id xs]
    exact List.map_congr_left fun x _ => rfl
  have hblk := World.block_lt_of_cell? w _ hc0
  have h := Any.strings_Join Tryz.joinL Tryz.joinX b o c (xs.map str) (str [44]) w (fun j x hx => by
    rw [List.getElem?_map] at hx
    cases hq : xs[j]? with
    | none => rw [hq] at hx; cases hx
    | some z =>
      rw [hq] at hx
      injection hx with hx
      rw [← hx]
      have h3 := h0 j (txC z) (by rw [List.getElem?_map, hq]; rfl)
      unfold Addr.add at h3
      split at h3
      · rename_i hj
        subst hj
        exact h3
      · exact h3) hblk (by rw [List.length_map]; omega) (by rw [List.length_map]; exact hcap) (by
        rw [e1]
        show (Lib.join xs [44]).length ≤ _
        rw [join_lib]
        omega)
  rw [e1, List.length_map] at h
  refine (show Calls Tryz.prog 37 #[.slice (some ⟨b, o, none⟩) xs.length c, .string (str [44])] w _ from h).mono ?_
  rintro e w' ⟨rfl, hb⟩
  refine ⟨ret_str8 (congrArg str ?_), hb⟩
  exact join_lib xs
end Go.Proofs.YtencapplbedcmaaGreatDoor

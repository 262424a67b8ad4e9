/- Contracts: lex.Trim, said. -/
import Derived.Test.YtbeehedppofpnaaGreatDoorLxRW
import Derived.Test.YtbeehedppofpnaaGreatDoorLxBd
namespace Go.Proofs.YtbeehedppofpnaaGreatDoor
open Go.RowKit

theorem cut_ahead : ∀ l : Tx, (Lib.cut l [59]).1 = ahead l
  | [] => rfl
  | x :: l => by
    have ih := cut_ahead l
    by_cases h : x = 59
    · subst h
      unfold Lib.cut ahead
      rw [index_self1, if_pos (by decide)]
      rfl
    · have e : ahead (x :: l) = x :: ahead l := by
        unfold ahead
        rw [List.takeWhile_cons, if_pos (by simpa using h)]
      rw [e, ← ih]
      unfold Lib.cut
      rw [index_skip1 59 x l h]
      rcases index_count 59 l with ⟨h1, _⟩ | ⟨i, h1, _⟩
      · simp [h1]
      · rw [h1, if_neg (show ¬ ((i : Int) == -1) = true by simp), if_pos (by omega), if_pos (by omega), show ((i : Int) + 1).toNat = i + 1 by omega, show ((i : Int)).toNat = i by omega]
        rfl
theorem hasPrefix_hash (l : Tx) : Lib.hasPrefix l [35] = decide (l.head? = some 35) := by
  unfold Lib.hasPrefix
  cases l with
  | nil => rfl
  | cons x r =>
    simp only [List.isPrefixOf, Bool.and_true, List.head?_cons, Option.some.injEq]
    by_cases h : x = 35
    · subst h
      rfl
    · have : (35 == x) = false := beq_eq_false_iff_ne.2 fun e => h e.symm
      rw [this, decide_eq_false h]
/-- The library's greatest length is some int. -/
def Mx (w : World) : Prop := ∃ m, w.cell? ⟨1, 0, none⟩ = some (.int .i64 m)
theorem Mx.below {w w' : World} (h : Mx w) (hb : Below w.heap.size w w') : Mx w' := by
  obtain ⟨m, hm⟩ := h
  exact ⟨m, (World.cell?_of_block (a := ⟨1, 0, none⟩) (hb.block _ (World.block_lt_of_cell? w _ hm))).trans hm⟩
theorem Mx.shaped {w : World} (h : w.ShapedOpen Tryz.prog) : Mx w := Tryz.cutL.s1_3 w h
theorem libTrim_any (l : Tx) (cs : ByteArray) (w : World) (hc : cs = str [32, 9, 13]) (hl : l.length ≤ 1000000) : Calls Tryz.prog 75 #[.string (str l), .string cs] w fun e w' => e = .returned (.string (str (trim l))) ∧ Below w.heap.size w w' := by
  subst hc
  refine (show Calls Tryz.prog 75 #[.string (str l), .string (str [32, 9, 13])] w _ from Any.strings_Trim_laid Tryz.trimL (by kernel_rfl) (str l) (str [32, 9, 13]) w (by rw [str_size]; omega) (by decide) (ascii_of_all (by decide))).mono ?_
  rintro e w' ⟨rfl, hb⟩
  exact ⟨ret_str8 (congrArg str (trimS_trim l)), hb⟩
theorem libCut_any (l : Tx) (sep : ByteArray) (w : World) (hsep : sep = str [59]) (hs : l.length ≤ 1000000) (hm : Mx w) :
    Calls Tryz.prog 56 #[.string (str l), .string sep] w fun e w' => ∃ x b, e = .returned (.tuple #[.string (str (ahead l)), .string x, .bool b]) ∧ Below w.heap.size w w' := by
  subst hsep
  obtain ⟨m, hm⟩ := hm
  refine (show Calls Tryz.prog 56 #[.string (str l), .string (str [59])] w _ from Any.strings_Cut { Tryz.cutL with } (str l) (str [59]) m w (by rw [str_size]; omega) hm).mono ?_
  rintro e w' ⟨rfl, n, rfl⟩
  refine ⟨str (Lib.cut l [59]).2.1, (Lib.cut l [59]).2.2, ?_, ⟨rfl, rfl, rfl, Nat.le_refl _, fun _ _ => rfl⟩⟩
  rw [← cut_ahead l]
  rfl
theorem libPre_any (l : Tx) (p : ByteArray) (w : World) (hp : p = str [35]) :
    Calls Tryz.prog 58 #[.string (str l), .string p] w fun e w' => e = .returned (.bool (decide (l.head? = some 35))) ∧ w = w' := by
  subst hp
  refine (show Calls Tryz.prog 58 #[.string (str l), .string (str [35])] w _ from Any.strings_HasPrefix Tryz.hasPreL (str l) (str [35]) w).mono ?_
  rintro e w' ⟨rfl, rfl⟩
  exact ⟨ret_bool8 (hasPrefix_hash l), rfl⟩
theorem libSuf_any (l : Tx) (p : ByteArray) (w : World) (hp : p = str [92]) (hs : l.length ≤ 1000000) :
    Calls Tryz.prog 54 #[.string (str l), .string p] w fun e w' => e = .returned (.tuple #[.string (str (if goes l then l.dropLast else l)), .bool (goes l)]) ∧ w = w' := by
  subst hp
  refine (show Calls Tryz.prog 54 #[.string (str l), .string (str [92])] w _ from Any.strings_CutSuffix Tryz.cutSufL (str l) (str [92]) w (by rw [str_size]; omega)).mono ?_
  rintro e w' ⟨rfl, rfl⟩
  refine ⟨?_, rfl⟩
  show Ending.returned (.tuple #[.string (str (Lib.trimSuffix l [92])), .bool (Lib.hasSuffix l [92])]) = _
  rw [trimSuffix_goes, hasSuffix_goes]
theorem libSplit_any (l : Tx) (sep : ByteArray) (w : World) (hsep : sep = str [10]) (hs : l.length ≤ 1000000) (hm : Mx w) :
    Calls Tryz.prog 53 #[.string (str l), .string sep] w fun e w' => e = .returned (.slice (some ⟨w.heap.size, 0, none⟩) (cutAt 10 l).length (cutAt 10 l).length) ∧ w' = w.alloc (.cells ((cutAt 10 l).map txC).toArray 9) := by
  subst hsep
  obtain ⟨m, hm⟩ := hm
  have h1 : 1 ≤ (str [10]).size := by decide
  refine (show Calls Tryz.prog 53 #[.string (str l), .string (str [10])] w _ from Any.strings_Split { Tryz.splitL with } Tryz.splitL.i9 (str l) (str [10]) m w (by rw [str_size]; omega) hm h1).mono ?_
  rintro e w' ⟨rfl, rfl⟩
  have e1 : (Lib.splitB (str [10]) 0 (Lib.countB (str l) (str [10])) (str l)).map (·.data.toList) = cutAt 10 l := by
    rw [Lib.splitB_data]
    exact split_cut 10 l
  have e2 : (Lib.splitB (str [10]) 0 (Lib.countB (str l) (str [10])) (str l)).map Value.string = (cutAt 10 l).map txC := by
    rw [← e1, List.map_map]
    rfl
  have e3 : Lib.countB (str l) (str [10]) + 1 = (cutAt 10 l).length := by rw [← e1, List.length_map, Lib.splitB_all _ h1 0 _ (str l) rfl]
  rw [e2, e3]
  exact ⟨rfl, rfl⟩
set_option maxRecDepth 100000 in
theorem trim_any (l : Tx) (w : World) (hl : l.length ≤ 1000000) : Calls Tryz.prog 57 #[.string (str l)] w fun e w' => e = .returned (.string (str (trim l))) ∧ Below w.heap.size w w' := by
  have HT := Lib.hid (fun W cs hc => libTrim_any l cs W hc hl)
  generalize str l = S at *
  go_enter Tryz.func57, Tryz.ntmps57
  go_wp2_with fail
  refine (HT.out _ _ rfl).mono ?_
  rintro e w' ⟨rfl, hb⟩
  have HB := Lib.hid hb
  clear hb
  go_wp2_with fail
  go_ret
  exact ⟨rfl, HB.out⟩
set_option maxRecDepth 100000 in
theorem said_any (l : Tx) (w : World) (hl : l.length ≤ 1000000) (hm : Mx w) : Calls Tryz.prog 33 #[.string (str l)] w fun e w' => e = .returned (.string (str (said l))) ∧ Below w.heap.size w w' := by
  have ha : (ahead l).length ≤ 1000000 := Nat.le_trans (List.takeWhile_prefix _).length_le hl
  have HC := Lib.hid (fun W sep hs (h : Mx W) => libCut_any l sep W hs hl h)
  have HT := Lib.hid (fun W => trim_any (ahead l) W ha)
  have HP := Lib.hid (fun W p hp => libPre_any (trim (ahead l)) p W hp)
  have HS : Hid (said l = if (trim (ahead l)).head? = some 35 then [] else trim (ahead l)) := rfl
  have HM := Lib.hid hm
  clear hm ha hl
  by_cases h : (trim (ahead l)).head? = some 35
  · rw [if_pos h] at HS
    rw [decide_eq_true h] at HP
    generalize str (trim (ahead l)) = T at *
    generalize str (ahead l) = A at *
    have HS' : Hid (str [] = str (said l)) := by unfold Hid; rw [HS.out]
    generalize str (said l) = R at *
    generalize str l = S at *
    clear HS h
    go_enter Tryz.func33, Tryz.ntmps33
    go_wp2_with fail
    refine (HC.out _ _ rfl HM.out).mono ?_
    rintro e w1 ⟨x, bb, rfl, hb⟩
    have HB1 := Lib.hid hb
    clear hb
    go_wp2_with fail
    refine (HT.out _).mono ?_
    rintro e w2 ⟨rfl, hb⟩
    have HB2 := Lib.hid (HB1.out.trans (hb.mono HB1.out.size))
    clear hb HB1
    go_wp2_with fail
    refine (HP.out _ _ rfl).mono ?_
    rintro e w3 ⟨rfl, rfl⟩
    go_wp2_with fail
    go_ret
    exact ⟨ret_str8 HS'.out, HB2.out⟩
  · rw [if_neg h] at HS
    rw [decide_eq_false h] at HP
    have HS' : Hid (str (trim (ahead l)) = str (said l)) := by unfold Hid; rw [HS.out]
    generalize str (trim (ahead l)) = T at *
    generalize str (ahead l) = A at *
    generalize str (said l) = R at *
    generalize str l = S at *
    clear HS h
    go_enter Tryz.func33, Tryz.ntmps33
    go_wp2_with fail
    refine (HC.out _ _ rfl HM.out).mono ?_
    rintro e w1 ⟨x, bb, rfl, hb⟩
    have HB1 := Lib.hid hb
    clear hb
    go_wp2_with fail
    refine (HT.out _).mono ?_
    rintro e w2 ⟨rfl, hb⟩
    have HB2 := Lib.hid (HB1.out.trans (hb.mono HB1.out.size))
    clear hb HB1
    go_wp2_with fail
    refine (HP.out _ _ rfl).mono ?_
    rintro e w3 ⟨rfl, rfl⟩
    go_wp2_with fail
    go_ret
    exact ⟨ret_str8 HS'.out, HB2.out⟩
end Go.Proofs.YtbeehedppofpnaaGreatDoor

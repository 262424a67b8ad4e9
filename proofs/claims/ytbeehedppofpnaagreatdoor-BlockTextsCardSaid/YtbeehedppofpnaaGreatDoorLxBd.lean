/- Contracts: the library's Builder: WriteString, String, Reset (of a builder that a call has made). -/
import Derived.Test.YtbeehedppofpnaaGreatDoorLxMem
import Derived.Test.YtbeehedppofpnaaGreatDoorShelfX
namespace Go.Proofs.YtbeehedppofpnaaGreatDoor
open Go.RowKit

theorem bdInfo : (Tryz.prog.info? 80).map (·.size) = some 2 := by kernel_rfl
theorem bdLies : liesAt Tryz.prog Tryz.prog.depth 80 (2 / Tryz.prog.cellsOf 80) 0 80 1 = true := by kernel_rfl
theorem byInfo : (Tryz.prog.info? 5).map (fun i => (i.zero, i.size, i.bytes)) = some (some (.int .u8 0), 1, 1) := by kernel_rfl
/-- A builder that holds the bytes l. -/
def Bd (B b : Nat) (l : Tx) (w : World) : Prop := Lib.IsBuilderF 80 5 B b (Lib.byteCells l) w
/-- What stands beside it. -/
def Kept (B b : Nat) (w w' : World) : Prop := Below B w w' ∧ Lib.OthersKept 5 (some b) w w'
theorem Kept.trans {B b : Nat} {w1 w2 w3 : World} (h : Kept B b w1 w2) (k : Kept B b w2 w3) : Kept B b w1 w3 := ⟨h.1.trans k.1, h.2.trans k.2⟩
theorem Bd.block {B b : Nat} {l : Tx} {w : World} (h : Bd B b l w) : B ≤ b ∧ ∃ p v, (p = .pointer none ∨ p = .pointer (some ⟨b, 0, none⟩)) ∧ w.heap[b]? = some (.cells #[p, v] 80 (0, 0)) := by
  rcases h with ⟨hB, v, hb, _⟩ | ⟨hB, v, hb, _⟩
  · exact ⟨hB, _, v, .inl rfl, hb⟩
  · exact ⟨hB, _, v, .inr rfl, hb⟩
set_option maxHeartbeats 1000000 in
set_option maxRecDepth 100000 in
theorem bdCheck (B b : Nat) (l : Tx) (w : World) (h : Bd B b l w) :
    Calls Tryz.prog 52 #[.pointer (some ⟨b, 0, none⟩)] w fun e w' => e = .returned (.tuple #[]) ∧ Lib.BuilderAtF 80 5 B b (.pointer (some ⟨b, 0, none⟩)) (Lib.byteCells l) w' ∧ Kept B b w w' := by
  obtain ⟨j, hj, hjs⟩ := Option.map_eq_some_iff.1 bdInfo
  rcases h with h | h
  · have h0 := h.cell0
    have hsh := h.shape
    have hfz := h.frozen0
    have HU := Lib.hid (And.intro (h.used (.pointer (some ⟨b, 0, none⟩))) h.1)
    clear h
    go_enter Tryz.func52, Tryz.ntmps52
    go_wp2
    rw [Lib.run_to_unsafe w ⟨b, 0, none⟩ Tryz.underlying77 Tryz.underlying90 hj (by rw [hjs]; decide) hsh (Nat.zero_lt_succ 1)]
    simp only [Result.andThen]
    rw [Oper.upon_value]
    go_wp2
    rw [run_callFunc_extern Tryz.func71 (by kernel_rfl) (by kernel_rfl) (by kernel_rfl) (e := Extern.AbiNoEscape.same) (by kernel_rfl)]
    rw [Lib.run_noEscape]
    simp only [Result.andThen]
    rw [Oper.upon_value]
    go_wp2
    rw [Lib.run_from_unsafe w ⟨b, 0, none⟩ Tryz.underlying90 Tryz.underlying77 hj hsh bdLies]
    simp only [Result.andThen]
    rw [Oper.upon_value]
    go_wp2
    go_end0
    exact ⟨rfl, HU.out.1, (Below.refl _ _).setCell (p := ⟨b, 0, none⟩) HU.out.2 _, (Lib.OthersKept.refl _ _ w).setCell ⟨b, 0, none⟩ rfl _⟩
  · have h0 := h.cell0
    have HU := Lib.hid h
    clear h
    have hne := Lib.run_neq_ptr_same (P := Tryz.prog) w (tp := 77) (te := 80) ⟨b, 0, none⟩ Tryz.underlying77 hj
    go_enter Tryz.func52, Tryz.ntmps52
    go_wp2
    go_end0
    exact ⟨rfl, HU.out, Below.refl _ _, Lib.OthersKept.refl _ _ _⟩
theorem byteCells_str (a b : Tx) : Lib.byteCells a ++ Lib.strCells (str b) = Lib.byteCells (a ++ b) := by rw [Lib.strCells_eq, ← Lib.byteCells_append]; rfl
set_option maxHeartbeats 1000000 in
set_option maxRecDepth 100000 in
theorem bdWrite (B b : Nat) (l t : Tx) (n : Nat) (w : World) (hn : t.length = n) (h : Bd B b l w) (hlen : l.length + n ≤ 140737488355328) (hBw : B ≤ w.heap.size) :
    Calls Tryz.prog 27 #[.pointer (some ⟨b, 0, none⟩), .string (str t)] w fun e w' => ∃ v, e = .returned v ∧ Bd B b (l ++ t) w' ∧ Kept B b w w' := by
  obtain ⟨i0, hi, hz0, hz1, hz2⟩ := info_parts byInfo
  have HC := Lib.hid (bdCheck B b l w h)
  have hsz : (str t).size = n := hn
  have HR := Lib.hid (byteCells_str l t)
  generalize str t = S at *
  clear h hn
  go_enter Tryz.func27, Tryz.ntmps27
  go_wp2_with fail
  refine HC.out.mono ?_
  rintro e w1 ⟨rfl, ⟨hB, v, hbk, hown, hne⟩, hb1, hk1⟩
  have c1 : w1.cell? ⟨b, 1, none⟩ = some v := by rw [Lib.cell_of_heap hbk]; rfl
  have HH := Lib.hid (And.intro hbk (And.intro hown (And.intro hb1 hk1)))
  clear hbk hown hb1 hk1
  go_wp2_with
    (at_builtin
     refine Lib.wpList_append_own_stringF _ rfl _ _ 78 9 rfl B 5 i0 Tryz.underlying78 Tryz.underlying9 hi hz0 hz1 hz2 _ _ _ rfl HH.out.2.1 S rfl ?c3 ?c4 ?c5 ?_)
  case c3 => rw [Lib.byteCells_length]; unfold maxLen; omega
  case c4 => rw [Lib.byteCells_length]; omega
  case c5 => have := HH.out.2.2.1.size; omega
  intro v' w2 hown' hgrow _
  have hlt : b < w1.heap.size := (Array.getElem?_eq_some_iff.1 HH.out.1).1
  have hb2 : w2.heap[b]? = some (.cells #[.pointer (some ⟨b, 0, none⟩), v] 80 (0, 0)) := by
    rw [hgrow.block b hlt (fun e => hne e.symm)]
    exact HH.out.1
  have d1 : w2.cell? ⟨b, 1, none⟩ = some v := by rw [Lib.cell_of_heap hb2]; rfl
  have f1 : w2.frozen? ⟨b, 1, none⟩ = false := Lib.frozen_of_heap hb2 1
  obtain ⟨ao, n', cap, rfl⟩ : ∃ ao n' cap, v' = .slice ao n' cap := by
    rcases hown'.2 with ⟨hv, _⟩ | ⟨g, cap, cur, fz, hv, _⟩
    · exact ⟨_, _, _, hv⟩
    · exact ⟨_, _, _, hv⟩
  have HG := Lib.hid (And.intro hown' (And.intro hgrow hb2))
  clear hown' hgrow hb2
  go_wp2_with fail
  go_ret2
  refine ⟨_, rfl, .inr ?_, ?_, ?_⟩
  · rw [← HR.out]
    exact Lib.BuilderAtF.put (T := 80) (e := 5) hB HG.out.2.2 (bs' := Lib.byteCells l ++ Lib.strCells S) (by rw [List.length_append, Lib.strCells_length, hsz]; exact HG.out.1) (by decide)
  · exact (HH.out.2.2.1.grown HG.out.2.1 (by have := HH.out.2.2.1.size; omega) (fun k hk => (HH.out.2.1.lt k hk).1)).setCell (p := ⟨b, 1, none⟩) hB _
  · exact (HH.out.2.2.2.grown HG.out.2.1 (Lib.ownsRowF_kind HH.out.2.1)).setCell ⟨b, 1, none⟩ rfl _
theorem bdString (B b : Nat) (l : Tx) (w : World) (h : Bd B b l w) (hBw : B ≤ w.heap.size) :
    Calls Tryz.prog 30 #[.pointer (some ⟨b, 0, none⟩)] w fun e w' => e = .returned (.string (str l)) ∧ Bd B b l w' ∧ Kept B b w w' := by
  refine (show Calls Tryz.prog 30 #[.pointer (some ⟨b, 0, none⟩)] w _ from Any.Builder_String_any_k Tryz.bStrL Tryz.bStrX B b l w h hBw).mono ?_
  rintro e w' ⟨rfl, h1, h2, h3⟩
  exact ⟨rfl, h1, h2, h3⟩
set_option maxHeartbeats 1000000 in
set_option maxRecDepth 100000 in
theorem bdReset (B b : Nat) (l : Tx) (w : World) (h : Bd B b l w) :
    Calls Tryz.prog 55 #[.pointer (some ⟨b, 0, none⟩)] w fun e w' => e = .returned (.tuple #[]) ∧ Bd B b [] w' ∧ Kept B b w w' := by
  obtain ⟨hB, p, v, _, hb⟩ := h.block
  have c0 : w.cell? ⟨b, 0, none⟩ = some p := by rw [Lib.cell_of_heap hb]; rfl
  have f0 : w.frozen? ⟨b, 0, none⟩ = false := Lib.frozen_of_heap hb 0
  have c1 : w.cell? ⟨b, 1, none⟩ = some v := by rw [Lib.cell_of_heap hb]; rfl
  have f1 : w.frozen? ⟨b, 1, none⟩ = false := Lib.frozen_of_heap hb 1
  have HB := Lib.hid hb
  clear h hb
  go_enter Tryz.func55, Tryz.ntmps55
  go_wp2_with fail
  go_end0
  have e1 : (w.setCell ⟨b, 0, none⟩ (.pointer none)).heap[b]? = some (.cells #[.pointer none, v] 80 (0, 0)) := by
    simp [World.setCell, Array.getElem?_modify, HB.out]
  refine ⟨rfl, .inl ?_, ?_, ?_⟩
  · exact Lib.BuilderAtF.put (T := 80) (e := 5) hB e1 (bs' := []) (World.ownsRowF_of (World.ownsRow_nil _ _ _ _)) (by decide)
  · exact ((Below.refl _ _).setCell (p := ⟨b, 0, none⟩) hB _).setCell (p := ⟨b, 1, none⟩) hB _
  · exact ((Lib.OthersKept.refl _ _ w).setCell ⟨b, 0, none⟩ rfl _).setCell ⟨b, 1, none⟩ rfl _
end Go.Proofs.YtbeehedppofpnaaGreatDoor

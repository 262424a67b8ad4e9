/- Contracts: rule's take, takeDate. -/
import Derived.Test.YtjfmnflcgenpaaaGreatDoorRlI
namespace Go.Proofs.YtjfmnflcgenpaaaGreatDoor
open Go.RowKit

theorem cut_len (l : List UInt8) (c : UInt8) : (Lib.cut l [c]).1.length ≤ l.length ∧ (Lib.cut l [c]).2.1.length ≤ l.length := by
  unfold Lib.cut
  split
  · simp only [List.length_take, List.length_drop]
    omega
  · simp
theorem rst_len (c : UInt8) (l : List UInt8) : ∀ k, (rst c l k).length ≤ l.length
  | 0 => Nat.le_refl _
  | k + 1 => Nat.le_trans (cut_len _ c).2 (rst_len c l k)
/-- Numbers put into cells, one after the other. -/
def putF (offs : List Nat) (f : Nat → Int) (cs : Array Value) : Nat → Array Value
  | 0 => cs
  | k + 1 => (putF offs f cs k).setIfInBounds (offs.getD k 0) (.int .i64 (f k))
theorem putF_size (offs : List Nat) (f : Nat → Int) (cs : Array Value) : ∀ k, (putF offs f cs k).size = cs.size
  | 0 => rfl
  | k + 1 => by rw [putF, Array.size_setIfInBounds, putF_size offs f cs k]
def ptrs (g : Nat) (offs : List Nat) : List Value := offs.map fun o => .pointer (some ⟨g, o, none⟩)
set_option maxRecDepth 100000 in
set_option maxHeartbeats 1000000 in
theorem take_any (l : List UInt8) (c : UInt8) (sep : ByteArray) (A : Option Addr) (offs : List Nat) (n cap g B : Nat) (T : TypeId) (cs : Array Value) (w : World) (hsep : sep = str [c]) (hl : l.length ≤ 1000) (hn : offs.length = n) (h1 : 1 ≤ n) (h3 : n ≤ 3) (hcap : n ≤ cap)
    (hr : Rd w A (ptrs g offs)) (hA : ∀ p, A = some p → p.block ≠ g) (hg : w.heap[g]? = some (.cells cs T (0, 0))) (hB : B ≤ g) (hoff : ∀ o ∈ offs, o < cs.size) (hE : ∀ W, Below B w W → En W) :
    Calls Tryz.prog 55 #[.string (str l), .string sep, .slice A n cap] w fun e w' => e = .returned (.tuple #[]) ∧ w'.heap[g]? = some (.cells (putF offs (fld c l) cs n) T (0, 0)) ∧ Below B w w' := by
  have HC := Lib.hid (fun k W (hW : En W) => cut_any (rst c l k) c sep W hsep (Nat.le_trans (rst_len c l k) hl) hW.mx)
  have HI := Lib.hid (fun k W (hW : En W) => atoi_any (str (Lib.cut (rst c l k) [c]).1) W (Nat.le_trans (Nat.le_trans (cut_len _ c).1 (rst_len c l k)) hl) hW.es)
  have HE := Lib.hid hE
  have HN := Lib.hid hn
  have HO := Lib.hid hoff
  have HA := Lib.hid hA
  have HB := Lib.hid (Below.refl B w)
  have HG0 := Lib.hid hg
  have HR := Lib.hid hr
  clear hE hn hoff hA hg hr hsep hl
  go_enter Tryz.func55, Tryz.ntmps55
  go_wp2_with fail
  go_loopw [0, 13] (fun s i wr => ∃ k : Nat, i = .int .i64 k ∧ k ≤ n ∧ s = .string (str (rst c l k)) ∧ Below B w wr ∧ wr.heap[g]? = some (.cells (putF offs (fld c l) cs k) T (0, 0)) ∧ Rd wr A (ptrs g offs)) (fun _ i _ => n - (intOf i).toNat)
  case atStart => exact ⟨0, rfl, Nat.zero_le _, rfl, HB.out, HG0.out, HR.out⟩
  case round =>
    obtain ⟨k, rfl, hk, rfl, hb, hg, hrd⟩ := hrel
    have HBk := Lib.hid hb
    have hlt0 := (Array.getElem?_eq_some_iff.1 hg).1
    have HG := Lib.hid hg
    have HRk := Lib.hid hrd
    clear hb hg hrd HB HG0 HR
    by_cases hlt : k < n
    · obtain ⟨o, ho⟩ : ∃ o, offs[k]? = some o := ⟨_, List.getElem?_eq_getElem (by rw [HN.out]; exact hlt)⟩
      have hos : o < cs.size := HO.out o (List.mem_of_getElem? ho)
      have hod : offs.getD k 0 = o := by rw [List.getD_eq_getElem?_getD, ho]; rfl
      obtain ⟨ad, rfl, hcs0⟩ := HRk.out (by unfold ptrs; rw [List.length_map, HN.out]; omega)
      have hc0 := hcs0 k (.pointer (some ⟨g, o, none⟩)) (by unfold ptrs; rw [List.getElem?_map, ho]; rfl)
      have HP : Hid (putF offs (fld c l) cs (k + 1) = (putF offs (fld c l) cs k).setIfInBounds o (.int .i64 (fld c l k))) := by unfold Hid; rw [putF, hod]
      have hsz := putF_size offs (fld c l) cs k
      have HRs : Hid ((Lib.cut (rst c l k) [c]).2.1 = rst c l (k + 1)) := rfl
      have HF : Hid (av (str (Lib.cut (rst c l k) [c]).1).data.toList = fld c l k) := rfl
      have HC1 := Lib.hid (HC.out k)
      have HI1 := Lib.hid (HI.out k)
      clear ho hcs0 hod
      generalize putF offs (fld c l) cs k = ck at *
      generalize (Lib.cut (rst c l k) [c]).2.1 = s2 at *
      generalize str (Lib.cut (rst c l k) [c]).1 = s1 at *
      generalize av s1.data.toList = v at *
      generalize str (rst c l k) = S at *
      go_wp2_with fail
      refine (HC1.out wr (HE.out wr HBk.out)).mono ?_
      rintro e w2 ⟨b, rfl, hb2⟩
      have HB2 := Lib.hid (HBk.out.trans (hb2.mono (Nat.le_trans hB (Nat.le_of_lt hlt0))))
      have HG2 := Lib.hid ((hb2.block g hlt0).trans HG.out)
      have HR2 := Lib.hid (HRk.out.below hb2)
      clear hb2 hc0 HBk HG HRk
      go_wp2_with fail
      refine (HI1.out w2 (HE.out w2 HB2.out)).mono ?_
      rintro e w3 ⟨x, rfl, hb3⟩
      have hlt2 := (Array.getElem?_eq_some_iff.1 HG2.out).1
      have HB3 := Lib.hid (HB2.out.trans (hb3.mono (Nat.le_trans hB (Nat.le_of_lt hlt2))))
      have hg3 := (hb3.block g hlt2).trans HG2.out
      have HG3 := Lib.hid hg3
      have HR3 := Lib.hid (HR2.out.below hb3)
      obtain ⟨old, hold⟩ : ∃ v, ck[o]? = some v := ⟨_, Array.getElem?_eq_getElem (by rw [hsz]; exact hos)⟩
      have hc1 := cell_blk hg3 o hold
      have hf1 := frz_blk hg3 o
      clear hb3 hg3 hold HB2 HG2 HR2
      go_wp2_with fail
      go_roundw
      case rel =>
        refine ⟨k + 1, by go_num, by omega, by rw [← HRs.out], HB3.out.setCell hB _, ?_, HR3.out.setCell (fun q hq => HA.out q hq) _⟩
        rw [HP.out, ← HF.out]
        exact heap_setCell_same w3 g o ck _ _ HG3.out
      case measure => simp [intOf]; omega
    · obtain rfl : k = n := by omega
      go_wp2_with fail
      go_end0
      exact ⟨rfl, HG.out, HBk.out⟩
set_option maxRecDepth 100000 in
set_option maxHeartbeats 1000000 in
theorem takeDate_any (l : List UInt8) (o g B : Nat) (T : TypeId) (cs : Array Value) (w : World) (hl : l.length ≤ 1000)
    (hg : w.heap[g]? = some (.cells cs T (0, 0))) (hB : B ≤ g) (hoff : o + 2 < cs.size) (hE : ∀ W, Below B w W → En W) :
    Calls Tryz.prog 56 #[.string (str l), .pointer (some ⟨g, o, none⟩)] w fun e w' => e = .returned (.tuple #[]) ∧ w'.heap[g]? = some (.cells (putF [o, o + 1, o + 2] (fld 45 l) cs 3) T (0, 0)) ∧ Below B w w' := by
  have hlt := (Array.getElem?_eq_some_iff.1 hg).1
  have hb0 : Below B w (w.drew.alloc (.cells (ptrs g [o, o + 1, o + 2]).toArray 98)) := ((Below.refl B w).drew).alloc (by simp; omega) _
  have hr := Rd.block (heap_alloc_new w.drew (.cells (ptrs g [o, o + 1, o + 2]).toArray 98))
  have hg1 := (Below.heap_alloc w.drew (.cells (ptrs g [o, o + 1, o + 2]).toArray 98) g hlt).trans hg
  have HT := Lib.hid (take_any l 45 { data := #[45] } _ [o, o + 1, o + 2] 3 3 g B T cs _ rfl hl rfl (by omega) (by omega) (by omega) hr (fun p hp => by cases hp; show w.drew.heap.size ≠ g; have : w.drew.heap.size = w.heap.size := rfl; omega) hg1 hB (fun x hx => by simp at hx; omega) (fun W hW => hE W (hb0.trans hW)))
  have HB := Lib.hid hb0
  clear hlt hb0 hr hg1 hE hoff hg hl
  unfold ptrs at HT HB
  simp only [List.map_cons, List.map_nil] at HT HB
  go_enter Tryz.func56, Tryz.ntmps56
  go_wp2_with fail
  go_region_held3 (fun _ => True) (exact trivial)
    (first
      | (go_at_call 55
         refine HT.out.mono ?_
         rintro e w1 ⟨rfl, hg1, hb1⟩))
  all_goals
    have HG1 := Lib.hid hg1
    have HB1 := Lib.hid (HB.out.trans hb1)
    clear hg1 hb1
    go_wp2_with fail
    go_end0
    exact ⟨rfl, HG1.out, HB1.out⟩
end Go.Proofs.YtjfmnflcgenpaaaGreatDoor

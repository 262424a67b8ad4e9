/- Contracts: tell: a field's line; the Builder's Len. -/
import Derived.Test.YtbeehedppofpnaaGreatDoorBkMem
import Derived.Test.YtbeehedppofpnaaGreatDoorLxB
namespace Go.Proofs.YtbeehedppofpnaaGreatDoor
open Go.RowKit

theorem str_cat (a b : Tx) : (str a : ByteArray) ++ str b = str (a ++ b) := by
  apply ByteArray.ext
  simp [str]
def TeP (f : MF) (w : World) (e : Ending) (w' : World) : Prop := e = .returned (.string (str (lineF (zF f)))) ∧ Below w.heap.size w w'
theorem teP {f : MF} {w w' : World} {S : ByteArray} (h : S = str (lineF (zF f))) (hb : Below w.heap.size w w') : TeP f w (.returned (.string S)) w' := ⟨by rw [h], hb⟩
set_option maxHeartbeats 1000000 in
set_option maxRecDepth 100000 in
theorem tell_any (f : MF) (w : World) (hl : f.2.1.length ≤ 100000) (hv : f.2.2.length ≤ 100000) :
    Calls Tryz.prog 28 #[.agg #[.int .i64 f.1, .string (str f.2.1), .string (str f.2.2)]] w (TeP f w) := by
  have hs1 : (str f.2.1).size ≤ 100000 := hl
  have hs2 : (str f.2.2).size ≤ 100000 := hv
  by_cases h0 : f.2.2 = []
  · have HR : Hid (str f.2.1 = str (lineF (zF f))) := by
      unfold Hid lineF
      rw [if_pos (show (zF f).2.2 = [] from h0)]
      rfl
    have hE := str_ne8 (l := f.2.2) (b := true) (by rw [h0]; rfl)
    generalize f.1 = a at *
    generalize str f.2.1 = S at *
    generalize str f.2.2 = X at *
    clear hl hv h0
    go_enter Tryz.func28, Tryz.ntmps28
    go_wp2_with fail
    go_ret
    exact teP HR.out ((Below.refl _ _).alloc (Nat.le_refl _) _)
  · have HR : Hid (str f.2.1 ++ str [32] ++ str f.2.2 = str (lineF (zF f))) := by
      unfold Hid lineF
      rw [if_neg (show ¬ (zF f).2.2 = [] from h0), str_cat, str_cat]
      rfl
    have hE := str_ne8 (l := f.2.2) (b := false) (by cases hx : f.2.2; exact absurd hx h0; rfl)
    generalize f.1 = a at *
    generalize str f.2.1 = S at *
    generalize str f.2.2 = X at *
    clear hl hv h0
    go_enter Tryz.func28, Tryz.ntmps28
    go_wp2_with fail
    go_ret
    exact teP HR.out ((Below.refl _ _).alloc (Nat.le_refl _) _)
set_option maxHeartbeats 1000000 in
set_option maxRecDepth 100000 in
theorem bdLen (B b : Nat) (l : Tx) (w : World) (h : Bd B b l w) (hl : l.length ≤ 140737488355328) :
    Calls Tryz.prog 29 #[.pointer (some ⟨b, 0, none⟩)] w fun e w' => e = .returned (.int .i64 (l.length : Int)) ∧ w = w' := by
  obtain ⟨p, v, hb, A, c, rfl⟩ : ∃ p v, w.heap[b]? = some (.cells #[p, v] 80 (0, 0)) ∧ ∃ A c, v = .slice A l.length c := by
    rcases h with ⟨hB, v, hb, hown, _⟩ | ⟨hB, v, hb, hown, _⟩
    · refine ⟨_, v, hb, ?_⟩
      rcases hown.2 with ⟨hv, h0⟩ | ⟨g, cap, cur, fz, hv, _⟩
      · rw [Lib.byteCells_length] at h0
        exact ⟨none, 0, by rw [h0]; exact hv⟩
      · rw [Lib.byteCells_length] at hv
        exact ⟨_, _, hv⟩
    · refine ⟨_, v, hb, ?_⟩
      rcases hown.2 with ⟨hv, h0⟩ | ⟨g, cap, cur, fz, hv, _⟩
      · rw [Lib.byteCells_length] at h0
        exact ⟨none, 0, by rw [h0]; exact hv⟩
      · rw [Lib.byteCells_length] at hv
        exact ⟨_, _, hv⟩
  have c1 : w.cell? ⟨b, 1, none⟩ = some (.slice A l.length c) := by rw [Lib.cell_of_heap hb]; rfl
  generalize l.length = n at *
  clear h hb
  go_enter Tryz.func29, Tryz.ntmps29
  go_wp2_with fail
  go_ret
  exact ⟨rfl, rfl⟩
end Go.Proofs.YtbeehedppofpnaaGreatDoor

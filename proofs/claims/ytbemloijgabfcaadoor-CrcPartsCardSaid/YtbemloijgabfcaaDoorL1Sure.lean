/- Layer 1's law package: num and sure by contracts. -/
import Derived.Test.YtbemloijgabfcaaDoorCrcC
import Derived.Test.YtbemloijgabfcaaDoorErr
import Derived.Lib.SlBytesConst
namespace Go.Proofs.YtbemloijgabfcaaDoor
open Go.RowKit

theorem num_nil (w : World) : Calls Tryd.prog 18 #[.nilIface] w fun e w' => e = .returned (.int .i64 0) ∧ Below w.heap.size w w' := by
  go_enter Tryd.func18, Tryd.ntmps18
  go_wp2_with fail
  go_ret
  exact ⟨rfl, (Below.refl _ _).alloc (Nat.le_refl _) _⟩
set_option maxHeartbeats 1000000 in
theorem num_err (n : Int) (w : World) (hg : ErrT w) : Calls Tryd.prog 18 #[.iface 43 (.int .i64 n)] w fun e w' => e = .returned (.int .i64 n) ∧ Below w.heap.size w w' := by
  have HG := Lib.hid hg
  clear hg
  go_enter Tryd.func18, Tryd.ntmps18
  go_wp2_with fail
  refine (as_any n ⟨w.heap.size, 0, none⟩ (.int .i64 0) w.heap.size _ (HG.out.below ((Below.refl _ _).alloc (Nat.le_refl _) _)) (by simp) (by simp) (Nat.le_refl _)).mono ?_
  rintro e w' ⟨rfl, hb, hc⟩
  go_wp2_with fail
  go_ret
  exact ⟨rfl, ((Below.refl _ w).alloc (Nat.le_refl _) _).trans hb⟩

theorem sum_123 : more 0 [49, 50, 51, 52, 53, 54, 55, 56, 57] = 3421780262 := by decide +kernel
set_option maxHeartbeats 1000000 in
theorem sure_any (w : World) (ht : Tab w) : Calls Tryd.prog 10 #[] w fun e w' => e = .returned (.bool true) ∧ Below w.heap.size w w' := by
  have HT := Lib.hid ht
  clear ht
  have kc := fun (w : World) (C : Array Value) (n c : Nat) => Lib.run_convert_bytes_const (P := Tryd.prog) w 22 5 C n c Tryd.underlying22 Tryd.underlying5
  go_enter Tryd.func10, Tryd.ntmps10
  go_wp2_with fail
  refine (seal_n _ 2 2 [97, 98] _ rfl (HT.out.below ((Below.refl _ _).alloc (Nat.le_refl _) _)) (Rd.block (cs := #[.int .u8 97, .int .u8 98]) (heap_alloc_new _ _)) (by omega)).mono ?_
  rintro e w1 ⟨v1, rfl, hown1, hb1⟩
  obtain ⟨A1, c1, rfl, hc1, _, _, hR1, _⟩ := owns_form hown1
  have HB1 := Lib.hid (((Below.refl w.heap.size w).alloc (Nat.le_refl _) _).trans (hb1.mono (by simp)))
  have HR1 := Lib.hid hR1
  clear hb1 hR1 hown1
  go_wp2_with fail
  refine (open_sealed A1 6 c1 [97, 98] _ rfl (HT.out.below HB1.out) HR1.out (by omega) hc1).mono ?_
  rintro e w2 ⟨v2, rfl, hown2, hb2⟩
  obtain ⟨A2, c2, rfl, hc2, _, _, hR2, _⟩ := owns_form hown2
  have HB2 := Lib.hid (HB1.out.trans (hb2.mono HB1.out.size))
  have HR2 := Lib.hid hR2
  clear hb2 hR2 hown2
  have q1 : ((str [97, 98]).toList == [97, 98]) = true := by rw [str_toList]; rfl
  have cv := run_conv_str (P := Tryd.prog) (w := w2.alloc (.cells #[.int .u8 49, .int .u8 50, .int .u8 51, .int .u8 52, .int .u8 53, .int .u8 54, .int .u8 55, .int .u8 56, .int .u8 57] 5 (9, 10))) Tryd.underlying22 Tryd.underlying5 Tryd.underlying9 (n := 2) (c := c2) (l := [97, 98]) rfl (HR2.out.alloc _)
  go_wp2_with fail
  refine (sum_n _ 9 9 [49, 50, 51, 52, 53, 54, 55, 56, 57] _ rfl (HT.out.below (HB2.out.alloc HB2.out.size _)) (Rd.block (cs := #[.int .u8 49, .int .u8 50, .int .u8 51, .int .u8 52, .int .u8 53, .int .u8 54, .int .u8 55, .int .u8 56, .int .u8 57]) (heap_alloc_new _ _)) (by unfold maxLen; omega)).mono ?_
  rintro e w3 ⟨he, rfl⟩
  rw [sum_123] at he
  subst he
  go_wp2_with fail
  go_ret
  exact ⟨rfl, HB2.out.alloc HB2.out.size _⟩
end Go.Proofs.YtbemloijgabfcaaDoor

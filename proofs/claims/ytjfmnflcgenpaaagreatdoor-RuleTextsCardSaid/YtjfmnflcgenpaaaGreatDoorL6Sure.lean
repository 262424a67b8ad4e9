/- Layer 6's law package: sure by a contract. -/
import Derived.Test.YtjfmnflcgenpaaaGreatDoorRlL
namespace Go.Proofs.YtjfmnflcgenpaaaGreatDoor
open Go.RowKit

def rS : Rl := ⟨2, 5, -1, 1, 0, 0, 0, 0, 0, 0⟩
theorem itoa_s (n : Nat) (h : n < 10) : Lib.itoa (n : Int) = [UInt8.ofNat (48 + n)] := by rw [itoa_nn, Lib.decDigits_one h]
theorem tx_s : tx rS = [110, 116, 104, 32, 53, 32, 45, 49, 32, 49] := by
  have e5 : Lib.itoa 5 = [53] := itoa_s 5 (by omega)
  have e1 : Lib.itoa 1 = [49] := itoa_s 1 (by omega)
  have em : Lib.itoa (-1) = [45, 49] := by
    have := itoa_neg 1 (by omega)
    rw [Lib.decDigits_one (by omega)] at this
    exact this
  unfold tx rS
  simp only [show ((2 : Int) = 0) = False by simp, show ((2 : Int) = 1) = False by simp, if_true, if_false, e5, e1, em]
  rfl
theorem may_s : mayR rS = true := by decide
theorem pr_s : pr [110, 116, 104, 32, 53, 32, 45, 49, 32, 49] = some rS := by
  have := pr_tx may_s
  rwa [tx_s] at this
set_option maxRecDepth 100000 in
set_option maxHeartbeats 2000000 in
theorem sure_any (w : World) (hE : En w) : Calls Tryz.prog 11 #[] w fun e w' => e = .returned (.bool true) ∧ Below w.heap.size w w' := by
  have H1 := Lib.hid (parse_any [110, 116, 104, 32, 53, 32, 45, 49, 32, 49] w (by decide) hE)
  rw [pr_s] at H1
  have H2 := Lib.hid (fun W (hT : Tab W) => match_yes rS 2026 5 30 20603 W hT ⟨by omega, by omega, by omega, by decide⟩ (by decide) (by omega) (by omega) may_s)
  have hh : hitsR rS 2026 5 30 20603 = false := by decide
  rw [hh] at H2
  have HQ := eqlR rS rS
  rw [decide_eq_true rfl] at HQ
  have e1 : str [110, 116, 104, 32, 53, 32, 45, 49, 32, 49] = { data := #[110, 116, 104, 32, 53, 32, 45, 49, 32, 49] } := rfl
  rw [e1] at H1
  have HE := Lib.hid hE
  clear hE hh e1
  unfold ansR at H1
  simp only at H1
  rw [errE_zero] at H1
  unfold rS rv at *
  simp only at H1 H2 HQ
  go_enter Tryz.func11, Tryz.ntmps11
  go_wp2_with fail
  refine H1.out.mono ?_
  rintro e w1 ⟨rfl, hb1⟩
  have HB1 := Lib.hid (hb1.alloc hb1.size (.cells #[.int .i64 2, .int .i64 5, .int .i64 (-1), .int .i64 1, .int .i64 0, .int .i64 0, .int .i64 0, .int .i64 0, .int .i64 0, .int .i64 0] 32))
  have G1 := Lib.hid (heap_alloc_new w1 (.cells #[.int .i64 2, .int .i64 5, .int .i64 (-1), .int .i64 1, .int .i64 0, .int .i64 0, .int .i64 0, .int .i64 0, .int .i64 0, .int .i64 0] 32))
  clear hb1 H1
  go_wp2_with fail
  refine (H2.out _ (HE.out.below HB1.out).tab).mono ?_
  rintro e w2 ⟨rfl, hb2⟩
  have HB2 := Lib.hid (HB1.out.trans (hb2.mono HB1.out.size))
  have hg2 := (hb2.block w1.heap.size (by simp)).trans G1.out
  have K0 := cell_blk hg2 0 (v := .int .i64 2) rfl
  have K1 := cell_blk hg2 1 (v := .int .i64 5) rfl
  have K2 := cell_blk hg2 2 (v := .int .i64 (-1)) rfl
  have K3 := cell_blk hg2 3 (v := .int .i64 1) rfl
  have K4 := cell_blk hg2 4 (v := .int .i64 0) rfl
  have K5 := cell_blk hg2 5 (v := .int .i64 0) rfl
  have K6 := cell_blk hg2 6 (v := .int .i64 0) rfl
  have K7 := cell_blk hg2 7 (v := .int .i64 0) rfl
  have K8 := cell_blk hg2 8 (v := .int .i64 0) rfl
  have K9 := cell_blk hg2 9 (v := .int .i64 0) rfl
  clear hb2 hg2 H2
  go_wp2_with fail
  go_ret
  exact ⟨rfl, HB2.out⟩
end Go.Proofs.YtjfmnflcgenpaaaGreatDoor

/- Layer 9's law package: sure by contracts. -/
import Derived.Test.YtbeehedppofpnaaGreatDoorBkP
namespace Go.Proofs.YtbeehedppofpnaaGreatDoor
open Go.RowKit

def exText9 : Tx := [100, 101, 102, 105, 110, 101, 32, 104, 111, 115, 116, 32, 123, 10, 32, 32, 110, 97, 109, 101, 32, 97, 10, 125, 10]
theorem ex_parse9 : parseT exText9 = ([(1, [104, 111, 115, 116], [(2, [110, 97, 109, 101], [97])])], 0, 0) := by kernel_rfl
theorem ret_true9 {w w' : World} (h : Below w.heap.size w w') : Ending.returned (.bool true) = .returned (.bool true) ∧ Below w.heap.size w w' := ⟨rfl, h⟩
set_option maxHeartbeats 2000000 in
set_option maxRecDepth 100000 in
theorem sure_any9 (w : World) (hm : Mx w) (hg : ErrT w) : Calls Tryz.prog 6 #[] w fun e w' => e = .returned (.bool true) ∧ Below w.heap.size w w' := by
  have HL := Lib.hid (fun W h1 h2 => parse_any exText9 W (by decide) h1 h2)
  have HM := Lib.hid (And.intro hm hg)
  rw [ex_parse9] at HL
  clear hm hg
  go_enter Tryz.func6, Tryz.ntmps6
  go_wp2_with fail
  refine (HL.out _ HM.out.1 HM.out.2).mono ?_
  rintro e w1 ⟨v, rfl, hrow, hb1⟩
  obtain ⟨A, c, rfl, hr⟩ := hrow.form
  have hlen : (List.map iB [(1, [104, 111, 115, 116], [(2, [110, 97, 109, 101], [97])])]).length = 1 := rfl
  rw [hlen] at hr ⊢
  obtain ⟨ad, X, vF, rfl, hX, k0, k1, k2, hrf⟩ := hr.parts.2.2.2 0 (by decide) _ rfl
  obtain ⟨AF, cF, rfl, hrF⟩ := hrf.form
  have hlenF : (iB (1, [104, 111, 115, 116], [(2, [110, 97, 109, 101], [97])])).2.2.length = 1 := rfl
  rw [hlenF] at hrF k2
  obtain ⟨ad2, X2, rfl, hX2, f0, f1, f2⟩ := hrF.parts.2.2.2 0 (by decide) _ rfl
  rw [errE_zero]
  have e1 : (ad.add (0 * 3)) = ad := by cases ad; simp [Addr.add]
  have e2 : (ad2.add (0 * 3)) = ad2 := by cases ad2; simp [Addr.add]
  rw [e1] at hX
  rw [e2] at hX2
  subst hX hX2
  have t1 : (str [104, 111, 115, 116]).toList = [104, 111, 115, 116] := str_toList _
  have g0 : w1.cell? ad = some (.int .i64 1) := k0
  have g1 : w1.cell? { block := ad.block, off := ad.off + 1 } = some (.string (str [104, 111, 115, 116])) := k1
  have h0 : w1.cell? ad2 = some (.int .i64 2) := f0
  have h1 : w1.cell? { block := ad2.block, off := ad2.off + 1 } = some (.string (str [110, 97, 109, 101])) := f1
  have h2 : w1.cell? { block := ad2.block, off := ad2.off + 2 } = some (.string (str [97])) := f2
  have t2 : str [110, 97, 109, 101] = { data := #[110, 97, 109, 101] } := rfl
  have t3 : str [97] = { data := #[97] } := rfl
  rw [t2] at h1
  rw [t3] at h2
  have HB := Lib.hid (hb1.alloc hb1.size (.cells #[.int .i64 0, .int .i64 0] 26))
  have hal := (Below.refl w1.heap.size w1).alloc (Nat.le_refl _) (.cells #[.int .i64 0, .int .i64 0] 26)
  have g0 := cell9_below g0 hal
  have g1 := cell9_below g1 hal
  have k2 := cell9_below k2 hal
  have h0 := cell9_below h0 hal
  have h1 := cell9_below h1 hal
  have h2 := cell9_below h2 hal
  clear hal
  clear hb1 hr hrf hrF hrow k0 k1 f0 f1 f2 e1 e2 hlen hlenF t2 t3
  go_wp2_with fail
  go_ret
  exact ret_true9 HB.out
end Go.Proofs.YtbeehedppofpnaaGreatDoor

/- ValueOptions' walk. -/
import Derived.Test.YtencapplbedcmaaGreatDoorVaSu
import Derived.Test.YtencapplbedcmaaGreatDoorVaR8
namespace Go.Proofs.YtencapplbedcmaaGreatDoor
open Go.RowKit

set_option maxHeartbeats 4000000 in
set_option maxRecDepth 100000 in
theorem valueOptions_any (s1 s2 : ByteArray) (b : Int) (w : World) (hg : ErrT w) (he : EsV w) (hs1 : s1.size ≤ maxLen) (hs2 : s2.size ≤ maxLen) (hb : -9223372036854775808 ≤ b ∧ b ≤ 9223372036854775807) :
    Calls Tryz.prog 5 #[.string s1, .string s2, .int .i64 b] w fun e w' => e = .returned (.bool true) ∧ Below w.heap.size w w' := by
  obtain ⟨p, hp⟩ : ∃ p, s1.size = p := ⟨_, rfl⟩
  obtain ⟨q, hq⟩ : ∃ q, s2.size = q := ⟨_, rfl⟩
  have hp63 : p ≤ 9223372036854775807 := by rw [← hp]; exact hs1
  have hq63 : q ≤ 9223372036854775807 := by rw [← hq]; exact hs2
  have HSu := Lib.hid (fun W h => sure_any W h)
  have HEs : Hid (∀ W, Below w.heap.size w W → ErrT W ∧ EsV W) := fun W hb => ⟨hg.below hb, he.below hb⟩
  by_cases hbig : 300 < p ∨ 100 < q
  · have HSe := Lib.hid (HSu.out w (HEs.out w (Below.refl _ _)).2)
    clear hg he hs1 hs2 hb
    by_cases h5 : 300 < p
    case' pos => have d1 : (300 : Int) < p := by omega
    case' neg =>
      have d1 : ¬ (300 : Int) < p := by omega
      have d2 : (100 : Int) < q := by omega
    all_goals
      clear hbig h5
      go_enter Tryz.func5, Tryz.ntmps5
      go_wp2_with fail
      with_reducible refine HSe.out.mono ?_
      rintro e w2 ⟨rfl, hb⟩
      have HB := Lib.hid hb
      clear hb
      go_wp2_with fail
      go_ret
      exact ret_trueV HB.out
  · obtain ⟨l, hl⟩ : ∃ l : Tx, l = s1.data.toList := ⟨_, rfl⟩
    obtain ⟨L, hL⟩ : ∃ l : Tx, l = s2.data.toList := ⟨_, rfl⟩
    have hsl : s1 = str l := by rw [hl]; exact (str_of s1).symm
    have hsL : s2 = str L := by rw [hL]; exact (str_of s2).symm
    have hln : l.length ≤ 300 := by rw [hl, ← Lib.size_eq, hp]; omega
    have hLn : L.length ≤ 100 := by rw [hL, ← Lib.size_eq, hq]; omega
    have HO := Lib.hid (fun W => options_any l L W (by omega) (by omega))
    have HRo := Lib.hid (fun W => refOptions_any l L W (by omega) (by omega))
    have HLt := Lib.hid (fun W => letters_any b L W (by omega) hb.1 hb.2)
    have HRl := Lib.hid (fun W => refLetters_any b L W (by omega) hb.1 hb.2)
    rw [← hsl, ← hsL] at HO HRo
    rw [← hsL] at HLt HRl
    unfold OpE at HO
    unfold RoE at HRo
    unfold JoE at HLt
    unfold RjE at HRl
    generalize (optT l L).1 = o1 at *
    generalize (optT l L).2 = k1 at *
    generalize (letT b L).1 = t1 at *
    generalize (letT b L).2 = k2 at *
    generalize str t1 = SJ at *
    have HN1 := Lib.hid (fun W h => num_E k1 W h)
    have HN2 := Lib.hid (fun W h => num_E k2 W h)
    generalize errE k1 = E1 at *
    generalize errE k2 = E2 at *
    have d1 : ¬ (300 : Int) < p := by omega
    have d2 : ¬ (100 : Int) < q := by omega
    clear hg he hs1 hs2 hb hbig hl hL hsl hsL hln hLn
    go_enter Tryz.func5, Tryz.ntmps5
    go_wp2_with fail
    with_reducible refine (HO.out _).mono ?_
    rintro e w2 ⟨rfl, hb⟩
    have HB2 := Lib.hid hb
    clear hb
    go_wp2_with fail
    with_reducible refine (HRo.out _).mono ?_
    rintro e w3 ⟨rfl, hb⟩
    have HB3 := Lib.hid (HB2.out.trans (hb.mono HB2.out.size))
    clear hb
    go_wp2_with fail
    with_reducible refine (HLt.out _).mono ?_
    rintro e w4 ⟨rfl, hb⟩
    have HB4 := Lib.hid (HB3.out.trans (hb.mono HB3.out.size))
    clear hb
    go_wp2_with fail
    with_reducible refine (HRl.out _).mono ?_
    rintro e w5 ⟨rfl, hb⟩
    have HB5 := Lib.hid (HB4.out.trans (hb.mono HB4.out.size))
    clear hb
    go_wp2_with fail
    with_reducible refine (HN1.out _ (HEs.out _ HB5.out).1).mono ?_
    rintro e w6 ⟨rfl, hb⟩
    have HB6 := Lib.hid (HB5.out.trans (hb.mono HB5.out.size))
    clear hb
    go_wp2_with fail
    with_reducible refine (HN2.out _ (HEs.out _ HB6.out).1).mono ?_
    rintro e w7 ⟨rfl, hb⟩
    have HB7 := Lib.hid (HB6.out.trans (hb.mono HB6.out.size))
    clear hb
    go_wp2_with fail
    with_reducible refine (HSu.out _ (HEs.out _ HB7.out).2).mono ?_
    rintro e w8 ⟨rfl, hb⟩
    have HB8 := Lib.hid (HB7.out.trans (hb.mono HB7.out.size))
    clear hb
    go_wp2_with fail
    go_ret
    exact ret_trueV HB8.out
end Go.Proofs.YtencapplbedcmaaGreatDoor

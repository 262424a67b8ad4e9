/- Law BlockTexts: its walk. -/
import Derived.Test.YtbeehedppofpnaaGreatDoorL9Back
import Derived.Test.YtbeehedppofpnaaGreatDoorL9Num
import Derived.Test.YtbeehedppofpnaaGreatDoorBkRT
namespace Go.Proofs.YtbeehedppofpnaaGreatDoor
open Go.RowKit

/-- The document's Text by the plain answer. -/
theorem refText_by {L : List MB} {t : Tx} {k : Nat} (hq : textT (L.map zB) = (t, k)) (hl : L.length ≤ 60) (hs : ∀ b ∈ L, Smal 9000 b) (v : Value) (W : World) (hv : RowB W v L) :
    Calls Tryz.prog 14 #[v] W fun e w' => e = .returned (.tuple #[.string (str t), .int .i64 (k : Int)]) ∧ Below W.heap.size W w' := by
  have h := refText_any v L W hl hs hv
  unfold RtP at h
  rw [hq] at h
  exact h
set_option maxHeartbeats 8000000 in
set_option maxRecDepth 100000 in
theorem texts_walk (L : List MB) (v : Value) (w : World) (hm : Mx w) (hg : ErrT w) (hset : RowB w v L) :
    Calls Tryz.prog 4 #[v] w fun e w' => e = .returned (.bool true) ∧ Below w.heap.size w w' := by
  have hL : L.length ≤ 9223372036854775807 := by
    obtain ⟨A, c, rfl, hr⟩ := hset.form
    exact Nat.le_trans hr.parts.2.1 (Nat.le_trans hr.parts.2.2.1 (by decide))
  have HLg := Lib.hid (large_any v L w hL hset)
  have HSu := Lib.hid (fun W h1 h2 => sure_any9 W h1 h2)
  have HM := Lib.hid (And.intro hm (And.intro hg hset))
  have HN0 := Lib.hid (fun k W h => num_E k W h)
  have HSm := Lib.hid (fun W v1 v2 (h1 : RowB W v1 L) (h2 : RowB W v2 L) => same_any v1 v2 true L L W h1 h2 (Sm.refl _ _))
  clear hm hg hset hL
  go_enter Tryz.func4, Tryz.ntmps4
  go_wp2_with fail
  with_reducible refine HLg.out.mono ?_
  rintro e w1 ⟨B, rfl, hb, himp⟩
  have HB1 := Lib.hid hb
  have HI := Lib.hid himp
  clear hb himp HLg
  cases B
  case true =>
    go_wp2_with fail
    with_reducible refine (HSu.out _ (HM.out.1.below HB1.out) (HM.out.2.1.below HB1.out)).mono ?_
    rintro e w2 ⟨rfl, hb⟩
    have HB2 := Lib.hid (HB1.out.trans (hb.mono HB1.out.size))
    clear hb
    go_wp2_with fail
    go_ret
    exact ret_true9 HB2.out
  case false =>
    have HIf := Lib.hid (HI.out rfl)
    have HGv := Lib.hid (fun W v (hv : RowB W v L) => give_any v L W (by have := HIf.out.1; omega) (fun b hb => by have := (HIf.out.2 b hb).1; omega) hv)
    rcases hq0 : textT (L.map zB) with ⟨t0, k0⟩
    have HT0 := Lib.hid (fun W v hv => text_by hq0 (by have := HIf.out.1; omega) HIf.out.2 v W hv)
    have HT1 := Lib.hid (fun W v hv => refText_by hq0 HIf.out.1 HIf.out.2 v W hv)
    have HNe := Lib.hid (HN0.out k0)
    obtain ⟨E, hE⟩ : ∃ E, errE k0 = E := ⟨_, rfl⟩
    obtain ⟨T0, hT0⟩ : ∃ x, str t0 = x := ⟨_, rfl⟩
    rw [hE] at HNe HT0
    rw [hT0] at HT0 HT1
    clear hq0 hE hT0
    go_wp2_with fail
    with_reducible refine (HGv.out _ _ (HM.out.2.2.below HB1.out)).mono ?_
    rintro e w2 ⟨v2, rfl, hrow, hb⟩
    have HB2 := Lib.hid (HB1.out.trans (hb.mono HB1.out.size))
    have HR2 := Lib.hid hrow
    clear hb hrow HGv
    go_wp2_with fail
    with_reducible refine (HT0.out _ _ HR2.out).mono ?_
    rintro e w3 ⟨rfl, hb⟩
    have HB3 := Lib.hid (HB2.out.trans (hb.mono HB2.out.size))
    have HR3 := Lib.hid (HR2.out.below hb)
    clear hb
    go_wp2_with fail
    with_reducible refine (HT1.out _ _ (HM.out.2.2.below HB3.out)).mono ?_
    rintro e w4 ⟨rfl, hb⟩
    have HB4 := Lib.hid (HB3.out.trans (hb.mono HB3.out.size))
    have HR4 := Lib.hid (HR3.out.below hb)
    clear hb
    have t1 : ((k0 : Int) == (k0 : Int)) = true := beq_self_eq_true _
    go_wp2_with fail
    with_reducible refine (HNe.out _ (HM.out.2.1.below HB4.out)).mono ?_
    rintro e w5 ⟨rfl, hb⟩
    have HB5 := Lib.hid (HB4.out.trans (hb.mono HB4.out.size))
    have HR5 := Lib.hid (HR4.out.below hb)
    clear hb
    go_wp2_with fail
    with_reducible refine (HSm.out _ _ _ HR5.out (HM.out.2.2.below HB5.out)).mono ?_
    rintro e w6 ⟨rfl, hb⟩
    have HB6 := Lib.hid (HB5.out.trans (hb.mono HB5.out.size))
    clear hb
    go_wp2_with fail
    with_reducible refine (HSu.out _ (HM.out.1.below HB6.out) (HM.out.2.1.below HB6.out)).mono ?_
    rintro e w7 ⟨rfl, hb⟩
    have HB7 := Lib.hid (HB6.out.trans (hb.mono HB6.out.size))
    clear hb
    go_wp2_with fail
    go_ret
    exact ret_true9 HB7.out
end Go.Proofs.YtbeehedppofpnaaGreatDoor

/- Contract: Day. -/
import Derived.Test.YtlogapkpllgdcaaGreatDoorPdFi
import Derived.Test.YtlogapkpllgdcaaGreatDoorPdMo
namespace Go.Proofs.YtlogapkpllgdcaaGreatDoor
open Go.RowKit

/-- The error of Day. -/
noncomputable def errD (l : List Prd) (i day : Int) : Int := if err7 l i = 0 then (if day < -70368744177664 ∨ 70368744177664 < day then 1 else 0) else err7 l i
theorem errD_zero {l : List Prd} {i day : Int} (h : errD l i day = 0) : err7 l i = 0 ∧ -70368744177664 ≤ day ∧ day ≤ 70368744177664 := by
  unfold errD at h
  split at h
  · rename_i h1
    split at h
    · omega
    · omega
  · rename_i h1
    exact absurd h h1
theorem may_nil : mayR Rl.nil = true := by decide
set_option maxRecDepth 100000 in
set_option maxHeartbeats 1000000 in
theorem day_no (l : List Prd) (v : Value) (i day : Int) (w : World) (ht : Tab w) (hset : HPd w v l) (he : errD l i day ≠ 0) :
    Calls Tryz.prog 16 #[v, .int .i64 i, .int .i64 day] w fun e w' => e = .returned (.tuple #[.slice none 0 0, errE (errD l i day)]) ∧ Below w.heap.size w w' := by
  have HH := Lib.hid (has_any l v i w ht hset)
  rw [errE_ne he]
  obtain ⟨A, c, E, U, rfl, _, _, _⟩ := hset
  by_cases h7 : err7 l i = 0
  · have hr : day < -70368744177664 ∨ 70368744177664 < day := by
      by_cases h : day < -70368744177664 ∨ 70368744177664 < day
      · exact h
      · exact absurd (by unfold errD; rw [if_pos h7, if_neg h]) he
    have e1 : errD l i day = 1 := by unfold errD; rw [if_pos h7, if_pos hr]
    rw [e1]
    have HM := Lib.hid (fun W (hW : Below w.heap.size w W) => match_no Rl.nil day W (ht.below hW) (.inr hr))
    rw [h7, errE_zero] at HH
    unfold rv Rl.nil errK at *
    simp only at *
    clear he h7 e1 ht hr
    go_enter Tryz.func16, Tryz.ntmps16
    go_wp2_with fail
    refine HH.out.mono ?_
    rintro e w1 ⟨rfl, hb1⟩
    have HB1 := Lib.hid hb1
    clear hb1
    go_wp2_with fail
    refine (HM.out _ HB1.out).mono ?_
    rintro e w2 ⟨rfl, hb2⟩
    have HB2 := Lib.hid (HB1.out.trans (hb2.mono HB1.out.size))
    clear hb2
    go_wp2_with fail
    go_ret2
    exact ⟨rfl, HB2.out⟩
  · have e1 : errD l i day = err7 l i := by unfold errD; rw [if_neg h7]
    rw [e1]
    rw [errE_ne h7] at HH
    unfold errK at *
    generalize err7 l i = k at *
    clear he h7 e1 ht
    go_enter Tryz.func16, Tryz.ntmps16
    go_wp2_with fail
    refine HH.out.mono ?_
    rintro e w1 ⟨rfl, hb1⟩
    have HB1 := Lib.hid hb1
    clear hb1
    go_wp2_with fail
    go_ret2
    exact ⟨rfl, HB1.out⟩
/-- What Day hands back. -/
def DayS (l : List Prd) (i : Nat) (day : Int) (w : World) (e : Ending) (w' : World) : Prop :=
  ∃ u o, e = .returned (.tuple #[u, .nilIface]) ∧ HSp w' u o ∧ Can (-1) o ∧ (∀ j, j < 86400 → secF l day i j = o.any fun s => inS s j) ∧ Below w.heap.size w w'
set_option maxRecDepth 100000 in
set_option maxHeartbeats 1000000 in
theorem day_ok (l : List Prd) (v : Value) (i : Nat) (day : Int) (w : World) (ht : Tab w) (hz : Tz w) (hset : HPd w v l) (he : errD l i day = 0) :
    Calls Tryz.prog 16 #[v, .int .i64 i, .int .i64 day] w (DayS l i day w) := by
  obtain ⟨h7, hd1, hd2⟩ := errD_zero he
  obtain ⟨hc, hi1, hi2⟩ := err7_zero h7
  obtain ⟨y, m, d, hi, hn⟩ := date_ex day
  have HH := Lib.hid (has_any l v i w ht hset)
  have HM := Lib.hid (fun W (hW : Below w.heap.size w W) => match_yes Rl.nil y m d day W (ht.below hW) hi hn hd1 hd2 may_nil)
  have HF := Lib.hid (fun W (hW : Below w.heap.size w W) => find_any l v W day i (good_of hc) (ht.below hW) (hset.below hW) hd1 hd2 (by omega))
  have HS := Lib.hid (fun W u f (hW : Below w.heap.size w W) (h : HSec W u f) => spans_any u f W (hz.below hW) h)
  rw [h7, errE_zero] at HH
  obtain ⟨A, c, E, U, rfl, _, _, _⟩ := hset
  generalize hitsR Rl.nil y m d day = b at *
  unfold rv Rl.nil at *
  simp only at *
  clear he h7 hc hi1 hi2 hi hn ht hz
  go_enter Tryz.func16, Tryz.ntmps16
  go_wp2_with fail
  refine HH.out.mono ?_
  rintro e w1 ⟨rfl, hb1⟩
  have HB1 := Lib.hid hb1
  clear hb1
  go_wp2_with fail
  refine (HM.out _ HB1.out).mono ?_
  rintro e w2 ⟨rfl, hb2⟩
  have HB2 := Lib.hid (HB1.out.trans (hb2.mono HB1.out.size))
  clear hb2
  go_wp2_with fail
  refine (HF.out _ HB2.out).mono ?_
  rintro e w3 ⟨u, rfl, hu, hb3⟩
  have HB3 := Lib.hid (HB2.out.trans (hb3.mono HB2.out.size))
  have HU := Lib.hid hu
  clear hb3 hu
  go_wp2_with fail
  refine (HS.out _ _ _ HB3.out HU.out).mono ?_
  rintro e w4 ⟨u', o, rfl, h1, h2, h3, hb4⟩
  have HZ := Lib.hid (And.intro h1 (And.intro h2 (And.intro h3 (HB3.out.trans (hb4.mono HB3.out.size)))))
  clear h1 h2 h3 hb4
  go_wp2_with fail
  go_ret2
  exact ⟨_, o, rfl, HZ.out.1, HZ.out.2.1, HZ.out.2.2.1, HZ.out.2.2.2⟩
end Go.Proofs.YtlogapkpllgdcaaGreatDoor

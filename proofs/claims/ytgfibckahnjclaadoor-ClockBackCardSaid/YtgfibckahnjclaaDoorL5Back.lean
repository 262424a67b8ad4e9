/- ClockBack's walk. -/
import Derived.Test.YtgfibckahnjclaaDoorL5Offsets
import Derived.Test.YtgfibckahnjclaaDoorCkL
namespace Go.Proofs.YtgfibckahnjclaaDoor
open Go.RowKit

theorem tmod_day (t : Int) : 0 ≤ (IntKind.u64.wrap t).tmod 86401 ∧ (IntKind.u64.wrap t).tmod 86401 < 86401 := by
  have := u64_nn t
  rw [Int.tmod_eq_emod_of_nonneg this]
  omega
theorem parse_hrs (s : Nat) (w : World) (hs : s ≤ 86400) (hm : Mx w) :
    Calls Tryd.prog 21 #[.string (str (hrs s))] w fun e w' => e = .returned (.tuple #[.int .i64 s, .nilIface]) ∧ Below w.heap.size w w' := by
  have key : Calls Tryd.prog 21 #[.string (str (hrs s))] w (Told (pg (cutAt 58 (str (tx8 (s / 3600) (s / 60 % 60) (s % 60))).data.toList) 0 0) w) := by
    refine parse_two _ _ w hm rfl ?_
    unfold hrs
    split
    · rename_i h0
      refine .inl ⟨rfl, fun W => ?_⟩
      rw [run_string_add_sum W _ _ (by rw [tx5_size]; show 5 + 3 ≤ _; omega), h0]
      rfl
    · exact .inr rfl
  rw [str_data, pg_tx8 _ _ _ (by omega) (by omega) (by omega), show 3600 * (s / 3600) + 60 * (s / 60 % 60) + s % 60 = s by omega] at key
  unfold Told fin at key
  simp only [if_neg (show ¬ 86400 < s by omega)] at key
  rw [errE_zero] at key
  exact key
theorem add_back {a k : Int} (h1 : 0 ≤ a) (h2 : a < 2305843009213693952) (h3 : 0 ≤ k) (h4 : k < 2305843009213693952) : addN a k = a + k ∧ addN (a + k) (-k) = a ∧ addN a 0 = a := by
  unfold addN
  rw [near_in (t := a) h1 (by omega), near_in (t := a + k) (by omega) (by omega), near_in (t := a + k + -k) (by omega) (by omega), near_in (t := a + 0) (by omega) (by omega)]
  omega
set_option maxRecDepth 100000 in
set_option maxHeartbeats 4000000 in
theorem back_any (t o b : Int) (w : World) (ht : Tab w) (hp : Pow w) (hm : Mx w) (_ : -9223372036854775808 ≤ t ∧ t ≤ 9223372036854775807) (_ : -9223372036854775808 ≤ o ∧ o ≤ 9223372036854775807) (_ : -9223372036854775808 ≤ b ∧ b ≤ 9223372036854775807) :
    Calls Tryd.prog 7 #[.int .i64 t, .int .i64 o, .int .i64 b] w fun e w' => e = .returned (.bool true) ∧ Below w.heap.size w w' := by
  have q1 := tmod_day b
  have q2 := tmod61 t
  have q3 := tmod61 b
  obtain ⟨s, hs⟩ : ∃ s : Nat, (IntKind.u64.wrap b).tmod 86401 = s := ⟨((IntKind.u64.wrap b).tmod 86401).toNat, by omega⟩
  obtain ⟨a, ha⟩ : ∃ a, (IntKind.u64.wrap t).tmod 2305843009213693952 = a := ⟨_, rfl⟩
  obtain ⟨k, hk⟩ : ∃ k, (IntKind.u64.wrap b).tmod 2305843009213693952 = k := ⟨_, rfl⟩
  rw [hs] at q1
  rw [ha] at q2
  rw [hk] at q3
  obtain ⟨_, s2⟩ := q1
  obtain ⟨a1, a2⟩ := q2
  obtain ⟨k1, k2⟩ := q3
  obtain ⟨e1, e2, e3⟩ := add_back a1 a2 k1 k2
  have A1 := Lib.hid (fun W => add_any a k W (by omega) (by omega))
  have A2 := Lib.hid (fun W => add_any (a + k) (-k) W (by omega) (by omega))
  have A3 := Lib.hid (fun W => add_any a 0 W (by omega) (by omega))
  rw [e1] at A1
  rw [e2] at A2
  rw [e3] at A3
  have HH := Lib.hid (fun W => hours_ok s W (by omega))
  have HR := Lib.hid (fun W (hW : Mx W) => parse_hrs s W (by omega) hW)
  generalize str (hrs s) = L at *
  have HT := Lib.hid ht
  have HP := Lib.hid hp
  have HM := Lib.hid hm
  have hs86 : (s : Int) ≤ 86400 := by omega
  clear e1 e2 e3 ht hp hm s2
  have hcase : ((0 ≤ t ∧ t ≤ 4611686018427387904) ∧ (-50400 ≤ o ∧ o ≤ 50400)) ∨ ((t < 0 ∨ 4611686018427387904 < t) ∨ (o < -50400 ∨ 50400 < o)) := by omega
  rcases hcase with ⟨⟨h1, h2⟩, h3, h4⟩ | hno
  case' inl =>
    obtain ⟨d, hd⟩ : ∃ d, (t + o) / 86400 = d := ⟨_, rfl⟩
    obtain ⟨z, hz⟩ : ∃ z, (t + o) % 86400 = z := ⟨_, rfl⟩
    have S1 := Lib.hid (split_ok t o d z w h1 h2 h3 h4 hd hz)
    have z1 : 0 ≤ z := by omega
    have z2 : z ≤ 86399 := by omega
    have J1 := Lib.hid (fun W hT => join_yes d z o t W ⟨z1, by omega, by omega, by omega, h3, h4⟩ (by omega) hT)
    have HI := Lib.hid (And.intro h1 h2)
    unfold mo at S1 J1
    clear hd hz h1 h2 h3 h4
    go_enter Tryd.func7, Tryd.ntmps7
    go_wp2_with fail
    refine S1.out.mono ?_
    rintro e w1 ⟨rfl, hb1⟩
    have HB1 := Lib.hid (hb1.alloc hb1.size (.cells #[.int .i64 d, .int .i64 z] 24))
    have G1 := Lib.hid (heap_alloc_new w1 (.cells #[.int .i64 d, .int .i64 z] 24))
    clear hb1 S1
    go_wp2_with fail
    refine (J1.out _ (HT.out.below HB1.out)).mono ?_
    rintro e wz ⟨hyes, _, hbz⟩
    obtain rfl := hyes HI.out
    have HBZ := Lib.hid (HB1.out.trans (hbz.mono HB1.out.size))
    have gz := (hbz.block w1.heap.size (by simp)).trans G1.out
    have cz := cell_blk gz 1 (v := .int .i64 z) rfl
    clear hbz gz hyes J1 HB1 G1 HI
    go_wp2_with fail
  case' inr =>
    have S1 := Lib.hid (split_no t o w hno)
    unfold mo errK at S1
    clear hno
    go_enter Tryd.func7, Tryd.ntmps7
    go_wp2_with fail
    refine S1.out.mono ?_
    rintro e w1 ⟨rfl, hb1⟩
    have hb2 := hb1.alloc hb1.size (.cells #[.int .i64 0, .int .i64 0] 24)
    obtain ⟨wz, hwz⟩ : ∃ wz, w1.alloc (.cells #[.int .i64 0, .int .i64 0] 24) = wz := ⟨_, rfl⟩
    rw [hwz] at hb2
    have HBZ := Lib.hid hb2
    have HW := Lib.hid hwz
    clear hb1 hb2 hwz S1
    go_wp2_with fail
    rw [HW.out]
    clear HW
  all_goals
    refine (HH.out _).mono ?_
    rintro e w' ⟨rfl, rfl⟩
    go_wp2_with fail
    refine (HR.out _ (HM.out.below HBZ.out)).mono ?_
    rintro e w3 ⟨rfl, hb3⟩
    have HB3 := Lib.hid (HBZ.out.trans (hb3.mono HBZ.out.size))
    clear hb3
    go_wp2_with fail
    refine (A1.out _).mono ?_
    rintro e w' ⟨rfl, rfl⟩
    go_wp2_with fail
    refine (A2.out _).mono ?_
    rintro e w' ⟨rfl, rfl⟩
    go_wp2_with fail
    refine (A3.out _).mono ?_
    rintro e w' ⟨rfl, rfl⟩
    go_wp2_with fail
    refine (sure_any _ (HT.out.below HB3.out) (HP.out.below HB3.out)).mono ?_
    rintro e w6 ⟨rfl, hb6⟩
    have HB6 := Lib.hid (HB3.out.trans (hb6.mono HB3.out.size))
    clear hb6
    go_wp2_with fail
    go_ret
    exact ⟨rfl, HB6.out⟩
end Go.Proofs.YtgfibckahnjclaaDoor

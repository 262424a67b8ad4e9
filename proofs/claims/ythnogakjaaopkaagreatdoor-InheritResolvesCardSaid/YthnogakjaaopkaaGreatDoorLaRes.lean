/- Law InheritResolves: its walk. -/
import Derived.Test.YthnogakjaaopkaaGreatDoorLaSz
import Derived.Test.YthnogakjaaopkaaGreatDoorIhSi
import Derived.Test.YthnogakjaaopkaaGreatDoorIhRe
import Derived.Test.YthnogakjaaopkaaGreatDoorBs
import Derived.Deep.Cut
namespace Go.Proofs.YthnogakjaaopkaaGreatDoor
open Go.RowKit

set_option maxHeartbeats 4000000 in
set_option maxRecDepth 100000 in
theorem resolves_walk (L : List MB) (v : Value) (w : World) (hg : ErrT w) (hset : RowB w v L) :
    Calls Tryz.prog 3 #[v] w fun e w' => e = .returned (.bool true) ∧ Below w.heap.size w w' := by
  have hL : L.length ≤ 9223372036854775807 := by
    obtain ⟨A, c, rfl, hr⟩ := hset.form
    exact Nat.le_trans hr.parts.2.1 (Nat.le_trans hr.parts.2.2.1 (by decide))
  have HLg := Lib.hid (large_any v L w hL hset)
  have HSu := Lib.hid (fun W h => sure_any W h)
  obtain ⟨A, c, rfl, hrs⟩ := hset.form
  obtain ⟨n, hn⟩ : ∃ n, L.length = n := ⟨_, rfl⟩
  rw [hn] at hrs hL HLg ⊢
  have HM := Lib.hid (And.intro hg (And.intro hrs hn))
  clear hg hset hrs hn
  go_enter Tryz.func3, Tryz.ntmps3
  go_wp2_with fail
  with_reducible refine HLg.out.mono ?_
  rintro e w1 ⟨B, rfl, hb, himp⟩
  have HB1 := Lib.hid hb
  have HI := Lib.hid himp
  clear hb himp HLg
  cases B
  case true =>
    go_wp2_with fail
    with_reducible refine (HSu.out _ (HM.out.1.below HB1.out)).mono ?_
    rintro e w9 ⟨rfl, hb⟩
    have HB9 := Lib.hid (HB1.out.trans (hb.mono HB1.out.size))
    clear hb
    go_wp2_with fail
    go_ret
    exact ret_trueI HB9.out
  case false =>
    have hIf := HI.out rfl
    rw [HM.out.2.2] at hIf
    have HIf := Lib.hid hIf
    clear hIf
    by_cases h20 : 20 < n
    · have d : (20 : Int) < n := by omega
      clear h20
      go_wp2_with fail
      with_reducible refine (HSu.out _ (HM.out.1.below HB1.out)).mono ?_
      rintro e w9 ⟨rfl, hb⟩
      have HB9 := Lib.hid (HB1.out.trans (hb.mono HB1.out.size))
      clear hb
      go_wp2_with fail
      go_ret
      exact ret_trueI HB9.out
    · have d : ¬ (20 : Int) < n := by omega
      have HSi := Lib.hid (single_any (.slice A n c) L w1 (by rw [HM.out.2.2]; omega) (fun b hb => by have := (HIf.out.2 b hb).1; omega) (HM.out.2.1.below HB1.out))
      go_wp2_with fail
      with_reducible refine HSi.out.mono ?_
      rintro e w2 ⟨B2, rfl, hb, hsg⟩
      have HB2 := Lib.hid (HB1.out.trans (hb.mono HB1.out.size))
      have HSg := Lib.hid hsg
      clear hb hsg HSi
      cases B2
      case false =>
        go_wp2_with fail
        with_reducible refine (HSu.out _ (HM.out.1.below HB2.out)).mono ?_
        rintro e w9 ⟨rfl, hb⟩
        have HB9 := Lib.hid (HB2.out.trans (hb.mono HB2.out.size))
        clear hb
        go_wp2_with fail
        go_ret
        exact ret_trueI HB9.out
      case true =>
        have hszs : Szs L := szs_of (by rw [HM.out.2.2]; omega) HIf.out.2
        have HGv := Lib.hid (give_any (.slice A n c) L w2 (by rw [HM.out.2.2]; omega) (fun b hb => by have := (HIf.out.2 b hb).1; omega) (HM.out.2.1.below HB2.out))
        have HSz := Lib.hid (And.intro hszs (HSg.out rfl))
        clear hszs
        go_wp2_with fail
        with_reducible refine HGv.out.mono ?_
        rintro e w3 ⟨v3, rfl, hrow, hb⟩
        have HB3 := Lib.hid (HB2.out.trans (hb.mono HB2.out.size))
        have HR3 := Lib.hid hrow
        clear hb hrow HGv
        obtain ⟨A3, c3, rfl, hr3⟩ := HR3.out.form
        rw [HM.out.2.2] at hr3 ⊢
        have HV3 := Lib.hid hr3
        clear hr3
        cases hck : chkI L with
        | some q =>
          have HRs := Lib.hid (resolve_no hck (.slice A3 n c3) w3 HSz.out.1 (HM.out.1.below HB3.out) HV3.out)
          have hRf := fun W (h : RowB W (.slice A n c) L) => refResolve_any (.slice A n c) L W (by rw [HM.out.2.2]; omega) (fun b hb => ⟨by have := (HIf.out.2 b hb).1; omega, fun f hf => by have := ((smal_len (HIf.out.2 b hb)).2.2 f hf).2; omega⟩) h
          unfold RfE2 at hRf
          rw [hck] at hRf
          dsimp only at hRf
          unfold plV at HRs
          obtain ⟨q1, hq1⟩ : ∃ x, q.1 = x := ⟨_, rfl⟩
          obtain ⟨q2, hq2⟩ : ∃ x, ((q.2 : Nat) : Int) = x := ⟨_, rfl⟩
          rw [hq1, hq2] at HRs hRf
          have HNu := Lib.hid (fun W h => num_err q2 W h)
          unfold errK at HRs HNu
          have HRf := Lib.hid hRf
          clear hRf hck hq1 hq2
          go_wp2_with fail
          with_reducible refine HRs.out.mono ?_
          rintro e w4 ⟨rfl, hb⟩
          have hb34 := HB3.out.trans (hb.mono HB3.out.size)
          have HB5 := Lib.hid (hb34.alloc hb34.size (.cells #[.int .i64 q1, .int .i64 q2] 29))
          have hal : Below w4.heap.size w4 (w4.alloc (.cells #[.int .i64 q1, .int .i64 q2] 29)) := (Below.refl _ _).alloc (Nat.le_refl _) _
          have HP5 := Lib.hid (MapKept.heap_alloc w4 (.cells #[.int .i64 q1, .int .i64 q2] 29)).1
          have HO5 := Lib.hid (HV3.out.below (hb.trans (hal.mono hb.size)))
          obtain ⟨w5, hw5⟩ : ∃ x, w4.alloc (.cells #[.int .i64 q1, .int .i64 q2] 29) = x := ⟨_, rfl⟩
          rw [hw5] at HB5 HO5 HP5
          have HW5 := Lib.hid hw5
          clear hb hb34 hal hw5
          go_upto_region 5 with fail
          rw [HW5.out]
          go_wp2_with fail
          with_reducible refine (HRf.out _ (HM.out.2.1.below HB5.out)).mono ?_
          rintro e w6 ⟨rfl, hb⟩
          have HB6 := Lib.hid (HB5.out.trans (hb.mono HB5.out.size))
          have HO6 := Lib.hid (HO5.out.below hb)
          have hpl := (hb.block _ (blk9_lt HP5.out)).trans HP5.out
          have HSm := Lib.hid (same_any _ _ true ([] : List MB) ([] : List MB) w6 (RowB.nil w6) (RowB.nil w6) (Sm.refl _ _))
          have HPl := Lib.hid hpl
          have t1 : ((q1 : Int) == q1) = true := beq_self_eq_true _
          have t2 : ((q2 : Int) == q2) = true := beq_self_eq_true _
          clear hb hpl
          go_wp2_with fail
          with_reducible refine HSm.out.mono ?_
          rintro e w7 ⟨rfl, hb⟩
          have hpl := (hb.block _ (blk9_lt HPl.out)).trans HPl.out
          have k0 := cell9_blk hpl 0 rfl
          have k1 := cell9_blk hpl 1 rfl
          have HB7 := Lib.hid (HB6.out.trans (hb.mono HB6.out.size))
          have HO7 := Lib.hid (HO6.out.below hb)
          clear hb hpl
          go_wp2_with fail
          with_reducible refine (HNu.out w7 (HM.out.1.below HB7.out)).mono ?_
          rintro e w8 ⟨rfl, hb⟩
          have HB8 := Lib.hid (HB7.out.trans (hb.mono HB7.out.size))
          have HSm2 := Lib.hid (same_any _ _ true L L w8 (HO7.out.below hb) (HM.out.2.1.below (HB7.out.trans (hb.mono HB7.out.size))) (Sm.refl _ _))
          clear hb k0 k1
          go_wp2_with fail
          with_reducible refine HSm2.out.mono ?_
          rintro e w10 ⟨rfl, hb⟩
          have HB10 := Lib.hid (HB8.out.trans (hb.mono HB8.out.size))
          clear hb
          go_wp2_with fail
          with_reducible refine (HSu.out _ (HM.out.1.below HB10.out)).mono ?_
          rintro e w9 ⟨rfl, hb⟩
          have HB9 := Lib.hid (HB10.out.trans (hb.mono HB10.out.size))
          clear hb
          go_wp2_with fail
          go_ret
          exact ret_trueI HB9.out
        | none =>
          have HRs := Lib.hid (resolve_ok hck (.slice A3 n c3) w3 HSz.out.1 (HM.out.1.below HB3.out) HV3.out)
          have hRf := fun W (h : RowB W (.slice A n c) L) => refResolve_any (.slice A n c) L W (by rw [HM.out.2.2]; omega) (fun b hb => ⟨by have := (HIf.out.2 b hb).1; omega, fun f hf => by have := ((smal_len (HIf.out.2 b hb)).2.2 f hf).2; omega⟩) h
          unfold RfE2 at hRf
          rw [hck] at hRf
          dsimp only at hRf
          unfold plV at HRs
          obtain ⟨R, hR⟩ : ∃ R, rsK L L.length = R := ⟨_, rfl⟩
          rw [hR] at HRs hRf
          have HNu := Lib.hid (fun W => num_nil W)
          have HRf := Lib.hid hRf
          clear hRf hck hR
          go_wp2_with fail
          with_reducible refine HRs.out.mono ?_
          rintro e w4 ⟨⟨v4, rfl, hrow⟩, hb⟩
          have hb34 := HB3.out.trans (hb.mono HB3.out.size)
          have HB5 := Lib.hid (hb34.alloc hb34.size (.cells #[.int .i64 0, .int .i64 0] 29))
          have hal : Below w4.heap.size w4 (w4.alloc (.cells #[.int .i64 0, .int .i64 0] 29)) := (Below.refl _ _).alloc (Nat.le_refl _) _
          have HP5 := Lib.hid (MapKept.heap_alloc w4 (.cells #[.int .i64 0, .int .i64 0] 29)).1
          have HO5 := Lib.hid (HV3.out.below (hb.trans (hal.mono hb.size)))
          have HR5 := Lib.hid (hrow.below hal)
          obtain ⟨w5, hw5⟩ : ∃ x, w4.alloc (.cells #[.int .i64 0, .int .i64 0] 29) = x := ⟨_, rfl⟩
          rw [hw5] at HB5 HO5 HP5 HR5
          have HW5 := Lib.hid hw5
          clear hb hb34 hal hw5 hrow
          go_upto_region 5 with fail
          rw [HW5.out]
          go_wp2_with fail
          with_reducible refine (HRf.out _ (HM.out.2.1.below HB5.out)).mono ?_
          rintro e w6 ⟨⟨v6, rfl, hrow6⟩, hb⟩
          have HB6 := Lib.hid (HB5.out.trans (hb.mono HB5.out.size))
          have HO6 := Lib.hid (HO5.out.below hb)
          have hpl := (hb.block _ (blk9_lt HP5.out)).trans HP5.out
          have HSm := Lib.hid (same_any _ _ true R R w6 (HR5.out.below hb) (hrow6) (Sm.refl _ _))
          have HPl := Lib.hid hpl
          have t1 : ((0 : Int) == 0) = true := beq_self_eq_true _
          have t2 : ((0 : Int) == 0) = true := beq_self_eq_true _
          clear hb hpl hrow6
          go_wp2_with fail
          with_reducible refine HSm.out.mono ?_
          rintro e w7 ⟨rfl, hb⟩
          have hpl := (hb.block _ (blk9_lt HPl.out)).trans HPl.out
          have k0 := cell9_blk hpl 0 rfl
          have k1 := cell9_blk hpl 1 rfl
          have HB7 := Lib.hid (HB6.out.trans (hb.mono HB6.out.size))
          have HO7 := Lib.hid (HO6.out.below hb)
          clear hb hpl
          go_wp2_with fail
          with_reducible refine (HNu.out w7).mono ?_
          rintro e w8 ⟨rfl, hb⟩
          have HB8 := Lib.hid (HB7.out.trans (hb.mono HB7.out.size))
          have HSm2 := Lib.hid (same_any _ _ true L L w8 (HO7.out.below hb) (HM.out.2.1.below (HB7.out.trans (hb.mono HB7.out.size))) (Sm.refl _ _))
          clear hb k0 k1
          go_wp2_with fail
          with_reducible refine HSm2.out.mono ?_
          rintro e w10 ⟨rfl, hb⟩
          have HB10 := Lib.hid (HB8.out.trans (hb.mono HB8.out.size))
          clear hb
          go_wp2_with fail
          with_reducible refine (HSu.out _ (HM.out.1.below HB10.out)).mono ?_
          rintro e w9 ⟨rfl, hb⟩
          have HB9 := Lib.hid (HB10.out.trans (hb.mono HB10.out.size))
          clear hb
          go_wp2_with fail
          go_ret
          exact ret_trueI HB9.out
end Go.Proofs.YthnogakjaaopkaaGreatDoor

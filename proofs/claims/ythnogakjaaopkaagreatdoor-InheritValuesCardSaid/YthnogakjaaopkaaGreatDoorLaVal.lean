/- Law InheritValues: its walk. -/
import Derived.Test.YthnogakjaaopkaaGreatDoorLaSz
import Derived.Test.YthnogakjaaopkaaGreatDoorIhSi
import Derived.Test.YthnogakjaaopkaaGreatDoorIhRv
namespace Go.Proofs.YthnogakjaaopkaaGreatDoor
open Go.RowKit

set_option maxHeartbeats 4000000 in
set_option maxRecDepth 100000 in
theorem values_walk (L : List MB) (v : Value) (i : Int) (sb : ByteArray) (w : World) (hg : ErrT w) (hset : RowB w v L) (hi : -9223372036854775808 ≤ i ∧ i ≤ 9223372036854775807) (hs : sb.size ≤ maxLen) :
    Calls Tryz.prog 4 #[v, .int .i64 i, .string sb] w fun e w' => e = .returned (.bool true) ∧ Below w.heap.size w w' := by
  obtain ⟨nm, rfl⟩ : ∃ l, sb = str l := ⟨sb.data.toList, (str_of sb).symm⟩
  have hL : L.length ≤ 9223372036854775807 := by
    obtain ⟨A, c, rfl, hr⟩ := hset.form
    exact Nat.le_trans hr.parts.2.1 (Nat.le_trans hr.parts.2.2.1 (by decide))
  have HLg := Lib.hid (large_any v L w hL hset)
  have HSu := Lib.hid (fun W h => sure_any W h)
  obtain ⟨A, c, rfl, hrs⟩ := hset.form
  obtain ⟨n, hn⟩ : ∃ n, L.length = n := ⟨_, rfl⟩
  rw [hn] at hrs hL HLg ⊢
  have HM := Lib.hid (And.intro hg (And.intro hrs hn))
  clear hg hset hrs hn
  obtain ⟨ns, hns⟩ : ∃ ns, (str nm).size = ns := ⟨_, rfl⟩
  have hnl : nm.length = ns := hns
  have hns9 : ns ≤ 9223372036854775807 := by rw [← hns]; exact hs
  obtain ⟨S, hS⟩ : ∃ S, str nm = S := ⟨_, rfl⟩
  rw [hS] at hns ⊢
  have HSn := Lib.hid (And.intro hS hnl)
  clear hS hnl hs
  go_enter Tryz.func4, Tryz.ntmps4
  go_wp2_with fail
  with_reducible refine HLg.out.mono ?_
  rintro e w1 ⟨B, rfl, hb, himp⟩
  have HB1 := Lib.hid hb
  have HI := Lib.hid himp
  clear hb himp HLg
  cases B
  case true =>
    go_wp2_with fail
    with_reducible refine (HSu.out _ (HM.out.1.below HB1.out)).mono ?_
    rintro e w9 ⟨rfl, hb⟩
    have HB9 := Lib.hid (HB1.out.trans (hb.mono HB1.out.size))
    clear hb
    go_wp2_with fail
    go_ret
    exact ret_trueI HB9.out
  case false =>
    have hIf := HI.out rfl
    rw [HM.out.2.2] at hIf
    have HIf := Lib.hid hIf
    clear hIf
    by_cases h20 : 20 < n
    · have d : (20 : Int) < n := by omega
      clear h20
      go_wp2_with fail
      with_reducible refine (HSu.out _ (HM.out.1.below HB1.out)).mono ?_
      rintro e w9 ⟨rfl, hb⟩
      have HB9 := Lib.hid (HB1.out.trans (hb.mono HB1.out.size))
      clear hb
      go_wp2_with fail
      go_ret
      exact ret_trueI HB9.out
    · have d : ¬ (20 : Int) < n := by omega
      have HSi := Lib.hid (single_any (.slice A n c) L w1 (by rw [HM.out.2.2]; omega) (fun b hb => by have := (HIf.out.2 b hb).1; omega) (HM.out.2.1.below HB1.out))
      go_wp2_with fail
      with_reducible refine HSi.out.mono ?_
      rintro e w2 ⟨B2, rfl, hb, hsg⟩
      have HB2 := Lib.hid (HB1.out.trans (hb.mono HB1.out.size))
      have HSg := Lib.hid hsg
      clear hb hsg HSi
      cases B2
      case false =>
        go_wp2_with fail
        with_reducible refine (HSu.out _ (HM.out.1.below HB2.out)).mono ?_
        rintro e w9 ⟨rfl, hb⟩
        have HB9 := Lib.hid (HB2.out.trans (hb.mono HB2.out.size))
        clear hb
        go_wp2_with fail
        go_ret
        exact ret_trueI HB9.out
      case true =>
        by_cases h200 : 200 < ns
        · have d2 : (200 : Int) < ns := by omega
          go_wp2_with fail
          with_reducible refine (HSu.out _ (HM.out.1.below HB2.out)).mono ?_
          rintro e w9 ⟨rfl, hb⟩
          have HB9 := Lib.hid (HB2.out.trans (hb.mono HB2.out.size))
          clear hb
          go_wp2_with fail
          go_ret
          exact ret_trueI HB9.out
        · have d2 : ¬ (200 : Int) < ns := by omega
          have hszs : Szs L := szs_of (by rw [HM.out.2.2]; omega) HIf.out.2
          have HGv := Lib.hid (give_any (.slice A n c) L w2 (by rw [HM.out.2.2]; omega) (fun b hb => by have := (HIf.out.2 b hb).1; omega) (HM.out.2.1.below HB2.out))
          have HSz := Lib.hid (And.intro hszs (HSg.out rfl))
          clear hszs
          go_wp2_with fail
          with_reducible refine HGv.out.mono ?_
          rintro e w3 ⟨v3, rfl, hrow, hb⟩
          have HB3 := Lib.hid (HB2.out.trans (hb.mono HB2.out.size))
          have HR3 := Lib.hid hrow
          clear hb hrow HGv
          obtain ⟨A3, c3, rfl, hr3⟩ := HR3.out.form
          rw [HM.out.2.2] at hr3 ⊢
          have HV3 := Lib.hid hr3
          clear hr3
          have hVa := value_any (.slice A3 n c3) L i nm w3 HSz.out.1 (HM.out.1.below HB3.out) HV3.out hi.1 hi.2 (by have := HSn.out.2; omega)
          have hRf := fun W (h : RowB W (.slice A n c) L) => refValue_any (.slice A n c) L i nm W (by rw [HM.out.2.2]; omega) (fun b hb => ⟨by have := (HIf.out.2 b hb).1; omega, fun f hf => by have := ((smal_len (HIf.out.2 b hb)).2.2 f hf).2; omega⟩) h hi.1 hi.2
          rw [HSn.out.1] at hVa hRf
          unfold VlE at hVa
          unfold VfE at hRf
          cases hck : chkI L with
          | some q =>
            rw [hck] at hVa hRf
            dsimp only at hVa hRf
            obtain ⟨q2, hq2⟩ : ∃ x, ((q.2 : Nat) : Int) = x := ⟨_, rfl⟩
            rw [hq2] at hVa hRf
            have HNu := Lib.hid (fun W h => num_err q2 W h)
            unfold errK at hVa HNu
            have e0 : (ByteArray.empty) = { data := #[] } := rfl
            rw [e0] at hVa
            have t1 : ((q2 : Int) == q2) = true := beq_self_eq_true _
            have HV := Lib.hid hVa
            have HRf := Lib.hid hRf
            clear hVa hRf hck hq2 e0
            go_wp2_with fail
            with_reducible refine HV.out.mono ?_
            rintro e w4 ⟨rfl, hb⟩
            have HB4 := Lib.hid (HB3.out.trans (hb.mono HB3.out.size))
            clear hb
            go_wp2_with fail
            with_reducible refine (HRf.out w4 (HM.out.2.1.below HB4.out)).mono ?_
            rintro e w5 ⟨rfl, hb⟩
            have HB5 := Lib.hid (HB4.out.trans (hb.mono HB4.out.size))
            clear hb
            go_wp2_with fail
            with_reducible refine (HNu.out w5 (HM.out.1.below HB5.out)).mono ?_
            rintro e w6 ⟨rfl, hb⟩
            have HB6 := Lib.hid (HB5.out.trans (hb.mono HB5.out.size))
            clear hb
            go_wp2_with fail
            with_reducible refine (HSu.out _ (HM.out.1.below HB6.out)).mono ?_
            rintro e w9 ⟨rfl, hb⟩
            have HB9 := Lib.hid (HB6.out.trans (hb.mono HB6.out.size))
            clear hb
            go_wp2_with fail
            go_ret
            exact ret_trueI HB9.out
          | none =>
            rw [hck] at hVa hRf
            dsimp only at hVa hRf
            rw [HM.out.2.2] at hVa hRf
            by_cases hr : 0 ≤ i ∧ i < (n : Int)
            · simp only [if_pos hr] at hVa hRf
              obtain ⟨X, hX⟩ : ∃ x, str (valF (gotP L nm i.toNat)) = x := ⟨_, rfl⟩
              obtain ⟨bx, hbx⟩ : ∃ x, (gotP L nm i.toNat).isSome = x := ⟨_, rfl⟩
              rw [hX, hbx] at hVa hRf
              have HNu := Lib.hid (fun W => num_nil W)
              have t1 : (X.toList == X.toList) = true := beq_self_eq_true _
              have t2 : (bx == bx) = true := beq_self_eq_true _
              have HV := Lib.hid hVa
              have HRf := Lib.hid hRf
              clear hVa hRf hck hX hbx hr
              go_wp2_with fail
              with_reducible refine HV.out.mono ?_
              rintro e w4 ⟨rfl, hb⟩
              have HB4 := Lib.hid (HB3.out.trans (hb.mono HB3.out.size))
              clear hb
              go_wp2_with fail
              with_reducible refine (HRf.out w4 (HM.out.2.1.below HB4.out)).mono ?_
              rintro e w5 ⟨rfl, hb⟩
              have HB5 := Lib.hid (HB4.out.trans (hb.mono HB4.out.size))
              clear hb
              go_wp2_with fail
              with_reducible refine (HNu.out w5).mono ?_
              rintro e w6 ⟨rfl, hb⟩
              have HB6 := Lib.hid (HB5.out.trans (hb.mono HB5.out.size))
              clear hb
              go_wp2_with fail
              with_reducible refine (HSu.out _ (HM.out.1.below HB6.out)).mono ?_
              rintro e w9 ⟨rfl, hb⟩
              have HB9 := Lib.hid (HB6.out.trans (hb.mono HB6.out.size))
              clear hb
              go_wp2_with fail
              go_ret
              exact ret_trueI HB9.out
            · simp only [if_neg hr] at hVa hRf
              have HNu := Lib.hid (fun W h => num_err 5 W h)
              unfold errK at hVa HNu
              have e0 : (ByteArray.empty) = { data := #[] } := rfl
              rw [e0] at hVa
              have HV := Lib.hid hVa
              have HRf := Lib.hid hRf
              clear hVa hRf hck e0 hr
              go_wp2_with fail
              with_reducible refine HV.out.mono ?_
              rintro e w4 ⟨rfl, hb⟩
              have HB4 := Lib.hid (HB3.out.trans (hb.mono HB3.out.size))
              clear hb
              go_wp2_with fail
              with_reducible refine (HRf.out w4 (HM.out.2.1.below HB4.out)).mono ?_
              rintro e w5 ⟨rfl, hb⟩
              have HB5 := Lib.hid (HB4.out.trans (hb.mono HB4.out.size))
              clear hb
              go_wp2_with fail
              with_reducible refine (HNu.out w5 (HM.out.1.below HB5.out)).mono ?_
              rintro e w6 ⟨rfl, hb⟩
              have HB6 := Lib.hid (HB5.out.trans (hb.mono HB5.out.size))
              clear hb
              go_wp2_with fail
              with_reducible refine (HSu.out _ (HM.out.1.below HB6.out)).mono ?_
              rintro e w9 ⟨rfl, hb⟩
              have HB9 := Lib.hid (HB6.out.trans (hb.mono HB6.out.size))
              clear hb
              go_wp2_with fail
              go_ret
              exact ret_trueI HB9.out
end Go.Proofs.YthnogakjaaopkaaGreatDoor

/- Law InheritOwn: its walk. -/
import Derived.Test.YthnogakjaaopkaaGreatDoorLaSz
import Derived.Test.YthnogakjaaopkaaGreatDoorIhSi
import Derived.Test.YthnogakjaaopkaaGreatDoorBg
import Derived.Deep.Cut
import Derived.Deep.QuietTactic
import Derived.BigQuiet
namespace Go.Proofs.YthnogakjaaopkaaGreatDoor
open Go.RowKit

theorem u64_rem11 (T : Int) (b : Nat) (h0 : 0 < b) : ∃ j : Nat, (IntKind.u64.wrap T).tmod b = (j : Int) ∧ j < b := by
  have e : IntKind.u64.wrap T = T % 18446744073709551616 := by simp [IntKind.wrap, IntKind.bits, IntKind.signed]
  have hn : 0 ≤ IntKind.u64.wrap T := by rw [e]; omega
  rw [Int.tmod_eq_emod_of_nonneg hn]
  have h1 := Int.emod_nonneg (IntKind.u64.wrap T) (show (b : Int) ≠ 0 by omega)
  have h2 := Int.emod_lt_of_pos (IntKind.u64.wrap T) (show (0 : Int) < b by omega)
  exact ⟨((IntKind.u64.wrap T) % b).toNat, by omega, by omega⟩
set_option maxHeartbeats 4000000 in
set_option maxRecDepth 100000 in
theorem own_walk (L : List MB) (v : Value) (i : Int) (w : World) (hg : ErrT w) (hset : RowB w v L) (_ : -9223372036854775808 ≤ i ∧ i ≤ 9223372036854775807) :
    Calls Tryz.prog 7 #[v, .int .i64 i] w fun e w' => e = .returned (.bool true) ∧ Below w.heap.size w w' := by
  have hL : L.length ≤ 9223372036854775807 := by
    obtain ⟨A, c, rfl, hr⟩ := hset.form
    exact Nat.le_trans hr.parts.2.1 (Nat.le_trans hr.parts.2.2.1 (by decide))
  have HLg := Lib.hid (large_any v L w hL hset)
  have HSu := Lib.hid (fun W h => sure_any W h)
  obtain ⟨A, c, rfl, hrs⟩ := hset.form
  obtain ⟨n, hn⟩ : ∃ n, L.length = n := ⟨_, rfl⟩
  rw [hn] at hrs hL HLg ⊢
  have HM := Lib.hid (And.intro hg (And.intro hrs hn))
  clear hg hset hrs hn
  go_enter Tryz.func7, Tryz.ntmps7
  go_wp2_with fail
  with_reducible refine HLg.out.mono ?_
  rintro e w1 ⟨B, rfl, hb, himp⟩
  have HB1 := Lib.hid hb
  have HI := Lib.hid himp
  clear hb himp HLg
  cases B
  case true =>
    go_wp2_with fail
    with_reducible refine (HSu.out _ (HM.out.1.below HB1.out)).mono ?_
    rintro e w9 ⟨rfl, hb⟩
    have HB9 := Lib.hid (HB1.out.trans (hb.mono HB1.out.size))
    clear hb
    go_wp2_with fail
    go_ret
    exact ret_trueI HB9.out
  case false =>
    have hIf := HI.out rfl
    rw [HM.out.2.2] at hIf
    have HIf := Lib.hid hIf
    clear hIf
    by_cases h20 : 20 < n
    · have d : (20 : Int) < n := by omega
      clear h20
      go_wp2_with fail
      with_reducible refine (HSu.out _ (HM.out.1.below HB1.out)).mono ?_
      rintro e w9 ⟨rfl, hb⟩
      have HB9 := Lib.hid (HB1.out.trans (hb.mono HB1.out.size))
      clear hb
      go_wp2_with fail
      go_ret
      exact ret_trueI HB9.out
    · have d : ¬ (20 : Int) < n := by omega
      by_cases h0 : n = 0
      · subst h0
        go_wp2_with fail
        with_reducible refine (HSu.out _ (HM.out.1.below HB1.out)).mono ?_
        rintro e w9 ⟨rfl, hb⟩
        have HB9 := Lib.hid (HB1.out.trans (hb.mono HB1.out.size))
        clear hb
        go_wp2_with fail
        go_ret
        exact ret_trueI HB9.out
      · have d0 : ¬ ((n : Int) = 0) := by omega
        have d1 : ((n : Int) == 0) = false := beq_eq_false_iff_ne.2 d0
        have HSi := Lib.hid (single_any (.slice A n c) L w1 (by rw [HM.out.2.2]; omega) (fun b hb => by have := (HIf.out.2 b hb).1; omega) (HM.out.2.1.below HB1.out))
        go_wp2_with fail
        with_reducible refine HSi.out.mono ?_
        rintro e w2 ⟨B2, rfl, hb, hsg⟩
        have HB2 := Lib.hid (HB1.out.trans (hb.mono HB1.out.size))
        have HSg := Lib.hid hsg
        clear hb hsg HSi
        cases B2
        case false =>
          go_wp2_with fail
          with_reducible refine (HSu.out _ (HM.out.1.below HB2.out)).mono ?_
          rintro e w9 ⟨rfl, hb⟩
          have HB9 := Lib.hid (HB2.out.trans (hb.mono HB2.out.size))
          clear hb
          go_wp2_with fail
          go_ret
          exact ret_trueI HB9.out
        case true =>
          have hszs : Szs L := szs_of (by rw [HM.out.2.2]; omega) HIf.out.2
          have HGv := Lib.hid (give_any (.slice A n c) L w2 (by rw [HM.out.2.2]; omega) (fun b hb => by have := (HIf.out.2 b hb).1; omega) (HM.out.2.1.below HB2.out))
          have HSz := Lib.hid (And.intro hszs (HSg.out rfl))
          clear hszs
          go_wp2_with fail
          with_reducible refine HGv.out.mono ?_
          rintro e w3 ⟨v3, rfl, hrow, hb⟩
          have HB3 := Lib.hid (HB2.out.trans (hb.mono HB2.out.size))
          have HR3 := Lib.hid hrow
          clear hb hrow HGv
          obtain ⟨A3, c3, rfl, hr3⟩ := HR3.out.form
          rw [HM.out.2.2] at hr3 ⊢
          have HV3 := Lib.hid hr3
          clear hr3
          cases hck : chkI L with
          | some q =>
            have HRs := Lib.hid (resolve_no hck (.slice A3 n c3) w3 HSz.out.1 (HM.out.1.below HB3.out) HV3.out)
            clear hck
            unfold plV errK at HRs
            obtain ⟨q1, hq1⟩ : ∃ x, q.1 = x := ⟨_, rfl⟩
            obtain ⟨q2, hq2⟩ : ∃ x, ((q.2 : Nat) : Int) = x := ⟨_, rfl⟩
            rw [hq1, hq2] at HRs
            clear hq1 hq2
            go_wp2_with fail
            with_reducible refine HRs.out.mono ?_
            rintro e w4 ⟨rfl, hb⟩
            have HB4 := Lib.hid ((HB3.out.trans (hb.mono HB3.out.size)).alloc (HB3.out.trans (hb.mono HB3.out.size)).size (.cells #[.int .i64 q1, .int .i64 q2] 29))
            clear hb
            go_wp2_with fail
            with_reducible refine (HSu.out _ (HM.out.1.below HB4.out)).mono ?_
            rintro e w9 ⟨rfl, hb⟩
            have HB9 := Lib.hid (HB4.out.trans (hb.mono HB4.out.size))
            clear hb
            go_wp2_with fail
            go_ret
            exact ret_trueI HB9.out
          | none =>
            have HRs := Lib.hid (resolve_ok hck (.slice A3 n c3) w3 HSz.out.1 (HM.out.1.below HB3.out) HV3.out)
            have HCk := Lib.hid hck
            clear hck
            unfold plV at HRs
            obtain ⟨k, hk, hkn⟩ := u64_rem11 i n (by omega)
            have hwk : wrap64 (k : Int) = (k : Int) := IntWalk.wrap64_in _ ⟨by omega, by omega⟩
            have hke : wrap64 ((IntKind.u64.wrap i).tmod n) = (k : Int) := by rw [hk]; exact hwk
            go_wp2_with fail
            with_reducible refine HRs.out.mono ?_
            rintro e w4 ⟨⟨v4, rfl, _⟩, hb⟩
            have HB4 := Lib.hid (HB3.out.trans (hb.mono HB3.out.size))
            have HB5 := Lib.hid ((HB3.out.trans (hb.mono HB3.out.size)).alloc (HB3.out.trans (hb.mono HB3.out.size)).size (.cells #[.int .i64 0, .int .i64 0] 29))
            have HR5 := Lib.hid (HV3.out.below (hb.alloc hb.size (.cells #[.int .i64 0, .int .i64 0] 29)))
            obtain ⟨w5, hw5⟩ : ∃ x, w4.alloc (.cells #[.int .i64 0, .int .i64 0] 29) = x := ⟨_, rfl⟩
            rw [hw5] at HB5 HR5
            have HW5 := Lib.hid hw5
            clear hb hw5
            go_upto_region 7 with fail
            rw [HW5.out]
            go_upto_region 9 with fail
            have hkl : k < L.length := by rw [HM.out.2.2]; exact hkn
            obtain ⟨b, hbk⟩ : ∃ b, L[k]? = some b := ⟨_, List.getElem?_eq_getElem hkl⟩
            have hbm : b ∈ L := List.mem_of_getElem? hbk
            obtain ⟨ad, X, vF, hAd, hX, k0, k1, k2, hrf⟩ := HM.out.2.1.parts.2.2.2 k hkn b hbk
            obtain ⟨AF, cF, rfl, hrF⟩ := hrf.form
            obtain ⟨m, hm⟩ : ∃ m, b.2.2.length = m := ⟨_, rfl⟩
            rw [hm] at k2 hrF
            have hsm := smal_len (HIf.out.2 b hbm)
            have hm80 : m ≤ 80 := by rw [← hm]; exact hsm.2.1
            have HK2 : Hid (∀ W, Below w.heap.size w W → W.cell? { block := X.block, off := X.off + 2 } = some (.slice AF m cF) ∧ RowF W (.slice AF m cF) b.2.2) := fun W h => ⟨cell9_below k2 h, hrF.below h⟩
            have HBk := Lib.hid (And.intro hbk (And.intro hm (And.intro hsm.2.2 (HSz.out.2 b hbm))))
            have r0 : (0 : Int) ≤ k := by omega
            have r1 : (k : Int) < n := by omega
            clear hkl hbk hbm k0 k1 k2 hrf hrF hm hsm hk hwk hke
            subst hAd
            go_loopw [10] (fun jv wr => ∃ j : Nat, jv = .int .i64 j ∧ j ≤ m ∧ Below w5.heap.size w5 wr) (fun jv _ => m - (intOf jv).toNat)
            case atStart => exact ⟨0, rfl, Nat.zero_le _, Below.refl _ _⟩
            case round =>
              obtain ⟨j, rfl, hj, hb⟩ := hrel
              have hbw := HB5.out.trans (hb.mono HB5.out.size)
              obtain ⟨k2, hrF⟩ := HK2.out wr hbw
              have HW := Lib.hid (And.intro hb hbw)
              by_cases hjm : j < m
              · have s0 : (0 : Int) ≤ j := by omega
                have s1 : (j : Int) < m := by omega
                have hjl : j < b.2.2.length := by rw [HBk.out.2.1]; exact hjm
                obtain ⟨f, hf⟩ : ∃ f, b.2.2[j]? = some f := ⟨_, List.getElem?_eq_getElem hjl⟩
                have hfm : f ∈ b.2.2 := List.mem_of_getElem? hf
                obtain ⟨adF, Y, rfl, hY, m0, m1, m2⟩ := hrF.parts.2.2.2 j hjm f hf
                obtain ⟨N1, hN1⟩ : ∃ x, str f.2.1 = x := ⟨_, rfl⟩
                obtain ⟨N2, hN2⟩ : ∃ x, str f.2.2 = x := ⟨_, rfl⟩
                rw [hN1] at m1
                rw [hN2] at m2
                obtain ⟨g6, hg6⟩ : ∃ x, wr.heap.size = x := ⟨_, rfl⟩
                obtain ⟨w6, hw6⟩ : ∃ x, wr.alloc (.cells #[.int .i64 f.1, .string N1, .string N2] 49) = x := ⟨_, rfl⟩
                have hb6 : Below wr.heap.size wr w6 := by rw [← hw6]; exact (Below.refl _ _).alloc (Nat.le_refl _) _
                have h6 : w6.heap[g6]? = some (.cells #[.int .i64 f.1, .string N1, .string N2] 49 (0, 0)) := by rw [← hw6, ← hg6]; exact (MapKept.heap_alloc wr _).1
                have c1 := cell9_blk h6 1 rfl
                have hlen := HBk.out.2.2.1 f hfm
                have hfo := sgl_own HBk.out.2.2.2 hf
                have HF := Lib.hid (And.intro h6 (And.intro hlen (And.intro hfo (And.intro hN1 hN2))))
                have HB6 := Lib.hid (And.intro (hb.trans (hb6.mono hb.size)) (hbw.trans (hb6.mono hbw.size)))
                have t1 : (N1.toList == [110, 97, 109, 101]) = (f.2.1 == nmN) := by rw [← hN1, str_toList]
                have t2 : (N1.toList == [117, 115, 101]) = (f.2.1 == nmU) := by rw [← hN1, str_toList]
                have t3 : (N1.toList == [114, 101, 103, 105, 115, 116, 101, 114]) = (f.2.1 == nmR) := by rw [← hN1, str_toList]
                have h3 : three f.2.1 = (f.2.1 == nmN || f.2.1 == nmU || f.2.1 == nmR) := rfl
                obtain ⟨b1, hb1⟩ : ∃ x, (f.2.1 == nmN) = x := ⟨_, rfl⟩
                obtain ⟨b2, hb2⟩ : ∃ x, (f.2.1 == nmU) = x := ⟨_, rfl⟩
                obtain ⟨b3, hb3⟩ : ∃ x, (f.2.1 == nmR) = x := ⟨_, rfl⟩
                rw [hb1] at t1
                rw [hb2] at t2
                rw [hb3] at t3
                rw [hb1, hb2, hb3] at h3
                have H3 := Lib.hid h3
                clear hb hbw hjl hf hfm hN1 hN2 hb6 h6 hlen hfo hrF h3 hb1 hb2 hb3
                cases b1 with
                | true =>
                  go_wp2_with fail
                  exact ⟨⟨j + 1, by go_num, hjm, HB6.out.1⟩, by simp [intOf]; omega⟩
                | false =>
                  cases b2 with
                  | true =>
                    go_wp2_with fail
                    exact ⟨⟨j + 1, by go_num, hjm, HB6.out.1⟩, by simp [intOf]; omega⟩
                  | false =>
                    cases b3 with
                    | true =>
                      go_wp2_with fail
                      exact ⟨⟨j + 1, by go_num, hjm, HB6.out.1⟩, by simp [intOf]; omega⟩
                    | false =>
                      have h3 : three f.2.1 = false := H3.out
                      obtain ⟨hchk, hno⟩ := chk_none HCk.out
                      have hVl := value_ok HCk.out (.slice A3 n c3) k f.2.1 w6 (by rw [HM.out.2.2]; exact hkn) HSz.out.1 (HM.out.1.below HB6.out.2) (HR5.out.below HB6.out.1) (by have := HF.out.2.1.1; omega)
                      rw [HF.out.2.2.2.1] at hVl
                      have hz : (N2.toList == [110, 117, 108, 108]) = (f.2.2 == nmZ) := by rw [← HF.out.2.2.2.2, str_toList]
                      by_cases hfz : f.2.2 = nmZ
                      · have hgt := own_null hchk HBk.out.1 HF.out.2.2.1 hfz
                        rw [hgt] at hVl
                        have HVl := Lib.hid hVl
                        have hz' : (N2.toList == [110, 117, 108, 108]) = true := by rw [hz, hfz]; rfl
                        clear hgt hVl hz hchk hno hfz h3
                        go_wp2_with fail
                        with_reducible refine HVl.out.mono ?_
                        rintro e w7 ⟨rfl, hb⟩
                        have c2 := cell9_blk ((hb.block g6 (blk9_lt HF.out.1)).trans HF.out.1) 2 rfl
                        have HB7 := Lib.hid (HB6.out.1.trans (hb.mono HB6.out.1.size))
                        clear hb
                        go_wp2_with fail
                        exact ⟨⟨j + 1, by go_num, hjm, HB7.out⟩, by simp [intOf]; omega⟩
                      · have hz' : (N2.toList == [110, 117, 108, 108]) = false := by rw [hz, beq_eq_false_iff_ne]; exact hfz
                        obtain ⟨fa, fn, fv⟩ := f
                        dsimp only at *
                        clear hz
                        rcases hfv : fv with _ | ⟨x, tl⟩
                        · have hgt := own_plain (f := (fa, fn, fv)) hchk HBk.out.1 HF.out.2.2.1 h3 hfz (by show fv.head? ≠ some 43; rw [hfv]; simp)
                          dsimp only at hgt
                          rw [hgt] at hVl
                          have hv : str (valF (some (fa, fn, fv))) = N2 := HF.out.2.2.2.2
                          rw [hv] at hVl
                          have HVl := Lib.hid hVl
                          have hsz : N2.size = 0 := by rw [← HF.out.2.2.2.2, hfv]; rfl
                          have t9 : (N2.toList == N2.toList) = true := beq_self_eq_true _
                          clear hgt hVl hchk hno hfz h3 hv hfv
                          go_wp2_with fail
                          with_reducible refine HVl.out.mono ?_
                          rintro e w7 ⟨rfl, hb⟩
                          have c2 := cell9_blk ((hb.block g6 (blk9_lt HF.out.1)).trans HF.out.1) 2 rfl
                          have HB7 := Lib.hid (HB6.out.1.trans (hb.mono HB6.out.1.size))
                          clear hb
                          go_wp2_with fail
                          exact ⟨⟨j + 1, by go_num, hjm, HB7.out⟩, by simp [intOf]; omega⟩
                        · obtain ⟨z9, hz9⟩ : ∃ z, tl.length = z := ⟨_, rfl⟩
                          obtain ⟨S9, hS9, hsz, hat, hex⟩ := cons_facts x tl z9 hz9
                          have hS9' : N2 = S9 := by rw [← HF.out.2.2.2.2, hfv]; exact hS9
                          subst hS9'
                          have hz8 : z9 ≤ 9000 := by have := HF.out.2.1.2; rw [hfv, List.length_cons] at this; omega
                          have hzp : (0 : Int) < z9 + 1 := by omega
                          by_cases hx : x = 43
                          · subst hx
                            have hx2 : ((43 : UInt8).toNat : Int) = 43 := rfl
                            obtain ⟨p, hgt⟩ := own_plus (f := (fa, fn, fv)) hchk hno HBk.out.1 HF.out.2.2.1 h3 (by show fv.head? = some 43; rw [hfv]; rfl)
                            dsimp only at hgt
                            rw [hfv] at hgt
                            rw [hgt] at hVl
                            have hgv : valF (some (fa, fn, p ++ (43 :: tl).tail)) = p ++ tl := rfl
                            rw [hgv] at hVl
                            have hVLen : (p ++ tl).length ≤ 4096 := by
                              rcases Nat.lt_or_ge 4096 (p ++ tl).length with hl | hl
                              · exact absurd ((tooL_P hchk (i := k) (by rw [HM.out.2.2]; exact hkn)).2 ⟨_, _, hgt, hl⟩) (hno k (by rw [HM.out.2.2]; exact hkn))
                              · exact hl
                            obtain ⟨a, ha⟩ : ∃ a, p.length = a := ⟨_, rfl⟩
                            obtain ⟨VS, hVS⟩ : ∃ x, str (p ++ tl) = x := ⟨_, rfl⟩
                            have hvs : VS.size = a + z9 := by rw [← hVS, str_size, List.length_append, ha, hz9]
                            have hcut : VS.extract a (a + z9) = str tl := by
                              rw [← hVS, str_cut, ← ha, List.drop_left, Nat.add_sub_cancel_left, List.take_of_length_le (by omega)]
                            rw [hVS] at hVl
                            have HVl := Lib.hid hVl
                            obtain ⟨TL, hTL⟩ : ∃ x, str tl = x := ⟨_, rfl⟩
                            rw [hTL] at hcut hex
                            have t9 : (TL.toList == TL.toList) = true := beq_self_eq_true _
                            have ha6 : a + z9 ≤ 1000000 := by
                              have h1 := (hVLen : (p ++ tl).length ≤ 4096)
                              rw [List.length_append, ha, hz9] at h1
                              omega
                            have hs1 : ∀ W, (Instr.slice 9 (.string VS) (some (.int .i64 (a : Int))) none none).run Tryz.prog W = .ok (.string TL) W := fun W => by
                              rw [run_slice_string_from_if _ _ _ _ _ Tryz.underlying9, if_pos ⟨by omega, by rw [hvs]; omega⟩, hvs, Int.toNat_natCast, hcut]
                            have hs2 : ∀ W, (Instr.slice 9 (.string N2) (some (.int .i64 1)) none none).run Tryz.prog W = .ok (.string TL) W := fun W => by
                              rw [run_slice_string_from_if _ _ _ _ _ Tryz.underlying9, if_pos ⟨by omega, by rw [hsz]; omega⟩, hsz]
                              exact congrArg (fun x => Result.ok (Value.string x) W) hex
                            clear hgt hVl hchk hno hfz h3 hgv hVS hfv hS9 ha hTL
                            go_wp2_with fail
                            with_reducible refine HVl.out.mono ?_
                            rintro e w7 ⟨rfl, hb⟩
                            have c2 := cell9_blk ((hb.block g6 (blk9_lt HF.out.1)).trans HF.out.1) 2 rfl
                            have HB7 := Lib.hid (HB6.out.1.trans (hb.mono HB6.out.1.size))
                            clear hb
                            go_wp2_with fail
                            have i1 : IntKind.i64.wrap (z9 : Int) = z9 := IntWalk.i64_in _ (by omega)
                            have i2 : decide ((a : Int) + z9 < z9) = false := decide_eq_false (by omega)
                            have i3 : IntKind.i64.wrap ((a : Int) + z9 - (z9 + 1)) = (a : Int) - 1 := by
                              have : (a : Int) + z9 - (z9 + 1) = (a : Int) - 1 := by omega
                              rw [this]
                              exact IntWalk.i64_in _ (by omega)
                            have i4 : IntKind.i64.wrap (a : Int) = a := IntWalk.i64_in _ (by omega)
                            go_quiet (fail)
                            go_wp2_with fail
                            exact ⟨⟨j + 1, by go_num, hjm, HB7.out.trans ((below_drewN _ _).mono HB7.out.size)⟩, by simp [intOf]; omega⟩
                          · have hx2 : ¬ (x.toNat : Int) = 43 := by
                              intro h
                              exact hx (UInt8.toNat_inj.1 (by have : x.toNat = 43 := by omega
                                                              rw [this]; rfl))
                            have hx3 : ((x.toNat : Int) == 43) = false := beq_eq_false_iff_ne.2 hx2
                            have hx5 : ((x.toNat : Int) != 43) = true := by unfold bne; rw [hx3]; rfl
                            have hgt := own_plain (f := (fa, fn, fv)) hchk HBk.out.1 HF.out.2.2.1 h3 hfz (by show fv.head? ≠ some 43; rw [hfv]; simpa using hx)
                            dsimp only at hgt
                            rw [hgt] at hVl
                            have hv : str (valF (some (fa, fn, fv))) = N2 := HF.out.2.2.2.2
                            rw [hv] at hVl
                            have HVl := Lib.hid hVl
                            have t9 : (N2.toList == N2.toList) = true := beq_self_eq_true _
                            clear hgt hVl hchk hno hfz h3 hv hfv hS9 hex
                            go_wp2_with fail
                            with_reducible refine HVl.out.mono ?_
                            rintro e w7 ⟨rfl, hb⟩
                            have c2 := cell9_blk ((hb.block g6 (blk9_lt HF.out.1)).trans HF.out.1) 2 rfl
                            have HB7 := Lib.hid (HB6.out.1.trans (hb.mono HB6.out.1.size))
                            clear hb
                            go_wp2_with fail
                            exact ⟨⟨j + 1, by go_num, hjm, HB7.out⟩, by simp [intOf]; omega⟩
              · obtain rfl : m = j := by omega
                clear hb hbw hrF
                go_wp2_with fail
                with_reducible refine (HSu.out _ (HM.out.1.below HW.out.2)).mono ?_
                rintro e w9 ⟨rfl, hb⟩
                have HB9 := Lib.hid (HW.out.2.trans (hb.mono HW.out.2.size))
                clear hb
                go_wp2_with fail
                go_ret
                exact ret_trueI HB9.out
end Go.Proofs.YthnogakjaaopkaaGreatDoor

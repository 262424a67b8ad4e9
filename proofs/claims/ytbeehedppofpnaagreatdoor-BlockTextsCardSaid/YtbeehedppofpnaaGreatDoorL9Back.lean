/- Law BlockBack: its walk. -/
import Derived.Test.YtbeehedppofpnaaGreatDoorL9Sure
import Derived.Test.YtbeehedppofpnaaGreatDoorBkSl
import Derived.Test.YtbeehedppofpnaaGreatDoorBkGv
namespace Go.Proofs.YtbeehedppofpnaaGreatDoor
open Go.RowKit

/-- Text by its plain answer. -/
theorem text_by {L : List MB} {t : Tx} {k : Nat} (hq : textT (L.map zB) = (t, k)) (hl : L.length ≤ 1024) (hs : ∀ b ∈ L, Smal 9000 b) (v : Value) (W : World) (hv : RowB W v L) :
    Calls Tryz.prog 13 #[v] W fun e w' => e = .returned (.tuple #[.string (str t), errE k]) ∧ Below W.heap.size W w' := by
  have h := text_any v L W hl hs hv
  unfold TxP at h
  rw [hq] at h
  exact h
/-- Parse by its plain answer. -/
theorem parse_by {t : Tx} {B : List Bk} {n k : Nat} (hq : parseT t = (B, n, k)) (hl : t.length ≤ 9223372036854775807) (W : World) (hm : Mx W) (hg : ErrT W) :
    Calls Tryz.prog 7 #[.string (str t)] W fun e w' => ∃ v, e = .returned (.tuple #[v, .agg #[.int .i64 (n : Int), .int .i64 (k : Int)], errE k]) ∧ RowB w' v (B.map iB) ∧ Below W.heap.size W w' := by
  have h := parse_any t W hl hm hg
  rw [hq] at h
  exact h
theorem errE_some {k : Nat} (h : k ≠ 0) : errE k = .iface 24 (.int .i64 (k : Int)) := if_neg h
set_option maxHeartbeats 8000000 in
set_option maxRecDepth 100000 in
theorem back_walk (L : List MB) (v : Value) (sb : ByteArray) (w : World) (hm : Mx w) (hg : ErrT w) (hset : RowB w v L) (hs : sb.size ≤ maxLen) :
    Calls Tryz.prog 5 #[v, .string sb] w fun e w' => e = .returned (.bool true) ∧ Below w.heap.size w w' := by
  obtain ⟨ls, rfl⟩ : ∃ l, sb = str l := ⟨sb.data.toList, (str_of sb).symm⟩
  have hll : ls.length ≤ 9223372036854775807 := hs
  have hL : L.length ≤ 9223372036854775807 := by
    obtain ⟨A, c, rfl, hr⟩ := hset.form
    exact Nat.le_trans hr.parts.2.1 (Nat.le_trans hr.parts.2.2.1 (by decide))
  have HLg := Lib.hid (large_any v L w hL hset)
  have HSu := Lib.hid (fun W h1 h2 => sure_any9 W h1 h2)
  have HM := Lib.hid (And.intro hm (And.intro hg hset))
  obtain ⟨c, hc⟩ : ∃ c, ls.length = c := ⟨_, rfl⟩
  have hsz : (str ls).size = c := hc
  have HLL := Lib.hid hll
  rcases hqs : parseT ls with ⟨A1, ln, er⟩
  have HPs := Lib.hid hqs
  obtain ⟨S, hS⟩ : ∃ S, str ls = S := ⟨_, rfl⟩
  have HSS := Lib.hid hS
  rw [hS] at hsz ⊢
  clear hm hg hset hs hL hll hqs hc hS
  go_enter Tryz.func5, Tryz.ntmps5
  go_wp2_with fail
  with_reducible refine HLg.out.mono ?_
  rintro e w1 ⟨B, rfl, hb, himp⟩
  have HB1 := Lib.hid hb
  have HI := Lib.hid himp
  clear hb himp HLg
  cases B
  case true =>
    go_wp2_with fail
    with_reducible refine (HSu.out _ (HM.out.1.below HB1.out) (HM.out.2.1.below HB1.out)).mono ?_
    rintro e w2 ⟨rfl, hb⟩
    have HB2 := Lib.hid (HB1.out.trans (hb.mono HB1.out.size))
    clear hb
    go_wp2_with fail
    go_ret
    exact ret_true9 HB2.out
  case false =>
    have HIf := Lib.hid (HI.out rfl)
    by_cases h5 : 5000 < c
    · have d : (5000 : Int) < c := by omega
      clear h5
      go_wp2_with fail
      with_reducible refine (HSu.out _ (HM.out.1.below HB1.out) (HM.out.2.1.below HB1.out)).mono ?_
      rintro e w2 ⟨rfl, hb⟩
      have HB2 := Lib.hid (HB1.out.trans (hb.mono HB1.out.size))
      clear hb
      go_wp2_with fail
      go_ret
      exact ret_true9 HB2.out
    · have d : ¬ (5000 : Int) < c := by omega
      clear h5
      have HGv := Lib.hid (fun W v (hv : RowB W v L) => give_any v L W (by have := HIf.out.1; omega) (fun b hb => by have := (HIf.out.2 b hb).1; omega) hv)
      go_wp2_with fail
      with_reducible refine (HGv.out _ _ (HM.out.2.2.below HB1.out)).mono ?_
      rintro e w2 ⟨v2, rfl, hrow, hb⟩
      have HB2 := Lib.hid (HB1.out.trans (hb.mono HB1.out.size))
      have HR2 := Lib.hid hrow
      clear hb hrow HGv
      rcases hq0 : textT (L.map zB) with ⟨t0, k0⟩
      have HQ0 := Lib.hid hq0
      have HT0 := Lib.hid (fun W v hv => text_by hq0 (by have := HIf.out.1; omega) HIf.out.2 v W hv)
      clear hq0
      by_cases hk0 : k0 = 0
      · subst hk0
        rw [errE_zero] at HT0
        go_wp2_with fail
        with_reducible refine (HT0.out _ _ HR2.out).mono ?_
        rintro e w3 ⟨rfl, hb⟩
        have HB3 := Lib.hid (HB2.out.trans (hb.mono HB2.out.size))
        clear hb
        have hbk := back9 HQ0.out
        have HPt0 := Lib.hid (fun W h1 h2 => parse_by hbk.1 (by have := textT_len HQ0.out; omega) W h1 h2)
        rw [errE_zero] at HPt0
        have HSm := Lib.hid (fun W v1 v2 (h1 : RowB W v1 ((renB 0 (L.map zB)).map iB)) (h2 : RowB W v2 L) => same_any v1 v2 false ((renB 0 (L.map zB)).map iB) L W h1 h2 (sm_sam _ _ hbk.2.1))
        clear hbk
        obtain ⟨T0, hT0⟩ : ∃ x, str t0 = x := ⟨_, rfl⟩
        rw [hT0] at HPt0 ⊢
        clear hT0
        go_wp2_with fail
        with_reducible refine (HPt0.out _ (HM.out.1.below HB3.out) (HM.out.2.1.below HB3.out)).mono ?_
        rintro e w4 ⟨v4, rfl, hrow, hb⟩
        have hb4 := HB3.out.trans (hb.mono HB3.out.size)
        have hb5 := hb4.alloc hb4.size (.cells #[.int .i64 0, .int .i64 0] 26)
        have hf5 := hrow.below ((Below.refl w4.heap.size w4).alloc (Nat.le_refl _) (.cells #[.int .i64 0, .int .i64 0] 26))
        obtain ⟨w5, hw5⟩ : ∃ x, w4.alloc (.cells #[.int .i64 0, .int .i64 0] 26) = x := ⟨_, rfl⟩
        rw [hw5] at hb5 hf5
        have HW5 := Lib.hid hw5
        clear hw5
        have HB5 := Lib.hid hb5
        have HR5 := Lib.hid hf5
        clear hrow hb hb4 hb5 hf5
        go_wp2_with fail
        rw [HW5.out]
        with_reducible refine (HSm.out _ _ _ HR5.out (HM.out.2.2.below HB5.out)).mono ?_
        rintro e w6 ⟨rfl, hb⟩
        have HB6 := Lib.hid (HB5.out.trans (hb.mono HB5.out.size))
        clear hb HSm HPt0
        go_wp2_with fail
        have HPx := Lib.hid (fun W h1 h2 => parse_by HPs.out HLL.out W h1 h2)
        rw [HSS.out] at HPx
        by_cases her : er = 0
        · subst her
          rw [errE_zero] at HPx
          with_reducible refine (HPx.out _ (HM.out.1.below HB6.out) (HM.out.2.1.below HB6.out)).mono ?_
          rintro e w11 ⟨v11, rfl, hrow, hb⟩
          obtain ⟨a11, c11, rfl, hf⟩ := hrow.form
          have hb11 := HB6.out.trans (hb.mono HB6.out.size)
          have hb12 := hb11.alloc hb11.size (.cells #[.int .i64 (ln : Int), .int .i64 0] 26)
          have hf12 := hf.below ((Below.refl w11.heap.size w11).alloc (Nat.le_refl _) (.cells #[.int .i64 (ln : Int), .int .i64 0] 26))
          obtain ⟨w12, hw12⟩ : ∃ x, w11.alloc (.cells #[.int .i64 (ln : Int), .int .i64 0] 26) = x := ⟨_, rfl⟩
          rw [hw12] at hb12 hf12
          have HW12 := Lib.hid hw12
          clear hw12
          have HB12 := Lib.hid hb12
          have HR12 := Lib.hid hf12
          have hfit := parse_fits ls (by rw [HPs.out])
          rw [HPs.out] at hfit
          dsimp only at hfit
          rcases hq1 : textT A1 with ⟨t1, k1⟩
          have hq1' : textT ((A1.map iB).map zB) = (t1, k1) := by rw [z_iL]; exact hq1
          have HT1 := Lib.hid (fun W v hv => text_by hq1' hfit.1 hfit.2 v W hv)
          have HQ1 := Lib.hid hq1
          have hn1 : (A1.map iB).length ≤ 1024 := hfit.1
          obtain ⟨n1, hne⟩ : ∃ x, (A1.map iB).length = x := ⟨_, rfl⟩
          have HNE := Lib.hid hne
          rw [hne] at HR12 hn1 ⊢
          clear hrow hb hf hb11 hb12 hf12 hfit hq1 hq1' hne
          go_wp2_with fail
          rw [HW12.out]
          by_cases hk1 : k1 = 0
          · subst hk1
            rw [errE_zero] at HT1
            with_reducible refine (HT1.out _ _ HR12.out).mono ?_
            rintro e w13 ⟨rfl, hb⟩
            have HB13 := Lib.hid (HB12.out.trans (hb.mono HB12.out.size))
            clear hb
            have hbk := back9 HQ1.out
            have HPt := Lib.hid (fun W h1 h2 => parse_by hbk.1 (by have := textT_len HQ1.out; omega) W h1 h2)
            rw [errE_zero] at HPt
            have hfit := parse_fits t1 (by rw [hbk.1])
            rw [hbk.1] at hfit
            dsimp only at hfit
            have hq2 : textT (((renB 0 A1).map iB).map zB) = (t1, 0) := by rw [z_iL]; exact hbk.2.2
            have HT2 := Lib.hid (fun W v hv => text_by hq2 hfit.1 hfit.2 v W hv)
            rw [errE_zero] at HT2
            have hn2 : ((renB 0 A1).map iB).length = n1 := by rw [← HNE.out, List.length_map, List.length_map, renB_len]
            have HN2 := Lib.hid hn2
            clear hbk hfit hq2 hn2
            obtain ⟨T1, hT1⟩ : ∃ x, str t1 = x := ⟨_, rfl⟩
            rw [hT1] at HPt HT2 ⊢
            clear hT1
            go_wp2_with fail
            with_reducible refine (HPt.out _ (HM.out.1.below HB13.out) (HM.out.2.1.below HB13.out)).mono ?_
            rintro e w14 ⟨v14, rfl, hrow, hb⟩
            obtain ⟨a14, c14, rfl, hf⟩ := hrow.form
            have hb14 := HB13.out.trans (hb.mono HB13.out.size)
            have hb15 := hb14.alloc hb14.size (.cells #[.int .i64 0, .int .i64 0] 26)
            have hf15 := hf.below ((Below.refl w14.heap.size w14).alloc (Nat.le_refl _) (.cells #[.int .i64 0, .int .i64 0] 26))
            obtain ⟨w15, hw15⟩ : ∃ x, w14.alloc (.cells #[.int .i64 0, .int .i64 0] 26) = x := ⟨_, rfl⟩
            rw [hw15] at hb15 hf15
            have HW15 := Lib.hid hw15
            clear hw15
            have HB15 := Lib.hid hb15
            have HR15 := Lib.hid hf15
            rw [HN2.out] at HR15 ⊢
            have q1 : ((n1 : Int) == (n1 : Int)) = true := beq_self_eq_true _
            clear hrow hb hf hb14 hb15 hf15
            go_wp2_with fail
            rw [HW15.out]
            with_reducible refine (HT2.out _ _ HR15.out).mono ?_
            rintro e w16 ⟨rfl, hb⟩
            have HB16 := Lib.hid (HB15.out.trans (hb.mono HB15.out.size))
            clear hb
            go_wp2_with fail
            with_reducible refine (HSu.out _ (HM.out.1.below HB16.out) (HM.out.2.1.below HB16.out)).mono ?_
            rintro e wz ⟨rfl, hb⟩
            have HBz := Lib.hid (HB16.out.trans (hb.mono HB16.out.size))
            clear hb
            go_wp2_with fail
            go_ret
            exact ret_true9 HBz.out
          · rw [errE_some hk1] at HT1
            with_reducible refine (HT1.out _ _ HR12.out).mono ?_
            rintro e w13 ⟨rfl, hb⟩
            have HB13 := Lib.hid (HB12.out.trans (hb.mono HB12.out.size))
            clear hb
            go_wp2_with fail
            with_reducible refine (HSu.out _ (HM.out.1.below HB13.out) (HM.out.2.1.below HB13.out)).mono ?_
            rintro e wz ⟨rfl, hb⟩
            have HBz := Lib.hid (HB13.out.trans (hb.mono HB13.out.size))
            clear hb
            go_wp2_with fail
            go_ret
            exact ret_true9 HBz.out
        · rw [errE_some her] at HPx
          with_reducible refine (HPx.out _ (HM.out.1.below HB6.out) (HM.out.2.1.below HB6.out)).mono ?_
          rintro e w11 ⟨v11, rfl, hrow, hb⟩
          have hb11 := HB6.out.trans (hb.mono HB6.out.size)
          have hb12 := hb11.alloc hb11.size (.cells #[.int .i64 (ln : Int), .int .i64 (er : Int)] 26)
          obtain ⟨w12, hw12⟩ : ∃ x, w11.alloc (.cells #[.int .i64 (ln : Int), .int .i64 (er : Int)] 26) = x := ⟨_, rfl⟩
          rw [hw12] at hb12
          have HW12 := Lib.hid hw12
          clear hw12
          have HB12 := Lib.hid hb12
          clear hrow hb hb11 hb12
          go_wp2_with fail
          rw [HW12.out]
          with_reducible refine (HSu.out _ (HM.out.1.below HB12.out) (HM.out.2.1.below HB12.out)).mono ?_
          rintro e wz ⟨rfl, hb⟩
          have HBz := Lib.hid (HB12.out.trans (hb.mono HB12.out.size))
          clear hb
          go_wp2_with fail
          go_ret
          exact ret_true9 HBz.out
      · rw [errE_some hk0] at HT0
        go_wp2_with fail
        with_reducible refine (HT0.out _ _ HR2.out).mono ?_
        rintro e w3 ⟨rfl, hb⟩
        have HB3 := Lib.hid (HB2.out.trans (hb.mono HB2.out.size))
        clear hb
        go_wp2_with fail
        have HPx := Lib.hid (fun W h1 h2 => parse_by HPs.out HLL.out W h1 h2)
        rw [HSS.out] at HPx
        by_cases her : er = 0
        · subst her
          rw [errE_zero] at HPx
          with_reducible refine (HPx.out _ (HM.out.1.below HB3.out) (HM.out.2.1.below HB3.out)).mono ?_
          rintro e w11 ⟨v11, rfl, hrow, hb⟩
          obtain ⟨a11, c11, rfl, hf⟩ := hrow.form
          have hb11 := HB3.out.trans (hb.mono HB3.out.size)
          have hb12 := hb11.alloc hb11.size (.cells #[.int .i64 (ln : Int), .int .i64 0] 26)
          have hf12 := hf.below ((Below.refl w11.heap.size w11).alloc (Nat.le_refl _) (.cells #[.int .i64 (ln : Int), .int .i64 0] 26))
          obtain ⟨w12, hw12⟩ : ∃ x, w11.alloc (.cells #[.int .i64 (ln : Int), .int .i64 0] 26) = x := ⟨_, rfl⟩
          rw [hw12] at hb12 hf12
          have HW12 := Lib.hid hw12
          clear hw12
          have HB12 := Lib.hid hb12
          have HR12 := Lib.hid hf12
          have hfit := parse_fits ls (by rw [HPs.out])
          rw [HPs.out] at hfit
          dsimp only at hfit
          rcases hq1 : textT A1 with ⟨t1, k1⟩
          have hq1' : textT ((A1.map iB).map zB) = (t1, k1) := by rw [z_iL]; exact hq1
          have HT1 := Lib.hid (fun W v hv => text_by hq1' hfit.1 hfit.2 v W hv)
          have HQ1 := Lib.hid hq1
          have hn1 : (A1.map iB).length ≤ 1024 := hfit.1
          obtain ⟨n1, hne⟩ : ∃ x, (A1.map iB).length = x := ⟨_, rfl⟩
          have HNE := Lib.hid hne
          rw [hne] at HR12 hn1 ⊢
          clear hrow hb hf hb11 hb12 hf12 hfit hq1 hq1' hne
          go_wp2_with fail
          rw [HW12.out]
          by_cases hk1 : k1 = 0
          · subst hk1
            rw [errE_zero] at HT1
            with_reducible refine (HT1.out _ _ HR12.out).mono ?_
            rintro e w13 ⟨rfl, hb⟩
            have HB13 := Lib.hid (HB12.out.trans (hb.mono HB12.out.size))
            clear hb
            have hbk := back9 HQ1.out
            have HPt := Lib.hid (fun W h1 h2 => parse_by hbk.1 (by have := textT_len HQ1.out; omega) W h1 h2)
            rw [errE_zero] at HPt
            have hfit := parse_fits t1 (by rw [hbk.1])
            rw [hbk.1] at hfit
            dsimp only at hfit
            have hq2 : textT (((renB 0 A1).map iB).map zB) = (t1, 0) := by rw [z_iL]; exact hbk.2.2
            have HT2 := Lib.hid (fun W v hv => text_by hq2 hfit.1 hfit.2 v W hv)
            rw [errE_zero] at HT2
            have hn2 : ((renB 0 A1).map iB).length = n1 := by rw [← HNE.out, List.length_map, List.length_map, renB_len]
            have HN2 := Lib.hid hn2
            clear hbk hfit hq2 hn2
            obtain ⟨T1, hT1⟩ : ∃ x, str t1 = x := ⟨_, rfl⟩
            rw [hT1] at HPt HT2 ⊢
            clear hT1
            go_wp2_with fail
            with_reducible refine (HPt.out _ (HM.out.1.below HB13.out) (HM.out.2.1.below HB13.out)).mono ?_
            rintro e w14 ⟨v14, rfl, hrow, hb⟩
            obtain ⟨a14, c14, rfl, hf⟩ := hrow.form
            have hb14 := HB13.out.trans (hb.mono HB13.out.size)
            have hb15 := hb14.alloc hb14.size (.cells #[.int .i64 0, .int .i64 0] 26)
            have hf15 := hf.below ((Below.refl w14.heap.size w14).alloc (Nat.le_refl _) (.cells #[.int .i64 0, .int .i64 0] 26))
            obtain ⟨w15, hw15⟩ : ∃ x, w14.alloc (.cells #[.int .i64 0, .int .i64 0] 26) = x := ⟨_, rfl⟩
            rw [hw15] at hb15 hf15
            have HW15 := Lib.hid hw15
            clear hw15
            have HB15 := Lib.hid hb15
            have HR15 := Lib.hid hf15
            rw [HN2.out] at HR15 ⊢
            have q1 : ((n1 : Int) == (n1 : Int)) = true := beq_self_eq_true _
            clear hrow hb hf hb14 hb15 hf15
            go_wp2_with fail
            rw [HW15.out]
            with_reducible refine (HT2.out _ _ HR15.out).mono ?_
            rintro e w16 ⟨rfl, hb⟩
            have HB16 := Lib.hid (HB15.out.trans (hb.mono HB15.out.size))
            clear hb
            go_wp2_with fail
            with_reducible refine (HSu.out _ (HM.out.1.below HB16.out) (HM.out.2.1.below HB16.out)).mono ?_
            rintro e wz ⟨rfl, hb⟩
            have HBz := Lib.hid (HB16.out.trans (hb.mono HB16.out.size))
            clear hb
            go_wp2_with fail
            go_ret
            exact ret_true9 HBz.out
          · rw [errE_some hk1] at HT1
            with_reducible refine (HT1.out _ _ HR12.out).mono ?_
            rintro e w13 ⟨rfl, hb⟩
            have HB13 := Lib.hid (HB12.out.trans (hb.mono HB12.out.size))
            clear hb
            go_wp2_with fail
            with_reducible refine (HSu.out _ (HM.out.1.below HB13.out) (HM.out.2.1.below HB13.out)).mono ?_
            rintro e wz ⟨rfl, hb⟩
            have HBz := Lib.hid (HB13.out.trans (hb.mono HB13.out.size))
            clear hb
            go_wp2_with fail
            go_ret
            exact ret_true9 HBz.out
        · rw [errE_some her] at HPx
          with_reducible refine (HPx.out _ (HM.out.1.below HB3.out) (HM.out.2.1.below HB3.out)).mono ?_
          rintro e w11 ⟨v11, rfl, hrow, hb⟩
          have hb11 := HB3.out.trans (hb.mono HB3.out.size)
          have hb12 := hb11.alloc hb11.size (.cells #[.int .i64 (ln : Int), .int .i64 (er : Int)] 26)
          obtain ⟨w12, hw12⟩ : ∃ x, w11.alloc (.cells #[.int .i64 (ln : Int), .int .i64 (er : Int)] 26) = x := ⟨_, rfl⟩
          rw [hw12] at hb12
          have HW12 := Lib.hid hw12
          clear hw12
          have HB12 := Lib.hid hb12
          clear hrow hb hb11 hb12
          go_wp2_with fail
          rw [HW12.out]
          with_reducible refine (HSu.out _ (HM.out.1.below HB12.out) (HM.out.2.1.below HB12.out)).mono ?_
          rintro e wz ⟨rfl, hb⟩
          have HBz := Lib.hid (HB12.out.trans (hb.mono HB12.out.size))
          clear hb
          go_wp2_with fail
          go_ret
          exact ret_true9 HBz.out
end Go.Proofs.YtbeehedppofpnaaGreatDoor

/- Law GraphOrders: its walk. -/
import Derived.Test.YthmklmilgcjmlaaDoorGrNu
namespace Go.Proofs.YthmklmilgcjmlaaDoor
open Go.RowKit

set_option maxHeartbeats 4000000 in
set_option maxRecDepth 100000 in
theorem orders_walk (hP : PgG) (n : Int) (v : Value) (L : List (Int × Int)) (w : World) (hE : ErrT w) (hn : I64 n) (hv : RowW w v L) :
    Calls Tryd.prog 3 #[.int .i64 n, v] w fun e w' => e = .returned (.bool true) ∧ Below w.heap.size w w' := by
  obtain ⟨A, c, rfl, hr⟩ := hv.form
  obtain ⟨m, hm⟩ : ∃ m, L.length = m := ⟨_, rfl⟩
  rw [hm] at hr ⊢
  have HS := Lib.hid (fun W => sure_any hP W)
  have H1 := Lib.hid (And.intro hE (And.intro hr (And.intro hn hm)))
  have HH := Lib.hid (huge_any n A m c w)
  have HLp := Lib.hid (fun W (hb : Below w.heap.size w W) => hP.lp n (.slice A m c) L W hn (hr.below hb))
  have HOr := Lib.hid (fun W (hb : Below w.heap.size w W) => hP.or_ n (.slice A m c) L W hn (hr.below hb))
  have HDp := Lib.hid (fun W (hb : Below w.heap.size w W) => hP.dp n (.slice A m c) L W hn (hr.below hb))
  have HCk := Lib.hid (fun W (hb : Below w.heap.size w W) => hP.ck n (.slice A m c) L W hn (hr.below hb))
  have HC := Lib.hid (refCk_any n (.slice A m c) L w hn hr)
  have HNu := Lib.hid (fun q W (hb : Below w.heap.size w W) => num_any q W (hE.below hb))
  clear hv hr hE hP hm
  cases hb : hugeB n m
  case true =>
    rw [hb] at HH
    clear hb
    go_enter Tryd.func3, Tryd.ntmps3
    go_wp2_with fail
    with_reducible refine HH.out.mono ?_
    rintro e w1 ⟨rfl, rfl⟩
    go_wp2_with fail
    with_reducible refine (HS.out _).mono ?_
    rintro e w9 ⟨rfl, hb⟩
    have HB9 := Lib.hid hb
    clear hb
    go_wp2_with fail
    go_ret
    exact ret_true9 HB9.out
  case false =>
    rw [hb] at HH
    clear hb
    by_cases hck : ckW n L = 0
    · obtain ⟨k, rfl, hk, hlen, hM, hL⟩ := ckW_ok hck
      rw [hck] at HCk HC
      obtain ⟨M, hMe⟩ : ∃ M, ntW L = M := ⟨_, rfl⟩
      rw [hMe] at hM hL
      have hcst : L = cst M := hL
      have HDo := Lib.hid (fun W (hb : Below w.heap.size w W) => refLp_any k (.slice A m c) M W hk hM (by rw [← hcst]; exact H1.out.2.1.below hb))
      cases hlp : lpT M k with
      | some x =>
        have hlp' : lpT (ntW L) ((k : Int)).toNat = some x := by rw [hMe, Int.toNat_natCast]; exact hlp
        have hne : lpT (ntW L) ((k : Int)).toNat ≠ none := by rw [hlp']; simp
        rw [lpA_yes hck hlp'] at HLp
        rw [orA_loop hck hne] at HOr
        rw [dpA_loop hck hne] at HDp
        rw [lpI_some hlp] at HDo
        have x0 : (0 : Int) ≤ x := by omega
        have xg : (x : Int) ≥ 0 := by omega
        clear hM hL hcst hMe hck hlp hlp' hne
        go_enter Tryd.func3, Tryd.ntmps3
        go_wp2_with fail
        with_reducible refine HH.out.mono ?_
        rintro e w1 ⟨rfl, rfl⟩
        go_wp2_with fail
        with_reducible refine HC.out.mono ?_
        rintro e w2 ⟨rfl, rfl⟩
        go_wp2_with fail
        with_reducible refine (HLp.out _ (Below.refl _ _)).mono ?_
        rintro e w3 ⟨rfl, hb3⟩
        have HB3 := Lib.hid hb3
        clear hb3
        rw [errE_zero]
        go_wp2_with fail
        with_reducible refine (HOr.out _ HB3.out).mono ?_
        rintro e w4 ⟨A4, c4, rfl, hr4, hb4⟩
        have HB4 := Lib.hid (HB3.out.trans (hb4.mono HB3.out.size))
        clear hr4 hb4
        go_wp2_with fail
        with_reducible refine (HDp.out _ HB4.out).mono ?_
        rintro e w5 ⟨A5, c5, rfl, hr5, hb5⟩
        have HB5 := Lib.hid (HB4.out.trans (hb5.mono HB4.out.size))
        clear hr5 hb5
        go_wp2_with fail
        with_reducible refine (HCk.out _ HB5.out).mono ?_
        rintro e w6 ⟨rfl, hb6⟩
        have HB6 := Lib.hid (HB5.out.trans (hb6.mono HB5.out.size))
        clear hb6
        have HN0 := Lib.hid (fun W (hb : Below w2.heap.size w2 W) => HNu.out 0 W hb)
        rw [errE_zero] at HN0
        rw [errE_zero]
        go_wp2_with fail
        with_reducible refine (HN0.out _ HB6.out).mono ?_
        rintro e w7 ⟨rfl, hb7⟩
        have HB7 := Lib.hid (HB6.out.trans (hb7.mono HB6.out.size))
        clear hb7
        go_wp2_with fail
        with_reducible refine (HN0.out _ HB7.out).mono ?_
        rintro e w8 ⟨rfl, hb8⟩
        have HB8 := Lib.hid (HB7.out.trans (hb8.mono HB7.out.size))
        clear hb8
        go_wp2_with fail
        with_reducible refine (HDo.out _ HB8.out).mono ?_
        rintro e w10 ⟨rfl, hb10⟩
        have HB10 := Lib.hid (HB8.out.trans (hb10.mono HB8.out.size))
        clear hb10
        go_wp2_with fail
        with_reducible refine (HNu.out 9 _ HB10.out).mono ?_
        rintro e w11 ⟨rfl, hb11⟩
        have HB11 := Lib.hid (HB10.out.trans (hb11.mono HB10.out.size))
        clear hb11
        go_wp2_with fail
        with_reducible refine (HNu.out 9 _ HB11.out).mono ?_
        rintro e w12 ⟨rfl, hb12⟩
        have HB12 := Lib.hid (HB11.out.trans (hb12.mono HB11.out.size))
        clear hb12
        go_wp2_with fail
        with_reducible refine (HS.out _).mono ?_
        rintro e w9 ⟨rfl, hb⟩
        have HB9 := Lib.hid (HB12.out.trans (hb.mono HB12.out.size))
        clear hb
        go_wp2_with fail
        go_ret
        exact ret_true9 HB9.out
      | none =>
        have hlp' : lpT (ntW L) ((k : Int)).toNat = none := by rw [hMe, Int.toNat_natCast]; exact hlp
        have hcy := (lpT_none hM).1 hlp
        rw [lpA_no hck hlp'] at HLp
        rw [orA_ok hck hlp', hMe, Int.toNat_natCast] at HOr
        rw [dpA_ok hck hlp', hMe, Int.toNat_natCast] at HDp
        rw [lpI_none hlp] at HDo
        have HRo := Lib.hid (fun W (hb : Below w.heap.size w W) => refOr_any k (.slice A m c) M W hk hM hcy (by rw [← hcst]; exact H1.out.2.1.below hb))
        have HRd := Lib.hid (fun W (hb : Below w.heap.size w W) => refDp_any k (.slice A m c) M W hk hM hcy (by rw [← hcst]; exact H1.out.2.1.below hb))
        obtain ⟨O, hO⟩ : ∃ O, ordT M k = O := ⟨_, rfl⟩
        obtain ⟨D, hD⟩ : ∃ D, (List.range k).map (dpT M k) = D := ⟨_, rfl⟩
        rw [hO] at HOr HRo
        rw [hD] at HDp HRd
        clear hM hL hcst hMe hck hlp hlp' hcy hO hD
        go_enter Tryd.func3, Tryd.ntmps3
        go_wp2_with fail
        with_reducible refine HH.out.mono ?_
        rintro e w1 ⟨rfl, rfl⟩
        go_wp2_with fail
        with_reducible refine HC.out.mono ?_
        rintro e w2 ⟨rfl, rfl⟩
        go_wp2_with fail
        with_reducible refine (HLp.out _ (Below.refl _ _)).mono ?_
        rintro e w3 ⟨rfl, hb3⟩
        have HB3 := Lib.hid hb3
        clear hb3
        rw [errE_zero]
        go_wp2_with fail
        with_reducible refine (HOr.out _ HB3.out).mono ?_
        rintro e w4 ⟨A4, c4, rfl, hr4, hb4⟩
        dsimp only at hr4 ⊢
        obtain ⟨q4, hq4⟩ : ∃ q, O.length = q := ⟨_, rfl⟩
        rw [hq4] at hr4 ⊢
        rw [errE_zero]
        have HB4 := Lib.hid (HB3.out.trans (hb4.mono HB3.out.size))
        have HR4 := Lib.hid hr4
        clear hr4 hb4 hq4
        go_wp2_with fail
        with_reducible refine (HDp.out _ HB4.out).mono ?_
        rintro e w5 ⟨A5, c5, rfl, hr5, hb5⟩
        dsimp only at hr5 ⊢
        obtain ⟨q5, hq5⟩ : ∃ q, D.length = q := ⟨_, rfl⟩
        rw [hq5] at hr5 ⊢
        rw [errE_zero]
        have HB5 := Lib.hid (HB4.out.trans (hb5.mono HB4.out.size))
        have HR5 := Lib.hid hr5
        have HR45 := Lib.hid (HR4.out.below hb5)
        clear hr5 hb5 hq5
        go_wp2_with fail
        with_reducible refine (HCk.out _ HB5.out).mono ?_
        rintro e w6 ⟨rfl, hb6⟩
        have HB6 := Lib.hid (HB5.out.trans (hb6.mono HB5.out.size))
        have HR6 := Lib.hid (And.intro (HR45.out.below hb6) (HR5.out.below hb6))
        clear hb6
        have HN0 := Lib.hid (fun W (hb : Below w2.heap.size w2 W) => HNu.out 0 W hb)
        rw [errE_zero] at HN0
        rw [errE_zero]
        go_wp2_with fail
        with_reducible refine (HN0.out _ HB6.out).mono ?_
        rintro e w7 ⟨rfl, hb7⟩
        have HB7 := Lib.hid (HB6.out.trans (hb7.mono HB6.out.size))
        have HR7 := Lib.hid (And.intro (HR6.out.1.below hb7) (HR6.out.2.below hb7))
        clear hb7
        go_wp2_with fail
        with_reducible refine (HN0.out _ HB7.out).mono ?_
        rintro e w8 ⟨rfl, hb8⟩
        have HB8 := Lib.hid (HB7.out.trans (hb8.mono HB7.out.size))
        have HR8 := Lib.hid (And.intro (HR7.out.1.below hb8) (HR7.out.2.below hb8))
        clear hb8
        go_wp2_with fail
        with_reducible refine (HDo.out _ HB8.out).mono ?_
        rintro e w10 ⟨rfl, hb10⟩
        have HB10 := Lib.hid (HB8.out.trans (hb10.mono HB8.out.size))
        have HR10 := Lib.hid (And.intro (HR8.out.1.below hb10) (HR8.out.2.below hb10))
        clear hb10
        go_wp2_with fail
        with_reducible refine (HRo.out _ HB10.out).mono ?_
        rintro e w11 ⟨o, rfl, hr11, hb11⟩
        have HI := Lib.hid (ints_any _ _ _ _ w11 (HR10.out.1.below hb11) hr11)
        have HB11 := Lib.hid (HB10.out.trans (hb11.mono HB10.out.size))
        have HR11 := Lib.hid (HR10.out.2.below hb11)
        clear hb11 hr11
        go_wp2_with fail
        with_reducible refine HI.out.mono ?_
        rintro e w12 ⟨rfl, hb12⟩
        simp only [decide_true]
        have HB12 := Lib.hid (HB11.out.trans (hb12.mono HB11.out.size))
        have HR12 := Lib.hid (HR11.out.below hb12)
        clear hb12
        go_wp2_with fail
        with_reducible refine (HRd.out _ HB12.out).mono ?_
        rintro e w13 ⟨o2, rfl, hr13, hb13⟩
        have HI2 := Lib.hid (ints_any _ _ _ _ w13 (HR12.out.below hb13) hr13)
        have HB13 := Lib.hid (HB12.out.trans (hb13.mono HB12.out.size))
        clear hb13 hr13
        go_wp2_with fail
        with_reducible refine HI2.out.mono ?_
        rintro e w14 ⟨rfl, hb14⟩
        simp only [decide_true]
        have HB14 := Lib.hid (HB13.out.trans (hb14.mono HB13.out.size))
        clear hb14
        go_wp2_with fail
        with_reducible refine (HS.out _).mono ?_
        rintro e w9 ⟨rfl, hb⟩
        have HB9 := Lib.hid (HB14.out.trans (hb.mono HB14.out.size))
        clear hb
        go_wp2_with fail
        go_ret
        exact ret_true9 HB9.out
    · rw [lpA_bad hck] at HLp
      rw [orA_bad hck] at HOr
      rw [dpA_bad hck] at HDp
      obtain ⟨q, hq⟩ : ∃ q, ckW n L = q := ⟨_, rfl⟩
      rw [hq] at HC HCk HLp HOr HDp hck
      have d : ¬ ((q : Int) = 0) := by omega
      clear hq hck
      go_enter Tryd.func3, Tryd.ntmps3
      go_wp2_with fail
      with_reducible refine HH.out.mono ?_
      rintro e w1 ⟨rfl, rfl⟩
      go_wp2_with fail
      with_reducible refine HC.out.mono ?_
      rintro e w2 ⟨rfl, rfl⟩
      go_wp2_with fail
      with_reducible refine (HLp.out _ (Below.refl _ _)).mono ?_
      rintro e w3 ⟨rfl, hb3⟩
      have HB3 := Lib.hid hb3
      clear hb3
      go_wp2_with fail
      with_reducible refine (HOr.out _ HB3.out).mono ?_
      rintro e w4 ⟨A4, c4, rfl, hr4, hb4⟩
      have HB4 := Lib.hid (HB3.out.trans (hb4.mono HB3.out.size))
      clear hr4 hb4
      go_wp2_with fail
      with_reducible refine (HDp.out _ HB4.out).mono ?_
      rintro e w5 ⟨A5, c5, rfl, hr5, hb5⟩
      have HB5 := Lib.hid (HB4.out.trans (hb5.mono HB4.out.size))
      clear hr5 hb5
      go_wp2_with fail
      with_reducible refine (HCk.out _ HB5.out).mono ?_
      rintro e w6 ⟨rfl, hb6⟩
      have HB6 := Lib.hid (HB5.out.trans (hb6.mono HB5.out.size))
      clear hb6
      go_wp2_with fail
      with_reducible refine (HNu.out q _ HB6.out).mono ?_
      rintro e w7 ⟨rfl, hb7⟩
      have HB7 := Lib.hid (HB6.out.trans (hb7.mono HB6.out.size))
      clear hb7
      go_wp2_with fail
      with_reducible refine (HNu.out q _ HB7.out).mono ?_
      rintro e w8 ⟨rfl, hb8⟩
      have HB8 := Lib.hid (HB7.out.trans (hb8.mono HB7.out.size))
      clear hb8
      go_wp2_with fail
      with_reducible refine (HNu.out q _ HB8.out).mono ?_
      rintro e w11 ⟨rfl, hb11⟩
      have HB11 := Lib.hid (HB8.out.trans (hb11.mono HB8.out.size))
      clear hb11
      go_wp2_with fail
      with_reducible refine (HNu.out q _ HB11.out).mono ?_
      rintro e w12 ⟨rfl, hb12⟩
      have HB12 := Lib.hid (HB11.out.trans (hb12.mono HB11.out.size))
      clear hb12
      go_wp2_with fail
      with_reducible refine (HS.out _).mono ?_
      rintro e w9 ⟨rfl, hb⟩
      have HB9 := Lib.hid (HB12.out.trans (hb.mono HB12.out.size))
      clear hb
      go_wp2_with fail
      go_ret
      exact ret_true9 HB9.out
end Go.Proofs.YthmklmilgcjmlaaDoor

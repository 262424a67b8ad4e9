/- Law GraphAhead: its walk. -/
import Derived.Test.YthmklmilgcjmlaaDoorGrLc
import Derived.Test.YthmklmilgcjmlaaDoorGrNu
namespace Go.Proofs.YthmklmilgcjmlaaDoor
open Go.RowKit

set_option maxHeartbeats 4000000 in
set_option maxRecDepth 100000 in
theorem ahead_walk (hP : PgG) (n : Int) (v : Value) (L : List (Int × Int)) (w : World) (hE : ErrT w) (hn : I64 n) (hv : RowW w v L) :
    Calls Tryd.prog 5 #[.int .i64 n, v] w fun e w' => e = .returned (.bool true) ∧ Below w.heap.size w w' := by
  obtain ⟨A, c, rfl, hr⟩ := hv.form
  obtain ⟨m, hm⟩ : ∃ m, L.length = m := ⟨_, rfl⟩
  rw [hm] at hr ⊢
  have HS := Lib.hid (fun W => sure_any hP W)
  have H1 := Lib.hid (And.intro hE (And.intro hr (And.intro hn hm)))
  have HH := Lib.hid (huge_any n A m c w)
  have HLp := Lib.hid (fun W (hb : Below w.heap.size w W) => hP.lp n (.slice A m c) L W hn (hr.below hb))
  have HOr := Lib.hid (fun W (hb : Below w.heap.size w W) => hP.or_ n (.slice A m c) L W hn (hr.below hb))
  have HDp := Lib.hid (fun W (hb : Below w.heap.size w W) => hP.dp n (.slice A m c) L W hn (hr.below hb))
  have HRc := Lib.hid (fun f W (hf : I64 f) (hb : Below w.heap.size w W) => hP.rc n (.slice A m c) L f W hn hf (hr.below hb))
  have HCk := Lib.hid (hP.ck n (.slice A m c) L w hn hr)
  have HNu := Lib.hid (fun q W (hb : Below w.heap.size w W) => num_any q W (hE.below hb))
  clear hv hr hE hP
  cases hb : hugeB n m
  case true =>
    rw [hb] at HH
    clear hb hm
    go_enter Tryd.func5, Tryd.ntmps5
    go_wp2_with fail
    with_reducible refine HH.out.mono ?_
    rintro e w1 ⟨rfl, rfl⟩
    go_wp2_with fail
    with_reducible refine (HS.out _).mono ?_
    rintro e w9 ⟨rfl, hb⟩
    have HB9 := Lib.hid hb
    clear hb
    go_wp2_with fail
    go_ret
    exact ret_true9 HB9.out
  case false =>
    rw [hb] at HH
    clear hb
    by_cases hck : ckW n L = 0
    · obtain ⟨k, rfl, hk, hlen, hM, hL⟩ := ckW_ok hck
      rw [hck, errE_zero] at HCk
      obtain ⟨M, hMe⟩ : ∃ M, ntW L = M := ⟨_, rfl⟩
      rw [hMe] at hM hL
      have hcst : L = cst M := hL
      have hmM : M.length = m := by rw [← hm, hcst, cst_len]
      cases hlp : lpT M k with
      | some x =>
        have hlp' : lpT (ntW L) ((k : Int)).toNat = some x := by rw [hMe, Int.toNat_natCast]; exact hlp
        have hne : lpT (ntW L) ((k : Int)).toNat ≠ none := by rw [hlp']; simp
        rw [lpA_yes hck hlp', errE_zero] at HLp
        rw [orA_loop hck hne] at HOr
        have hrcA : ∀ j, j < k → rcA (k : Int) L (j : Int) = (rcT M k j, 0) := fun j hj => by
          rw [rcA_ok hck (by omega), hMe, Int.toNat_natCast, Int.toNat_natCast]
        have hbk := bkI_all hM (lpT_some hlp).2.1
        have HN9 := Lib.hid (fun W (hb : Below w.heap.size w W) => HNu.out 9 W hb)
        rw [err9] at HN9
        have HG := Lib.hid (And.intro hrcA (And.intro hbk (And.intro hM (And.intro hcst hmM))))
        clear hM hL hcst hmM hMe hck hlp hlp' hne hrcA hbk
        go_enter Tryd.func5, Tryd.ntmps5
        go_wp2_with fail
        with_reducible refine HH.out.mono ?_
        rintro e w1 ⟨rfl, rfl⟩
        go_wp2_with fail
        with_reducible refine HCk.out.mono ?_
        rintro e w2 ⟨rfl, hb2⟩
        have HB2 := Lib.hid hb2
        clear hb2
        go_wp2_with fail
        with_reducible refine (HOr.out _ HB2.out).mono ?_
        rintro e w4 ⟨A4, c4, rfl, hr4, hb4⟩
        have HB4 := Lib.hid (HB2.out.trans (hb4.mono HB2.out.size))
        clear hr4 hb4
        rw [err9]
        go_wp2_with fail
        with_reducible refine (HLp.out _ HB4.out).mono ?_
        rintro e w5 ⟨rfl, hb5⟩
        have HB5 := Lib.hid (HB4.out.trans (hb5.mono HB4.out.size))
        clear hb5
        go_wp2_with fail
        with_reducible refine (HN9.out _ HB5.out).mono ?_
        rintro e w6 ⟨rfl, hb6⟩
        have HB6 := Lib.hid (HB5.out.trans (hb6.mono HB5.out.size))
        clear hb6
        go_wp2_with fail
        go_loopw [10, 11] (fun bv iv wr => ∃ (i : Nat) (b : Bool), bv = .bool b ∧ iv = .int .i64 i ∧ i ≤ m ∧ b = bkI M k x i ∧ Below w6.heap.size w6 wr) (fun _ iv _ => m - (intOf iv).toNat)
        case atStart => exact ⟨0, false, rfl, rfl, Nat.zero_le _, rfl, Below.refl _ _⟩
        case round =>
          obtain ⟨i, b, rfl, rfl, hi, hbb, hb⟩ := hrel
          obtain ⟨wA, hwA⟩ : ∃ y, y = wr := ⟨_, rfl⟩
          subst hwA
          have HBb := Lib.hid hbb
          have HW := Lib.hid hb
          clear hbb
          by_cases him : i < m
          · have q0 : (0 : Int) ≤ i := by omega
            have q1 : (i : Int) < m := by omega
            have hil : i < M.length := by rw [HG.out.2.2.2.2]; exact him
            obtain ⟨p, hp⟩ : ∃ p, M[i]? = some p := ⟨_, List.getElem?_eq_getElem hil⟩
            have hpm : p ∈ M := List.mem_of_getElem? hp
            have hrw : RowW wA (.slice A m c) (cst M) := by
              rw [← HG.out.2.2.2.1]
              exact H1.out.2.1.below (HB6.out.trans (hb.mono HB6.out.size))
            obtain ⟨ad, X, rfl, hX, k0', k1'⟩ := hrw.parts.2.2.2 i him _ (cst_get hp)
            obtain ⟨hp1, hp2⟩ := HG.out.2.2.1 p hpm
            dsimp only at k0' k1'
            have hst := bkI_step (n := k) (x := x) hp
            have HP := Lib.hid hst
            obtain ⟨a1, ha1⟩ : ∃ y, p.1 = y := ⟨_, rfl⟩
            obtain ⟨a2, ha2⟩ : ∃ y, p.2 = y := ⟨_, rfl⟩
            rw [ha1] at k0' hp1 HP
            rw [ha2] at k1' hp2 HP
            have hR := HRc.out (a2 : Nat) wA (by constructor <;> omega) (HB6.out.trans (hb.mono HB6.out.size))
            rw [HG.out.1 a2 hp2] at hR
            have HR := Lib.hid hR
            clear hb hil hp hpm hrw hst ha1 ha2 hR
            rcases Nat.decEq a1 x with hax | hax
            · have e1 : ¬ ((a1 : Int) = x) := by omega
              have hno : bkI M k x (i + 1) = b := by rw [HP.out, ← HBb.out, beq_eq_false_iff_ne.2 hax]; simp
              have HNo := Lib.hid hno
              clear hno hax
              go_wp2_with fail
              exact ⟨⟨i + 1, b, rfl, by go_num, him, HNo.out.symm, HW.out⟩, by simp [intOf]; omega⟩
            · subst hax
              go_wp2_with fail
              with_reducible refine HR.out.mono ?_
              rintro e w7 ⟨A7, c7, rfl, hr7, hb7⟩
              obtain ⟨Z, hZ⟩ : ∃ Z, rcT M k a2 = Z := ⟨_, rfl⟩
              rw [hZ] at hr7 HP ⊢
              dsimp only at hr7 ⊢
              obtain ⟨q, hq⟩ : ∃ q, Z.length = q := ⟨_, rfl⟩
              rw [hq] at hr7 ⊢
              rw [errE_zero]
              have HR7 := Lib.hid (And.intro hr7 hq)
              have HB7 := Lib.hid (HW.out.trans (hb7.mono HW.out.size))
              have hq9 : q ≤ 9223372036854775807 := by
                have := hr7.at9.2.1
                have := hr7.at9.2.2.1
                unfold maxLen at this
                omega
              clear hr7 hb7 hZ hq
              go_wp2_with fail
              go_loopw [10, 14] (fun bv jv wr => ∃ (j : Nat) (b' : Bool), bv = .bool b' ∧ jv = .int .i64 j ∧ j ≤ q ∧ b' = (b || (Z.take j).contains a1) ∧ wr = w7) (fun _ jv _ => q - (intOf jv).toNat)
              case atStart => exact ⟨0, b, rfl, rfl, Nat.zero_le _, by simp, rfl⟩
              case round =>
                obtain ⟨j, b', rfl, rfl, hj, hb', rfl⟩ := hrel
                have HBj := Lib.hid hb'
                clear hb'
                by_cases hjq : j < q
                · have s0 : (0 : Int) ≤ j := by omega
                  have s1 : (j : Int) < q := by omega
                  obtain ⟨ad7, y, rfl, hy, cy⟩ := HR7.out.1.at9.2.2.2 j hjq
                  have hst := any_take (x := a1) hy
                  have HY := Lib.hid hst
                  clear hy hst
                  cases b' with
                  | true =>
                    go_wp2_with fail
                    exact ⟨⟨j + 1, true, rfl, by go_num, hjq, by rw [HY.out, ← Bool.or_assoc, ← HBj.out]; simp, trivial⟩, by simp [intOf]; omega⟩
                  | false =>
                    rcases Nat.decEq y a1 with hya | hya
                    · have e2 : ((y : Int) == (a1 : Int)) = false := beq_eq_false_iff_ne.2 (by omega)
                      have e3 : ¬ ((y : Int) = a1) := by omega
                      have HN2 := Lib.hid hya
                      clear hya
                      go_wp2_with fail
                      exact ⟨⟨j + 1, false, rfl, by go_num, hjq, by rw [HY.out, ← Bool.or_assoc, ← HBj.out, beq_eq_false_iff_ne.2 HN2.out]; rfl, trivial⟩, by simp [intOf]; omega⟩
                    · have e2 : ((y : Int) == (a1 : Int)) = true := by rw [hya]; exact beq_self_eq_true _
                      have HN2 := Lib.hid hya
                      clear hya
                      go_wp2_with fail
                      exact ⟨⟨j + 1, true, rfl, by go_num, hjq, by rw [HY.out, ← Bool.or_assoc, ← HBj.out, HN2.out]; simp, trivial⟩, by simp [intOf]; omega⟩
                · obtain rfl : q = j := by omega
                  have hfin : bkI M k a1 (i + 1) = b' := by
                    rw [HP.out, HBj.out, HBb.out, List.take_of_length_le (by rw [HR7.out.2]; exact Nat.le_refl _)]
                    simp
                  have HF := Lib.hid hfin
                  clear hfin
                  go_wp2_with fail
                  exact ⟨⟨i + 1, b', rfl, by go_num, him, HF.out.symm, HB7.out⟩, by simp [intOf]; omega⟩
          · obtain rfl : m = i := by omega
            obtain rfl : true = b := by
              rw [HBb.out]
              have h := HG.out.2.1
              rw [HG.out.2.2.2.2] at h
              exact h.symm
            have HB := Lib.hid (HB6.out.trans (hb.mono HB6.out.size))
            clear hb
            go_wp2_with fail
            with_reducible refine (HS.out _).mono ?_
            rintro e w9 ⟨rfl, hb⟩
            have HB9 := Lib.hid (HB.out.trans (hb.mono HB.out.size))
            clear hb
            go_wp2_with fail
            go_ret
            exact ret_true9 HB9.out
      | none =>
        have hlp' : lpT (ntW L) ((k : Int)).toNat = none := by rw [hMe, Int.toNat_natCast]; exact hlp
        have hcy := (lpT_none hM).1 hlp
        have hok := ordK_ok hM hcy k (Nat.le_refl _)
        rw [orA_ok hck hlp', hMe, Int.toNat_natCast] at HOr
        rw [dpA_ok hck hlp', hMe, Int.toNat_natCast] at HDp
        obtain ⟨O, hO⟩ : ∃ O, ordT M k = O := ⟨_, rfl⟩
        obtain ⟨D, hD⟩ : ∃ D, (List.range k).map (dpT M k) = D := ⟨_, rfl⟩
        rw [hO] at HOr
        rw [hD] at HDp
        have hok2 : Orw M k O ∧ O.length = k := by rw [← hO]; exact hok
        have hDl : D.length = k := by rw [← hD]; simp
        have hDg : ∀ y, y < k → D[y]? = some (dpT M k y) := fun y hy => by rw [← hD, List.getElem?_map, List.getElem?_range hy]; rfl
        have hdl : ∀ p ∈ M, dpT M k p.1 < dpT M k p.2 := fun p hp => dpT_lt hM hcy hp
        have HG := Lib.hid (And.intro hok2 (And.intro hDl (And.intro hDg (And.intro hdl (And.intro hM (And.intro hcst hmM))))))
        have k0 : (0 : Int) ≤ k := by omega
        clear hM hL hcst hmM hMe hck hlp hlp' hcy hO hD hok hok2 hDl hDg hdl
        go_enter Tryd.func5, Tryd.ntmps5
        go_wp2_with fail
        with_reducible refine HH.out.mono ?_
        rintro e w1 ⟨rfl, rfl⟩
        go_wp2_with fail
        with_reducible refine HCk.out.mono ?_
        rintro e w2 ⟨rfl, hb2⟩
        have HB2 := Lib.hid hb2
        clear hb2
        go_wp2_with fail
        with_reducible refine (HOr.out _ HB2.out).mono ?_
        rintro e w4 ⟨A4, c4, rfl, hr4, hb4⟩
        dsimp only at hr4 ⊢
        rw [HG.out.1.2] at hr4 ⊢
        rw [errE_zero]
        have HB4 := Lib.hid (HB2.out.trans (hb4.mono HB2.out.size))
        have HR4 := Lib.hid hr4
        clear hr4 hb4
        go_wp2_with fail
        with_reducible refine (HDp.out _ HB4.out).mono ?_
        rintro e w5 ⟨A5, c5, rfl, hr5, hb5⟩
        dsimp only at hr5 ⊢
        rw [HG.out.2.1] at hr5 ⊢
        rw [errE_zero]
        have HB5 := Lib.hid (HB4.out.trans (hb5.mono HB4.out.size))
        have HR5 := Lib.hid hr5
        have HR45 := Lib.hid (HR4.out.below hb5)
        obtain ⟨V1, hmb, hK1, hb1⟩ := IntB.make w5 k hk
        obtain ⟨bt, hbt⟩ : ∃ x, w5.heap.size = x := ⟨_, rfl⟩
        rw [hbt] at hmb hK1
        have HV := Lib.hid (And.intro hK1 (And.intro hb1 hbt))
        clear hr5 hb5 hK1 hb1 hbt
        go_wp2_with fail
        clear hmb
        go_loopw [18] (fun iv wr => ∃ (i : Nat) (T : List Nat), iv = .int .i64 i ∧ i ≤ k ∧ Below w5.heap.size w5 wr ∧ IntB bt T wr ∧ AtI O k i T) (fun iv _ => k - (intOf iv).toNat)
        case atStart => exact ⟨0, _, rfl, Nat.zero_le _, HV.out.2.1, HV.out.1, AtI.init O k⟩
        case round =>
          obtain ⟨i, T, rfl, hi, hb, hT, hA⟩ := hrel
          by_cases hik : i < k
          · have q0 : (0 : Int) ≤ i := by omega
            have q1 : (i : Int) < k := by omega
            obtain ⟨ad4, y, rfl, hy, cy⟩ := (HR45.out.below hb).at9.2.2.2 i hik
            have hyk : y < k := HG.out.1.1.lt y (List.mem_of_getElem? hy)
            obtain ⟨hz, hA2⟩ := hA.step HG.out.1.1.nd hy hyk
            have ct := hT.load hz
            have fz := hT.frz y
            obtain ⟨V2, hV2⟩ : ∃ u, wr.setCell ⟨bt, y, none⟩ (.int .i64 ((i + 1 : Nat) : Int)) = u := ⟨_, rfl⟩
            have hT2 : IntB bt (T.set y (i + 1)) V2 := by rw [← hV2]; exact hT.set y (i + 1)
            have hb2 : Below w5.heap.size w5 V2 := by rw [← hV2]; exact hb.setCell (by show _ ≤ bt; rw [← HV.out.2.2]; exact Nat.le_refl _) _
            have hV2' : wr.setCell ⟨bt, y, none⟩ (.int .i64 ((i : Int) + 1)) = V2 := by rw [← hV2]; rfl
            have HT := Lib.hid (And.intro hA2 (And.intro hT2 hb2))
            have y0 : (0 : Int) ≤ y := by omega
            have y1 : (y : Int) < k := by omega
            have y2 : ¬ (y : Int) < 0 := by omega
            have y3 : ¬ (y : Int) ≥ k := by omega
            clear hb hT hA hy hyk hz hA2 hT2 hb2 hV2
            go_wp2_with fail
            exact ⟨⟨i + 1, _, by go_num, hik, HT.out.2.2, HT.out.2.1, HT.out.1⟩, by simp [intOf]; omega⟩
          · obtain rfl : k = i := by omega
            obtain ⟨wA, hwA⟩ : ∃ x, x = wr := ⟨_, rfl⟩
            subst hwA
            have HT := Lib.hid (And.intro hb (And.intro hT hA))
            clear hb hT hA
            go_wp2_with fail
            go_loopw [19] (fun iv wr' => ∃ i : Nat, iv = .int .i64 i ∧ i ≤ m ∧ Below wA.heap.size wA wr') (fun iv _ => m - (intOf iv).toNat)
            case atStart => exact ⟨0, rfl, Nat.zero_le _, Below.refl _ _⟩
            case round =>
              obtain ⟨i, rfl, hi, hb⟩ := hrel
              have hbw : Below w5.heap.size w5 wr := HT.out.1.trans (hb.mono HT.out.1.size)
              by_cases him : i < m
              · have q0 : (0 : Int) ≤ i := by omega
                have q1 : (i : Int) < m := by omega
                have hil : i < M.length := by rw [HG.out.2.2.2.2.2.2]; exact him
                obtain ⟨p, hp⟩ : ∃ p, M[i]? = some p := ⟨_, List.getElem?_eq_getElem hil⟩
                have hpm : p ∈ M := List.mem_of_getElem? hp
                have hrw : RowW wr (.slice A m c) (cst M) := by
                  rw [← HG.out.2.2.2.2.2.1]
                  exact H1.out.2.1.below (HB5.out.trans (hbw.mono HB5.out.size))
                obtain ⟨ad, X, rfl, hX, k0', k1'⟩ := hrw.parts.2.2.2 i him _ (cst_get hp)
                obtain ⟨hp1, hp2⟩ := HG.out.2.2.2.2.1 p hpm
                dsimp only at k0' k1'
                obtain ⟨a, b, ha, hb9, hab⟩ := at_lt HT.out.2.2 HG.out.1.1 HG.out.1.2 hpm hp2
                have hTb := HT.out.2.1.below hb
                have ca := hTb.load ha
                have cb := hTb.load hb9
                obtain ⟨ad5, d1, rfl, hd1, cd1⟩ := (HR5.out.below hbw).at9.2.2.2 p.1 hp1
                obtain ⟨ad5', d2, e5, hd2, cd2⟩ := (HR5.out.below hbw).at9.2.2.2 p.2 hp2
                injection e5 with e5
                subst e5
                have hd12 : d1 < d2 := by
                  rw [HG.out.2.2.1 _ hp1] at hd1
                  rw [HG.out.2.2.1 _ hp2] at hd2
                  rw [← Option.some.inj hd1, ← Option.some.inj hd2]
                  exact HG.out.2.2.2.1 p hpm
                have HB := Lib.hid hb
                obtain ⟨a1, ha1⟩ : ∃ y, p.1 = y := ⟨_, rfl⟩
                obtain ⟨a2, ha2⟩ : ∃ y, p.2 = y := ⟨_, rfl⟩
                rw [ha1] at k0' ca cd1 hp1
                rw [ha2] at k1' cb cd2 hp2
                have z0 : (0 : Int) ≤ a1 := by omega
                have z1 : (a1 : Int) < k := by omega
                have z2 : (0 : Int) ≤ a2 := by omega
                have z3 : (a2 : Int) < k := by omega
                have z4 : ¬ (a : Int) ≥ b := by omega
                have z5 : ¬ (d1 : Int) ≥ d2 := by omega
                have z6 : decide (b ≤ a) = false := decide_eq_false (by omega)
                have z7 : decide (d2 ≤ d1) = false := decide_eq_false (by omega)
                clear hb hbw hil hp hpm hrw ha hb9 hab hTb hd1 hd2 hd12 ha1 ha2
                go_wp2_with fail
                go_quiet (fail)
                go_wp2_with fail
                exact ⟨⟨i + 1, by go_num, him, HB.out.trans (below_dq _ _)⟩, by simp [intOf]; omega⟩
              · obtain rfl : m = i := by omega
                have HB := Lib.hid (HB5.out.trans (hbw.mono HB5.out.size))
                clear hb hbw
                go_wp2_with fail
                with_reducible refine (HS.out _).mono ?_
                rintro e w9 ⟨rfl, hb⟩
                have HB9 := Lib.hid (HB.out.trans (hb.mono HB.out.size))
                clear hb
                go_wp2_with fail
                go_ret
                exact ret_true9 HB9.out
    · rw [errE_pos hck] at HCk
      unfold errK at HCk
      go_enter Tryd.func5, Tryd.ntmps5
      go_wp2_with fail
      with_reducible refine HH.out.mono ?_
      rintro e w1 ⟨rfl, rfl⟩
      go_wp2_with fail
      with_reducible refine HCk.out.mono ?_
      rintro e w2 ⟨rfl, hb2⟩
      have HB2 := Lib.hid hb2
      clear hb2
      go_wp2_with fail
      with_reducible refine (HS.out _).mono ?_
      rintro e w9 ⟨rfl, hb⟩
      have HB9 := Lib.hid (HB2.out.trans (hb.mono HB2.out.size))
      clear hb
      go_wp2_with fail
      go_ret
      exact ret_true9 HB9.out
end Go.Proofs.YthmklmilgcjmlaaDoor

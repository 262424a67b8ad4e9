/- Law GraphClosed: its walk. -/
import Derived.Test.YthmklmilgcjmlaaDoorGrAp
import Derived.Test.YthmklmilgcjmlaaDoorGrNu
namespace Go.Proofs.YthmklmilgcjmlaaDoor
open Go.RowKit

set_option maxHeartbeats 8000000 in
set_option maxRecDepth 100000 in
theorem closed_walk (hP : PgG) (n x y : Int) (v : Value) (L : List (Int × Int)) (w : World) (hE : ErrT w) (hn : I64 n) (_ : I64 x) (_ : I64 y) (hv : RowW w v L) :
    Calls Tryd.prog 6 #[.int .i64 n, v, .agg #[.int .i64 x, .int .i64 y]] w fun e w' => e = .returned (.bool true) ∧ Below w.heap.size w w' := by
  obtain ⟨A, c, rfl, hr⟩ := hv.form
  obtain ⟨m, hm⟩ : ∃ m, L.length = m := ⟨_, rfl⟩
  rw [hm] at hr ⊢
  obtain ⟨g, hg⟩ : ∃ g, w.heap.size = g := ⟨_, rfl⟩
  obtain ⟨w0, hw0⟩ : ∃ u, w.alloc (.cells #[.int .i64 x, .int .i64 y] 40) = u := ⟨_, rfl⟩
  have hb0 : Below w.heap.size w w0 := by rw [← hw0]; exact (Below.refl _ _).alloc (Nat.le_refl _) _
  have hg0 := (MapKept.heap_alloc w (.cells #[.int .i64 x, .int .i64 y] 40)).1
  rw [hw0, hg] at hg0
  have HS := Lib.hid (fun W => sure_any hP W)
  have H1 := Lib.hid (And.intro (hE.below hb0) (And.intro (hr.below hb0) (And.intro hn (And.intro hm (And.intro hb0 hg0)))))
  have HH := Lib.hid (huge_any n A m c w0)
  have HPp := Lib.hid hP
  have HCk := Lib.hid (hP.ck n (.slice A m c) L w0 hn (hr.below hb0))
  have HOr := Lib.hid (fun W (hb : Below w0.heap.size w0 W) => hP.or_ n (.slice A m c) L W hn ((hr.below hb0).below hb))
  have HRc := Lib.hid (fun f W (hf : I64 f) (hb : Below w0.heap.size w0 W) => hP.rc n (.slice A m c) L f W hn hf ((hr.below hb0).below hb))
  have HNu := Lib.hid (fun q W (hb : Below w0.heap.size w0 W) => num_any q W ((hE.below hb0).below hb))
  clear hv hr hE hP hb0 hg0
  cases hb : hugeB n m
  case true =>
    rw [hb] at HH
    clear hb hm
    go_enter Tryd.func6, Tryd.ntmps6
    go_wp2_with fail
    with_reducible refine HH.out.mono ?_
    rintro e w1 ⟨rfl, rfl⟩
    clear hw0
    go_wp2_with fail
    with_reducible refine (HS.out _).mono ?_
    rintro e w9 ⟨rfl, hb⟩
    have HB9 := Lib.hid (H1.out.2.2.2.2.1.trans (hb.mono H1.out.2.2.2.2.1.size))
    clear hb
    go_wp2_with fail
    go_ret
    exact ret_true9 HB9.out
  case false =>
    rw [hb] at HH
    by_cases hn1 : n < 1
    · clear hb hm
      go_enter Tryd.func6, Tryd.ntmps6
      go_wp2_with fail
      with_reducible refine HH.out.mono ?_
      rintro e w1 ⟨rfl, rfl⟩
      clear hw0
      go_wp2_with fail
      with_reducible refine (HS.out _).mono ?_
      rintro e w9 ⟨rfl, hb⟩
      have HB9 := Lib.hid (H1.out.2.2.2.2.1.trans (hb.mono H1.out.2.2.2.2.1.size))
      clear hb
      go_wp2_with fail
      go_ret
      exact ret_true9 HB9.out
    · by_cases hck : ckW n L = 0
      · obtain ⟨k, rfl, hk, hlen, hM, hL⟩ := ckW_ok hck
        rw [hck, errE_zero] at HCk
        obtain ⟨M, hMe⟩ : ∃ M, ntW L = M := ⟨_, rfl⟩
        rw [hMe] at hM hL
        have hcst : L = cst M := hL
        have hmM : M.length = m := by rw [← hm, hcst, cst_len]
        have hm80 : m ≤ 80 := by
          unfold hugeB at hb
          have := of_decide_eq_false hb
          omega
        have hk1 : 1 ≤ k := by omega
        rw [hcst] at HOr HRc
        by_cases hcy : Cyc (eM M)
        · rw [orA_cyc hk hM (by omega) hcy] at HOr
          have HN9 := Lib.hid (fun W (hb : Below w0.heap.size w0 W) => HNu.out 9 W hb)
          rw [err9] at HN9
          clear hb hm hM hL hcst hmM hMe hck hcy
          go_enter Tryd.func6, Tryd.ntmps6
          go_wp2_with fail
          with_reducible refine HH.out.mono ?_
          rintro e w1 ⟨rfl, rfl⟩
          clear hw0
          go_wp2_with fail
          with_reducible refine HCk.out.mono ?_
          rintro e w2 ⟨rfl, hb2⟩
          have HB2 := Lib.hid hb2
          clear hb2
          go_wp2_with fail
          with_reducible refine (HOr.out _ HB2.out).mono ?_
          rintro e w4 ⟨A4, c4, rfl, hr4, hb4⟩
          have HB4 := Lib.hid (HB2.out.trans (hb4.mono HB2.out.size))
          clear hr4 hb4
          rw [err9]
          go_wp2_with fail
          with_reducible refine (HN9.out _ HB4.out).mono ?_
          rintro e w6 ⟨rfl, hb6⟩
          have HB6 := Lib.hid (HB4.out.trans (hb6.mono HB4.out.size))
          clear hb6
          go_wp2_with fail
          with_reducible refine (HS.out _).mono ?_
          rintro e w9 ⟨rfl, hb⟩
          have HB9 := Lib.hid (H1.out.2.2.2.2.1.trans ((HB6.out.trans (hb.mono HB6.out.size)).mono H1.out.2.2.2.2.1.size))
          clear hb
          go_wp2_with fail
          go_ret
          exact ret_true9 HB9.out
        · have hok := ordK_ok hM hcy k (Nat.le_refl _)
          rw [orA_acyc hk hM (by omega) hcy] at HOr
          obtain ⟨O, hO⟩ : ∃ O, ordT M k = O := ⟨_, rfl⟩
          rw [hO] at HOr
          have hok2 : Orw M k O ∧ O.length = k := by rw [← hO]; exact hok
          have HG := Lib.hid (And.intro hok2 (And.intro hM (And.intro hcst hmM)))
          obtain ⟨a, hak, ea⟩ := pick_u x k hk1 (by omega)
          obtain ⟨b, hbk, eb⟩ := pick_u y k hk1 (by omega)
          clear hb hm hM hL hcst hmM hMe hck hcy hok hok2 hO
          go_enter Tryd.func6, Tryd.ntmps6
          go_wp2_with fail
          with_reducible refine HH.out.mono ?_
          rintro e w1 ⟨rfl, rfl⟩
          clear hw0
          go_wp2_with fail
          with_reducible refine HCk.out.mono ?_
          rintro e w2 ⟨rfl, hb2⟩
          have HB2 := Lib.hid hb2
          clear hb2
          go_wp2_with fail
          with_reducible refine (HOr.out _ HB2.out).mono ?_
          rintro e w4 ⟨A4, c4, rfl, hr4, hb4⟩
          dsimp only at hr4 ⊢
          rw [HG.out.1.2] at hr4 ⊢
          rw [errE_zero]
          have HB4 := Lib.hid (HB2.out.trans (hb4.mono HB2.out.size))
          have HR4 := Lib.hid hr4
          have hgW := (HB4.out.block g (blk9_lt H1.out.2.2.2.2.2)).trans H1.out.2.2.2.2.2
          have g0 := cell9_blk hgW 0 rfl
          have g1 := cell9_blk hgW 1 rfl
          clear hr4 hb4 hgW
          go_wp2_with fail
          have HEa := Lib.hid (And.intro ea eb)
          clear ea eb
          go_quiet (fail)
          rw [HEa.out.1, HEa.out.2]
          obtain ⟨w5, hw5⟩ : ∃ u, w4.drewN nq = u := ⟨_, rfl⟩
          have hb5 : Below w4.heap.size w4 w5 := by rw [← hw5]; exact below_dq _ _
          have HB5 := Lib.hid (HB4.out.trans (hb5.mono HB4.out.size))
          have HR5 := Lib.hid (HR4.out.below hb5)
          rw [hw5]
          clear hw5 hb5 HR4 HB4 g0 g1
          have hsp : ∃ p q : Nat, p ≤ q ∧ q < k ∧ (((a : Int) > b ∧ p = b ∧ q = a) ∨ (¬ (a : Int) > b ∧ p = a ∧ q = b)) := by
            by_cases h : (a : Int) > b
            · exact ⟨b, a, by omega, hak, .inl ⟨h, rfl, rfl⟩⟩
            · exact ⟨a, b, by omega, hbk, .inr ⟨h, rfl, rfl⟩⟩
          obtain ⟨p, q, hpq, hqk, ⟨hgt, rfl, rfl⟩ | ⟨hgt, rfl, rfl⟩⟩ := hsp
          all_goals
            clear hak hbk
            obtain ⟨ad4, y1, rfl, hy1, cy1⟩ := HR5.out.at9.2.2.2 p (by omega)
            obtain ⟨ad4', y2, e4, hy2, cy2⟩ := HR5.out.at9.2.2.2 q hqk
            injection e4 with e4
            subst e4
            have hy1k : y1 < k := HG.out.1.1.lt y1 (List.mem_of_getElem? hy1)
            have hy2k : y2 < k := HG.out.1.1.lt y2 (List.mem_of_getElem? hy2)
            have hok' := ok_add HG.out.2.1 hy1k hy2k
            have hml : (M ++ [(y1, y2)]).length = 0 + m + 1 := by rw [List.length_append, HG.out.2.2.2]; simp
            have hr5 : RowW w5 (.slice A m c) (cst M) := by rw [← HG.out.2.2.1]; exact H1.out.2.1.below HB5.out
            have HSt := Lib.hid (fun W (hb : Below w5.heap.size w5 W) => show Below w5.heap.size w5 W ∧ W.cell? (ad4.add p) = some (.int .i64 (y1 : Nat)) ∧ W.cell? (ad4.add q) = some (.int .i64 (y2 : Nat)) from ⟨hb, (hb.cell (World.block_lt_of_cell? w5 _ cy1)).trans cy1, (hb.cell (World.block_lt_of_cell? w5 _ cy2)).trans cy2⟩)
            have hbI : Below w5.heap.size w5 w5.drew := below_dq w5 1
            have HDr := Lib.hid (HSt.out _ hbI)
            have HRd := Lib.hid (fun W (hb : Below w5.heap.size w5 W) => (hr5.below hb).rd)
            have hfl : ((cst M).flatMap wyC).length = m * 2 := by rw [flat_len wyC 2 (fun _ => rfl), cst_len, HG.out.2.2.2]
            have HY := Lib.hid (And.intro hy1 (And.intro hy2 (And.intro hy1k (And.intro hy2k (And.intro hok' hml)))))
            have s0 : (0 : Int) ≤ p := by omega
            have s1 : (p : Int) < k := by omega
            have s2 : (0 : Int) ≤ q := by omega
            have s3 : (q : Int) < k := by omega
            clear hy1 hy2 hy1k hy2k hok' hml hr5 cy1 cy2
            go_wp2_with fail
            go_region_held3 (fun W => Below w5.heap.size w5 W ∧ W.cell? (ad4.add p) = some (.int .i64 (y1 : Nat)) ∧ W.cell? (ad4.add q) = some (.int .i64 (y2 : Nat))) (first | exact HDr.out | exact HSt.out _ (by assumption) | exact HSt.out _ (below_alO (by assumption) _)) (first
              | (refine step_appK (by rfl) (.tmp 74) (.tmp 75) _ (by rfl) Tryd.underlying22 infoW rfl (by omega) w5.heap.size (.slice none 0 0) 0 [] (by rfl) (World.ownsRow_nil _ _ _ _) A m c ((cst M).flatMap wyC) (by rfl) hfl
                   (by first | exact HRd.out _ hbI | exact HRd.out _ (below_alO hbI _)) (one_wy _) (by unfold maxLen; omega) (by omega) (by first | exact hbI.size | exact (below_alO hbI _).size) ?_
                 intro vN wN hoN hgN haN
                 have hbN : Below w5.heap.size w5 wN := by
                   first
                   | exact hbI.grown hgN hbI.size (fun k hk => by simp [Value.ownBlock] at hk)
                   | exact (below_alO hbI _).grown hgN (below_alO hbI _).size (fun k hk => by simp [Value.ownBlock] at hk)
                 first
                 | have HRc2 := Lib.hid (show Rd wN (some ⟨w5.drew.heap.size, 0, none⟩) [.int .i64 (y1 : Nat), .int .i64 (y2 : Nat)] from Rd.below (rd_oneW w5.drew y1 y2) ((Below.refl _ _).grown hgN (Nat.le_refl _) (fun k hk => by simp [Value.ownBlock] at hk)))
                 | skip
                 have HNN := Lib.hid hoN
                 clear hoN hgN haN)
              | (refine step_appK (by rfl) (.tmp 76) (.tmp 86) _ (by rfl) Tryd.underlying22 infoW rfl (by omega) w5.heap.size vN (0 + m) ([] ++ (cst M).flatMap wyC) (by rfl) (by first | exact HNN.out | exact HNN.out.alloc _) (some ⟨_, 0, none⟩) 1 1 [.int .i64 (y1 : Nat), .int .i64 (y2 : Nat)] (by rfl) rfl
                   (by first | exact HRc2.out | exact rd_oneW _ _ _) (one_two _ _) (by unfold maxLen; omega) (by omega) (by first | exact hbN.size | exact (below_alO hbN _).size) ?_
                 intro vE wE hoE hgE haE
                 have hbE : Below w5.heap.size w5 wE := by
                   first
                   | exact hbN.grown hgE hbN.size (fun k hk => (HNN.out.lt k hk).1)
                   | exact (below_alO hbN _).grown hgE (below_alO hbN _).size (fun k hk => (HNN.out.lt k hk).1)
                 have HEE := Lib.hid hoE
                 clear hoE hgE haE))
            all_goals
              have hrow : RowW wE vE (cst (M ++ [(y1, y2)])) := RowW.owned (n := 0 + m + 1) (by rw [cst_len]; exact HY.out.2.2.2.2.2) (by rw [cst_flat]; exact HEE.out)
              have HO2 := Lib.hid (HPp.out.or_ k vE _ wE H1.out.2.2.1 hrow)
              have HBE := Lib.hid hbE
              clear hbI hbN hbE hrow hfl
              rcases Nat.lt_or_ge p q with hlt | hge
              case' inl =>
                have hac := acyc_add HG.out.2.1 HG.out.1.1 HG.out.1.2 HY.out.1 HY.out.2.1 hlt
                rw [orA_acyc hk HY.out.2.2.2.2.1 (by rw [HY.out.2.2.2.2.2]; omega) hac] at HO2
                have t1 : (p : Int) < q := by omega
                clear hac hlt hpq hgt
                go_wp2_with fail
                with_reducible refine HO2.out.mono ?_
                rintro e w6 ⟨A6, c6, rfl, hr6, hb6⟩
                dsimp only
                obtain ⟨q6, hq6⟩ : ∃ z, (ordT (M ++ [(y1, y2)]) k).length = z := ⟨_, rfl⟩
                rw [hq6, errE_zero]
                have HB56 := Lib.hid (HBE.out.trans (hb6.mono HBE.out.size))
                clear hr6 hb6 hq6
              case' inr =>
                obtain rfl : p = q := by omega
                have hyy : y1 = y2 := by
                  have h := HY.out.1
                  rw [HY.out.2.1] at h
                  exact (Option.some.inj h).symm
                have hcy : Cyc (eM (M ++ [(y1, y2)])) := ⟨y1, .one (eM_mem.2 (by rw [hyy]; simp))⟩
                rw [orA_cyc hk HY.out.2.2.2.2.1 (by rw [HY.out.2.2.2.2.2]; omega) hcy] at HO2
                clear hcy hyy hge hpq hgt
                go_wp2_with fail
                with_reducible refine HO2.out.mono ?_
                rintro e w6a ⟨A6, c6, rfl, hr6, hb6⟩
                rw [err9]
                have HB56a := Lib.hid (HBE.out.trans (hb6.mono HBE.out.size))
                have HN9 := Lib.hid (HNu.out 9 w6a (HB5.out.trans (HB56a.out.mono HB5.out.size)))
                rw [err9] at HN9
                clear hr6 hb6
                go_wp2_with fail
                with_reducible refine HN9.out.mono ?_
                rintro e w6 ⟨rfl, hb6⟩
                have HB56 := Lib.hid (HB56a.out.trans (hb6.mono HB56a.out.size))
                clear hb6
              all_goals
                have HB6 := Lib.hid (HB5.out.trans (HB56.out.mono HB5.out.size))
                have cy6 := (HSt.out _ HB56.out).2.1
                have HR6 := Lib.hid (HRc.out (y1 : Nat) w6 (by have := HY.out.2.2.1; constructor <;> omega) HB6.out)
                rw [rcA_well hk HG.out.2.1 (by rw [HG.out.2.2.2]; omega) HY.out.2.2.1] at HR6
                obtain ⟨Z, hZ⟩ : ∃ Z, rcT M k y1 = Z := ⟨_, rfl⟩
                rw [hZ] at HR6
                have hZc : ∀ r ∈ Z, r < k ∧ Cyc (eM (M ++ [(r, y1)])) := fun r hr => by
                  rw [← hZ] at hr
                  exact ⟨(rcT_mem.1 hr).1, cyc_add hr⟩
                have HZ := Lib.hid hZc
                clear hZ hZc
                go_wp2_with fail
                with_reducible refine HR6.out.mono ?_
                rintro e w7 ⟨A7, c7, rfl, hr7, hb7⟩
                dsimp only at hr7 ⊢
                obtain ⟨q7, hq7⟩ : ∃ z, Z.length = z := ⟨_, rfl⟩
                rw [hq7] at hr7 ⊢
                rw [errE_zero]
                have hq9 : q7 ≤ 9223372036854775807 := by
                  have := hr7.at9.2.1
                  have := hr7.at9.2.2.1
                  unfold maxLen at this
                  omega
                have HR7 := Lib.hid (And.intro hr7 (HB56.out.trans (hb7.mono HB56.out.size)))
                have HB7 := Lib.hid (HB6.out.trans (hb7.mono HB6.out.size))
                clear hr7 hb7 hq7 cy6
                go_wp2_with fail
                go_loopw [16] (fun iv wr => ∃ i : Nat, iv = .int .i64 i ∧ i ≤ q7 ∧ Below w7.heap.size w7 wr) (fun iv _ => q7 - (intOf iv).toNat)
                case atStart => exact ⟨0, rfl, Nat.zero_le _, Below.refl _ _⟩
                case round =>
                  obtain ⟨i, rfl, hi, hbw⟩ := hrel
                  by_cases hiq : i < q7
                  · obtain ⟨ad7, z, rfl, hz, cz⟩ := (HR7.out.1.below hbw).at9.2.2.2 i hiq
                    have hzm := HZ.out z (List.mem_of_getElem? hz)
                    have cy := (HSt.out _ (HR7.out.2.trans (hbw.mono HR7.out.2.size))).2.1
                    have hok' := ok_add HG.out.2.1 hzm.1 HY.out.2.2.1
                    have hml : (M ++ [(z, y1)]).length = 0 + m + 1 := by rw [List.length_append, HG.out.2.2.2]; simp
                    have hbw1 := HB7.out.trans (hbw.mono HB7.out.size)
                    have hr5 : RowW wr (.slice A m c) (cst M) := by rw [← HG.out.2.2.1]; exact H1.out.2.1.below hbw1
                    have HSu := Lib.hid (fun W (hb : Below wr.heap.size wr W) => show Below wr.heap.size wr W ∧ W.cell? (ad7.add i) = some (.int .i64 (z : Nat)) ∧ W.cell? (ad4.add p) = some (.int .i64 (y1 : Nat)) from ⟨hb, (hb.cell (World.block_lt_of_cell? wr _ cz)).trans cz, (hb.cell (World.block_lt_of_cell? wr _ cy)).trans cy⟩)
                    have hbI : Below wr.heap.size wr wr.drew := below_dq wr 1
                    have HDu := Lib.hid (HSu.out _ hbI)
                    have HRd2 := Lib.hid (fun W (hb : Below wr.heap.size wr W) => (hr5.below hb).rd)
                    have hfl : ((cst M).flatMap wyC).length = m * 2 := by rw [flat_len wyC 2 (fun _ => rfl), cst_len, HG.out.2.2.2]
                    have HBW := Lib.hid (And.intro hbw1 (And.intro hbw (And.intro hzm (And.intro hok' hml))))
                    have v0 : (0 : Int) ≤ i := by omega
                    have v1 : (i : Int) < q7 := by omega
                    clear hz hzm cy cz hok' hml hbw1 hbw hr5
                    go_wp2_with fail
                    go_region_held3 (fun W => Below wr.heap.size wr W ∧ W.cell? (ad7.add i) = some (.int .i64 (z : Nat)) ∧ W.cell? (ad4.add p) = some (.int .i64 (y1 : Nat))) (first | exact HDu.out | exact HSu.out _ (by assumption) | exact HSu.out _ (below_alO (by assumption) _)) (first
                      | (refine step_appK (by rfl) (.tmp 129) (.tmp 130) _ (by rfl) Tryd.underlying22 infoW rfl (by omega) wr.heap.size (.slice none 0 0) 0 [] (by rfl) (World.ownsRow_nil _ _ _ _) A m c ((cst M).flatMap wyC) (by rfl) hfl
                           (by first | exact HRd2.out _ hbI | exact HRd2.out _ (below_alO hbI _)) (one_wy _) (by unfold maxLen; omega) (by omega) (by first | exact hbI.size | exact (below_alO hbI _).size) ?_
                         intro vM wM hoM hgM haM
                         have hbM : Below wr.heap.size wr wM := by
                           first
                           | exact hbI.grown hgM hbI.size (fun k hk => by simp [Value.ownBlock] at hk)
                           | exact (below_alO hbI _).grown hgM (below_alO hbI _).size (fun k hk => by simp [Value.ownBlock] at hk)
                         first
                         | have HRc3 := Lib.hid (show Rd wM (some ⟨wr.drew.heap.size, 0, none⟩) [.int .i64 (z : Nat), .int .i64 (y1 : Nat)] from Rd.below (rd_oneW wr.drew z y1) ((Below.refl _ _).grown hgM (Nat.le_refl _) (fun k hk => by simp [Value.ownBlock] at hk)))
                         | skip
                         have HMM := Lib.hid hoM
                         clear hoM hgM haM)
                      | (refine step_appK (by rfl) (.tmp 131) (.tmp 141) _ (by rfl) Tryd.underlying22 infoW rfl (by omega) wr.heap.size vM (0 + m) ([] ++ (cst M).flatMap wyC) (by rfl) (by first | exact HMM.out | exact HMM.out.alloc _) (some ⟨_, 0, none⟩) 1 1 [.int .i64 (z : Nat), .int .i64 (y1 : Nat)] (by rfl) rfl
                           (by first | exact HRc3.out | exact rd_oneW _ _ _) (one_two _ _) (by unfold maxLen; omega) (by omega) (by first | exact hbM.size | exact (below_alO hbM _).size) ?_
                         intro vF wF hoF hgF haF
                         have hbF : Below wr.heap.size wr wF := by
                           first
                           | exact hbM.grown hgF hbM.size (fun k hk => (HMM.out.lt k hk).1)
                           | exact (below_alO hbM _).grown hgF (below_alO hbM _).size (fun k hk => (HMM.out.lt k hk).1)
                         have HFF := Lib.hid hoF
                         clear hoF hgF haF))
                    all_goals
                      have hrow : RowW wF vF (cst (M ++ [(z, y1)])) := RowW.owned (n := 0 + m + 1) (by rw [cst_len]; exact HBW.out.2.2.2.2) (by rw [cst_flat]; exact HFF.out)
                      have hLp := HPp.out.lp k vF _ wF H1.out.2.2.1 hrow
                      obtain ⟨xl, hxl⟩ := lpA_cyc hk HBW.out.2.2.2.1 (by rw [HBW.out.2.2.2.2]; omega) HBW.out.2.2.1.2
                      rw [hxl, errE_zero] at hLp
                      have HLp := Lib.hid hLp
                      have HBF := Lib.hid (HBW.out.2.1.trans (hbF.mono HBW.out.2.1.size))
                      clear hbI hbM hbF hrow hfl hLp hxl
                      go_wp2_with fail
                      with_reducible refine HLp.out.mono ?_
                      rintro e w8 ⟨rfl, hb8⟩
                      have HB8 := Lib.hid (HBF.out.trans (hb8.mono HBF.out.size))
                      clear hb8
                      go_wp2_with fail
                      exact ⟨⟨i + 1, by go_num, hiq, HB8.out⟩, by simp [intOf]; omega⟩
                  · obtain rfl : q7 = i := by omega
                    have HB := Lib.hid (HB7.out.trans (hbw.mono HB7.out.size))
                    clear hbw
                    go_wp2_with fail
                    with_reducible refine (HS.out _).mono ?_
                    rintro e w9 ⟨rfl, hb⟩
                    have HB9 := Lib.hid (H1.out.2.2.2.2.1.trans ((HB.out.trans (hb.mono HB.out.size)).mono H1.out.2.2.2.2.1.size))
                    clear hb
                    go_wp2_with fail
                    go_ret
                    exact ret_true9 HB9.out
      · rw [errE_pos hck] at HCk
        unfold errK at HCk
        clear hb hm
        go_enter Tryd.func6, Tryd.ntmps6
        go_wp2_with fail
        with_reducible refine HH.out.mono ?_
        rintro e w1 ⟨rfl, rfl⟩
        clear hw0
        go_wp2_with fail
        with_reducible refine HCk.out.mono ?_
        rintro e w2 ⟨rfl, hb2⟩
        have HB2 := Lib.hid hb2
        clear hb2
        go_wp2_with fail
        with_reducible refine (HS.out _).mono ?_
        rintro e w9 ⟨rfl, hb⟩
        have HB9 := Lib.hid (H1.out.2.2.2.2.1.trans ((HB2.out.trans (hb.mono HB2.out.size)).mono H1.out.2.2.2.2.1.size))
        clear hb
        go_wp2_with fail
        go_ret
        exact ret_true9 HB9.out
end Go.Proofs.YthmklmilgcjmlaaDoor

/- Law GraphTurned: its walk. -/
import Derived.Test.YthmklmilgcjmlaaGrAp
namespace Go.Proofs.Ythmklmilgcjmlaa
open Go.RowKit

open Classical in
theorem lpT_rv (M : Wt) (n : Nat) : lpT (rvM M) n = lpT M n := by
  unfold lpT
  congr 1
  funext x
  exact decide_eq_decide.2 rv_iff
theorem rcT_rv {M : Wt} {n u v : Nat} (hu : u < n) (hv : v < n) : (rcT (rvM M) n v).contains u = (rcT M n u).contains v := by
  rw [Bool.eq_iff_iff]
  simp only [List.contains_iff_mem, rcT_mem]
  constructor
  · rintro ⟨_, h⟩
    exact ⟨hv, h.imp (fun e => e.symm) rv_iff.1⟩
  · rintro ⟨_, h⟩
    exact ⟨hu, h.imp (fun e => e.symm) rv_iff.2⟩
theorem rv_len (M : Wt) : (rvM M).length = M.length := by unfold rvM; simp
theorem rv_take {M : Wt} {i : Nat} {p : Nat × Nat} (hp : M[i]? = some p) : rvM (M.take (i + 1)) = rvM (M.take i) ++ [(p.2, p.1)] := by
  obtain ⟨hi, e⟩ := List.getElem?_eq_some_iff.1 hp
  unfold rvM
  rw [List.take_succ_eq_append_getElem hi, e, List.map_append]
  rfl
theorem lpA_well {M : Wt} {n : Nat} (hn : n ≤ 4096) (hM : Okw n M) (hl : M.length ≤ 1048576) : lpA n (cst M) = match lpT M n with | some x => ((x : Int), true, 0) | none => (0, false, 0) := by
  cases h : lpT M n with
  | none => exact lpA_no (ck_cst hn hM hl) (by rw [nt_cst, Int.toNat_natCast]; exact h)
  | some x => exact lpA_yes (ck_cst hn hM hl) (by rw [nt_cst, Int.toNat_natCast]; exact h)
set_option maxHeartbeats 8000000 in
set_option maxRecDepth 100000 in
theorem turned_walk (hP : PgG) (n x y : Int) (v : Value) (L : List (Int × Int)) (w : World) (hn : I64 n) (_ : I64 x) (_ : I64 y) (hv : RowW w v L) :
    Calls Try.prog 3 #[.int .i64 n, v, .agg #[.int .i64 x, .int .i64 y]] w fun e w' => e = .returned (.bool true) ∧ Below w.heap.size w w' := by
  obtain ⟨A, c, rfl, hr⟩ := hv.form
  obtain ⟨m, hm⟩ : ∃ m, L.length = m := ⟨_, rfl⟩
  rw [hm] at hr ⊢
  obtain ⟨g, hg⟩ : ∃ g, w.heap.size = g := ⟨_, rfl⟩
  obtain ⟨w0, hw0⟩ : ∃ u, w.alloc (.cells #[.int .i64 x, .int .i64 y] 23) = u := ⟨_, rfl⟩
  have hb0 : Below w.heap.size w w0 := by rw [← hw0]; exact (Below.refl _ _).alloc (Nat.le_refl _) _
  have hg0 := (MapKept.heap_alloc w (.cells #[.int .i64 x, .int .i64 y] 23)).1
  rw [hw0, hg] at hg0
  have HS := Lib.hid (fun W => sure_any hP W)
  have H1 := Lib.hid (And.intro trivial (And.intro (hr.below hb0) (And.intro hn (And.intro hm (And.intro hb0 hg0)))))
  have HH := Lib.hid (huge_any n A m c w0)
  have HPp := Lib.hid hP
  have hPl := Lib.hid hP
  have HCk := Lib.hid (hP.ck n (.slice A m c) L w0 hn (hr.below hb0))
  have HLp := Lib.hid (fun W (hb : Below w0.heap.size w0 W) => hP.lp n (.slice A m c) L W hn ((hr.below hb0).below hb))
  have HRc := Lib.hid (fun f W (hf : I64 f) (hb : Below w0.heap.size w0 W) => hP.rc n (.slice A m c) L f W hn hf ((hr.below hb0).below hb))
  clear hv hr hP hb0 hg0
  cases hb : hugeB n m
  case true =>
    rw [hb] at HH
    clear hb hm
    go_enter Try.func3, Try.ntmps3
    go_wp2_with fail
    with_reducible refine HH.out.mono ?_
    rintro e w1 ⟨rfl, rfl⟩
    clear hw0
    go_wp2_with fail
    with_reducible refine (HS.out _).mono ?_
    rintro e w9 ⟨rfl, hb⟩
    have HB9 := Lib.hid (H1.out.2.2.2.2.1.trans (hb.mono H1.out.2.2.2.2.1.size))
    clear hb
    go_wp2_with fail
    go_ret
    exact ret_true9 HB9.out
  case false =>
    rw [hb] at HH
    by_cases hn1 : n < 1
    · clear hb hm
      go_enter Try.func3, Try.ntmps3
      go_wp2_with fail
      with_reducible refine HH.out.mono ?_
      rintro e w1 ⟨rfl, rfl⟩
      clear hw0
      go_wp2_with fail
      with_reducible refine (HS.out _).mono ?_
      rintro e w9 ⟨rfl, hb⟩
      have HB9 := Lib.hid (H1.out.2.2.2.2.1.trans (hb.mono H1.out.2.2.2.2.1.size))
      clear hb
      go_wp2_with fail
      go_ret
      exact ret_true9 HB9.out
    · by_cases hck : ckW n L = 0
      · obtain ⟨k, rfl, hk, hlen, hM, hL⟩ := ckW_ok hck
        rw [hck, errE_zero] at HCk
        obtain ⟨M, hMe⟩ : ∃ M, ntW L = M := ⟨_, rfl⟩
        rw [hMe] at hM hL
        have hcst : L = cst M := hL
        have hmM : M.length = m := by rw [← hm, hcst, cst_len]
        have hm80 : m ≤ 80 := by
          unfold hugeB at hb
          have := of_decide_eq_false hb
          omega
        have hk1 : 1 ≤ k := by omega
        rw [hcst] at HLp HRc
        obtain ⟨lz, lb, hl1, hl2⟩ : ∃ (z : Int) (b : Bool), lpA (k : Int) (cst M) = (z, b, 0) ∧ lpA (k : Int) (cst (rvM M)) = (z, b, 0) := by
          have h1 := lpA_well hk hM (by omega)
          have h2 := lpA_well hk (rv_ok hM) (by rw [rv_len]; omega)
          rw [lpT_rv] at h2
          cases h : lpT M k with
          | none => rw [h] at h1 h2; exact ⟨0, false, h1, h2⟩
          | some x => rw [h] at h1 h2; exact ⟨x, true, h1, h2⟩
        obtain ⟨a, hak, ea⟩ := pick_u x k hk1 (by omega)
        obtain ⟨b, hbk, eb⟩ := pick_u y k hk1 (by omega)
        have HR1 := Lib.hid (fun W hb => HRc.out (a : Nat) W (by constructor <;> omega) hb)
        rw [rcA_well hk hM (by omega) hak] at HR1
        have hpm := rcT_rv (M := M) hak hbk
        have hvr := rcA_well hk (rv_ok hM) (by rw [rv_len]; omega) hbk
        rw [hl1, errE_zero] at HLp
        have HG := Lib.hid (And.intro hM (And.intro hcst (And.intro hmM (And.intro hl2 (And.intro hpm hvr)))))
        have HEa := Lib.hid (And.intro ea eb)
        have k0 : (1 : Int) ≤ k := by omega
        clear hb hm hM hL hcst hmM hMe hck hl1 hl2 hpm hvr ea eb HRc
        go_enter Try.func3, Try.ntmps3
        go_wp2_with fail
        with_reducible refine HH.out.mono ?_
        rintro e w1 ⟨rfl, rfl⟩
        clear hw0
        go_wp2_with fail
        with_reducible refine HCk.out.mono ?_
        rintro e w2 ⟨rfl, hb2⟩
        have HB2 := Lib.hid hb2
        clear hb2
        go_wp2_with fail
        go_loopw [7, 8] (fun tv iv wr => ∃ i : Nat, iv = .int .i64 i ∧ i ≤ m ∧ Below w2.heap.size w2 wr ∧ wr.ownsRow w2.heap.size 23 2 tv i ((cst (rvM (M.take i))).flatMap wyC)) (fun _ iv _ => m - (intOf iv).toNat)
        case atStart => exact ⟨0, rfl, Nat.zero_le _, Below.refl _ _, World.ownsRow_nil _ _ _ _⟩
        case round =>
          obtain ⟨i, rfl, hi, hb, how⟩ := hrel
          by_cases him : i < m
          · have q0 : (0 : Int) ≤ i := by omega
            have q1 : (i : Int) < m := by omega
            have hil : i < M.length := by rw [HG.out.2.2.1]; exact him
            obtain ⟨p, hp⟩ : ∃ p, M[i]? = some p := ⟨_, List.getElem?_eq_getElem hil⟩
            have hrw : RowW w2 (.slice A m c) (cst M) := by
              rw [← HG.out.2.1]
              exact H1.out.2.1.below HB2.out
            obtain ⟨ad, X, rfl, hX, k0', k1'⟩ := hrw.parts.2.2.2 i him _ (cst_get hp)
            dsimp only at k0' k1'
            have hfl : (cst (rvM (M.take (i + 1)))).flatMap wyC = (cst (rvM (M.take i))).flatMap wyC ++ [.int .i64 (p.2 : Nat), .int .i64 (p.1 : Nat)] := by rw [rv_take hp, cst_flat]
            have HF := Lib.hid hfl
            obtain ⟨a1, ha1⟩ : ∃ y, p.1 = y := ⟨_, rfl⟩
            obtain ⟨a2, ha2⟩ : ∃ y, p.2 = y := ⟨_, rfl⟩
            rw [ha1] at k0' HF
            rw [ha2] at k1' HF
            have HSt := Lib.hid (fun W (hb : Below w2.heap.size w2 W) => show Below w2.heap.size w2 W ∧ W.cell? X = some (.int .i64 (a1 : Nat)) ∧ W.cell? { block := X.block, off := X.off + 1 } = some (.int .i64 (a2 : Nat)) from ⟨hb, (hb.cell (World.block_lt_of_cell? w2 _ k0')).trans k0', (hb.cell (p := { block := X.block, off := X.off + 1 }) (World.block_lt_of_cell? w2 _ k1')).trans k1'⟩)
            have hbI : Below w2.heap.size w2 wr.drew := hb.trans (below_dq wr 1)
            have HDr := Lib.hid (HSt.out _ hbI)
            have HO := Lib.hid how
            have HB := Lib.hid hb
            clear hil hp hrw hfl ha1 ha2 how hb k0' k1'
            go_wp2_with fail
            go_region_held3 (fun W => Below w2.heap.size w2 W ∧ W.cell? X = some (.int .i64 (a1 : Nat)) ∧ W.cell? { block := X.block, off := X.off + 1 } = some (.int .i64 (a2 : Nat))) (first | exact HDr.out | exact HSt.out _ (by assumption) | exact HSt.out _ (below_alO (by assumption) _) | exact HSt.out _ ((below_alO HB.out _).trans (below_dq _ 1))) (first
              | (refine step_appK (by rfl) (.tmp 45) (.tmp 57) _ (by rfl) Try.underlying22 infoW rfl (by omega) w2.heap.size u7 i ((cst (rvM (M.take i))).flatMap wyC) (by rfl) (by first | exact HO.out.drew.alloc _ | exact (HO.out.alloc _).drew | exact HO.out.alloc _) (some ⟨wr.heap.size, 0, none⟩) 1 1 [.int .i64 (a2 : Nat), .int .i64 (a1 : Nat)] (by rfl) rfl
                   (by first | exact rd_oneW _ _ _ | exact rd_oneW wr _ _) (one_two _ _) (by unfold maxLen; omega) (by omega) (by have := HB.out.size; simp; omega) ?_
                 intro vE wE hoE hgE haE
                 have hbE : Below w2.heap.size w2 wE := ((HB.out.alloc HB.out.size (.cells #[.int .i64 (a2 : Nat), .int .i64 (a1 : Nat)] 23)).trans (below_dq _ 1)).grown hgE (by have := HB.out.size; simp; omega) (fun j hj => (HO.out.lt j hj).1)
                 have HEE := Lib.hid (And.intro hoE hbE)
                 clear hoE hgE haE))
            clear hbI hbE
            go_wp2_with fail
            refine ⟨⟨i + 1, by go_num, him, HEE.out.2, ?_⟩, by simp [intOf]; omega⟩
            rw [HF.out]
            exact HEE.out.1
          · obtain rfl : m = i := by omega
            obtain ⟨wA, hwA⟩ : ∃ x, x = wr := ⟨_, rfl⟩
            subst hwA
            rw [List.take_of_length_le (by rw [HG.out.2.2.1]; exact Nat.le_refl _)] at how
            have hrow : RowW wA u7 (cst (rvM M)) := RowW.owned (n := m) (by rw [cst_len, rv_len]; exact HG.out.2.2.1) how
            have HB := Lib.hid (HB2.out.trans (hb.mono HB2.out.size))
            have HW := Lib.hid hrow
            clear how hb hrow
            go_wp2_with fail
            have HLt := Lib.hid (fun W hb => hPl.out.lp k u7 _ W H1.out.2.2.1 (HW.out.below hb))
            rw [HG.out.2.2.2.1, errE_zero] at HLt
            cases lb
            all_goals
              with_reducible refine (HLp.out _ HB.out).mono ?_
              rintro e w4 ⟨rfl, hb4⟩
              have HB4 := Lib.hid (HB.out.trans (hb4.mono HB.out.size))
              have HLt4 := Lib.hid (HLt.out w4 hb4)
              have HW4 := Lib.hid (HW.out.below hb4)
              clear hb4
              go_wp2_with fail
              with_reducible refine HLt4.out.mono ?_
              rintro e w5 ⟨rfl, hb5⟩
              have HB5 := Lib.hid (HB4.out.trans (hb5.mono HB4.out.size))
              have HW5 := Lib.hid (HW4.out.below hb5)
              have hgW := (HB5.out.block g (blk9_lt H1.out.2.2.2.2.2)).trans H1.out.2.2.2.2.2
              have g0 := cell9_blk hgW 0 rfl
              have g1 := cell9_blk hgW 1 rfl
              clear hb5 hgW
              go_wp2_with fail
              go_quiet (fail)
              rw [HEa.out.1, HEa.out.2]
              obtain ⟨w6, hw6⟩ : ∃ u, w5.drewN nq = u := ⟨_, rfl⟩
              have hb6 : Below w5.heap.size w5 w6 := by rw [← hw6]; exact below_dq _ _
              have HB6 := Lib.hid (HB5.out.trans (hb6.mono HB5.out.size))
              have HW6 := Lib.hid (HW5.out.below hb6)
              rw [hw6]
              clear hw6 hb6 g0 g1
              go_wp2_with fail
              with_reducible refine (HR1.out _ HB6.out).mono ?_
              rintro e w7 ⟨A7, c7, rfl, hr7, hb7⟩
              obtain ⟨Z1, hZ1⟩ : ∃ Z, rcT M k a = Z := ⟨_, rfl⟩
              rw [hZ1] at hr7 ⊢
              dsimp only at hr7 ⊢
              obtain ⟨q1, hq1⟩ : ∃ z, Z1.length = z := ⟨_, rfl⟩
              rw [hq1] at hr7 ⊢
              rw [errE_zero]
              have HB7 := Lib.hid (HB6.out.trans (hb7.mono HB6.out.size))
              have HR7 := Lib.hid hr7
              have HR2 := Lib.hid (hPl.out.rc k u7 _ (b : Nat) w7 H1.out.2.2.1 (by constructor <;> omega) (HW6.out.below hb7))
              rw [HG.out.2.2.2.2.2] at HR2
              have hq19 : q1 ≤ 9223372036854775807 := by
                have := hr7.at9.2.1
                have := hr7.at9.2.2.1
                unfold maxLen at this
                omega
              have HQ1 := Lib.hid (And.intro hq1 hZ1)
              clear hr7 hb7 hq1 hZ1
              go_wp2_with fail
              with_reducible refine HR2.out.mono ?_
              rintro e w8 ⟨A8, c8, rfl, hr8, hb8⟩
              obtain ⟨Z2, hZ2⟩ : ∃ Z, rcT (rvM M) k b = Z := ⟨_, rfl⟩
              rw [hZ2] at hr8 ⊢
              dsimp only at hr8 ⊢
              obtain ⟨q2, hq2⟩ : ∃ z, Z2.length = z := ⟨_, rfl⟩
              rw [hq2] at hr8 ⊢
              rw [errE_zero]
              have HB8 := Lib.hid (HB7.out.trans (hb8.mono HB7.out.size))
              have HZ2 := Lib.hid (And.intro hr8 hq2)
              have HZ1 := Lib.hid (And.intro (HR7.out.below hb8) HQ1.out.1)
              have hq29 : q2 ≤ 9223372036854775807 := by
                have := hr8.at9.2.1
                have := hr8.at9.2.2.1
                unfold maxLen at this
                omega
              have hpm := HG.out.2.2.2.2.1
              rw [hZ2, HQ1.out.2] at hpm
              have HPm := Lib.hid hpm
              clear hr8 hb8 hq2 hZ2 hpm
              go_wp2_with fail
              go_loopw [21, 23] (fun bv jv wr => ∃ (j : Nat) (b' : Bool), bv = .bool b' ∧ jv = .int .i64 j ∧ j ≤ q1 ∧ b' = (Z1.take j).contains b ∧ wr = w8) (fun _ jv _ => q1 - (intOf jv).toNat)
              case atStart => exact ⟨0, false, rfl, rfl, Nat.zero_le _, by simp, rfl⟩
              case round =>
                obtain ⟨j, b', rfl, rfl, hj, hb', rfl⟩ := hrel
                have HBj := Lib.hid hb'
                clear hb'
                by_cases hjq : j < q1
                · have s0 : (0 : Int) ≤ j := by omega
                  have s1 : (j : Int) < q1 := by omega
                  obtain ⟨ad7, yv, rfl, hy, cy⟩ := HZ1.out.1.at9.2.2.2 j hjq
                  have hst := any_take (x := b) hy
                  have HY := Lib.hid hst
                  clear hy hst
                  cases b' with
                  | true =>
                    go_wp2_with fail
                    exact ⟨⟨j + 1, true, rfl, by go_num, hjq, by rw [HY.out, ← HBj.out]; simp, trivial⟩, by simp [intOf]; omega⟩
                  | false =>
                    rcases Nat.decEq yv b with hya | hya
                    · have e2 : ((yv : Int) == (b : Int)) = false := beq_eq_false_iff_ne.2 (by omega)
                      have e3 : ¬ ((yv : Int) = b) := by omega
                      have HN2 := Lib.hid hya
                      clear hya
                      go_wp2_with fail
                      exact ⟨⟨j + 1, false, rfl, by go_num, hjq, by rw [HY.out, ← HBj.out, beq_eq_false_iff_ne.2 HN2.out]; rfl, trivial⟩, by simp [intOf]; omega⟩
                    · have e2 : ((yv : Int) == (b : Int)) = true := by rw [hya]; exact beq_self_eq_true _
                      have HN2 := Lib.hid hya
                      clear hya
                      go_wp2_with fail
                      exact ⟨⟨j + 1, true, rfl, by go_num, hjq, by rw [HY.out, ← HBj.out, HN2.out]; simp, trivial⟩, by simp [intOf]; omega⟩
                · obtain rfl : q1 = j := by omega
                  have hf1 : b' = Z1.contains b := by rw [HBj.out, List.take_of_length_le (by rw [HZ1.out.2]; exact Nat.le_refl _)]
                  have HF1 := Lib.hid hf1
                  obtain ⟨b1, hb1⟩ : ∃ y, y = b' := ⟨_, rfl⟩
                  subst hb1
                  obtain ⟨wB, hwB⟩ : ∃ y, y = wr := ⟨_, rfl⟩
                  subst hwB
                  clear hf1 HBj
                  go_wp2_with fail
                  go_loopw [22, 24] (fun bv jv wr => ∃ (j : Nat) (b' : Bool), bv = .bool b' ∧ jv = .int .i64 j ∧ j ≤ q2 ∧ b' = (Z2.take j).contains a ∧ wr = wB) (fun _ jv _ => q2 - (intOf jv).toNat)
                  case atStart => exact ⟨0, false, rfl, rfl, Nat.zero_le _, by simp, rfl⟩
                  case round =>
                    obtain ⟨j, b', rfl, rfl, hj, hb', rfl⟩ := hrel
                    have HBj := Lib.hid hb'
                    clear hb'
                    by_cases hjq : j < q2
                    · have s0 : (0 : Int) ≤ j := by omega
                      have s1 : (j : Int) < q2 := by omega
                      obtain ⟨ad8, yv, rfl, hy, cy⟩ := HZ2.out.1.at9.2.2.2 j hjq
                      have hst := any_take (x := a) hy
                      have HY := Lib.hid hst
                      clear hy hst
                      cases b' with
                      | true =>
                        go_wp2_with fail
                        exact ⟨⟨j + 1, true, rfl, by go_num, hjq, by rw [HY.out, ← HBj.out]; simp, trivial⟩, by simp [intOf]; omega⟩
                      | false =>
                        rcases Nat.decEq yv a with hya | hya
                        · have e2 : ((yv : Int) == (a : Int)) = false := beq_eq_false_iff_ne.2 (by omega)
                          have e3 : ¬ ((yv : Int) = a) := by omega
                          have HN2 := Lib.hid hya
                          clear hya
                          go_wp2_with fail
                          exact ⟨⟨j + 1, false, rfl, by go_num, hjq, by rw [HY.out, ← HBj.out, beq_eq_false_iff_ne.2 HN2.out]; rfl, trivial⟩, by simp [intOf]; omega⟩
                        · have e2 : ((yv : Int) == (a : Int)) = true := by rw [hya]; exact beq_self_eq_true _
                          have HN2 := Lib.hid hya
                          clear hya
                          go_wp2_with fail
                          exact ⟨⟨j + 1, true, rfl, by go_num, hjq, by rw [HY.out, ← HBj.out, HN2.out]; simp, trivial⟩, by simp [intOf]; omega⟩
                    · obtain rfl : q2 = j := by omega
                      obtain rfl : b1 = b' := by
                        rw [HF1.out, HBj.out, List.take_of_length_le (by rw [HZ2.out.2]; exact Nat.le_refl _)]
                        exact HPm.out.symm
                      clear HF1 HBj
                      cases b1
                      all_goals
                        go_wp2_with fail
                        with_reducible refine (HS.out _).mono ?_
                        rintro e w9 ⟨rfl, hb⟩
                        have HB9 := Lib.hid (H1.out.2.2.2.2.1.trans ((HB8.out.trans (hb.mono HB8.out.size)).mono H1.out.2.2.2.2.1.size))
                        clear hb
                        go_wp2_with fail
                        go_ret
                        exact ret_true9 HB9.out
      · rw [errE_pos hck] at HCk
        unfold errK at HCk
        clear hb hm
        go_enter Try.func3, Try.ntmps3
        go_wp2_with fail
        with_reducible refine HH.out.mono ?_
        rintro e w1 ⟨rfl, rfl⟩
        clear hw0
        go_wp2_with fail
        with_reducible refine HCk.out.mono ?_
        rintro e w2 ⟨rfl, hb2⟩
        have HB2 := Lib.hid hb2
        clear hb2
        go_wp2_with fail
        with_reducible refine (HS.out _).mono ?_
        rintro e w9 ⟨rfl, hb⟩
        have HB9 := Lib.hid (H1.out.2.2.2.2.1.trans ((HB2.out.trans (hb.mono HB2.out.size)).mono H1.out.2.2.2.2.1.size))
        clear hb
        go_wp2_with fail
        go_ret
        exact ret_true9 HB9.out
end Go.Proofs.Ythmklmilgcjmlaa

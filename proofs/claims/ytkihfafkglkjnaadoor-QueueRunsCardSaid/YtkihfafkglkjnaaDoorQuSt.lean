/- Layer 15: the document's Set. -/
import Derived.Test.YtkihfafkglkjnaaDoorQuRf
namespace Go.Proofs.YtkihfafkglkjnaaDoor
open Go.RowKit

theorem stE_bad {L : List Ev} {n : Int} {e : Ev} (h : badE15 e = true) : stE L n e = (L, 1) := by unfold stE; rw [if_pos h]
theorem stE_hit {L : List Ev} {n : Int} {e : Ev} {j : Nat} (h : badE15 e = false) (hj : fdE e.2.1 e.2.2 L 0 = j) : stE L n e = (insE e (wioE L j), 0) := by
  unfold stE
  rw [h, if_neg Bool.false_ne_true, hj, if_pos (by omega), Int.toNat_natCast]
theorem stE_full {L : List Ev} {n : Int} {e : Ev} (h : badE15 e = false) (hj : ¬ 0 ≤ fdE e.2.1 e.2.2 L 0) (hn : n ≤ L.length) : stE L n e = (L, 10) := by
  unfold stE
  rw [h, if_neg Bool.false_ne_true, if_neg hj, if_pos hn]
theorem stE_new {L : List Ev} {n : Int} {e : Ev} (h : badE15 e = false) (hj : ¬ 0 ≤ fdE e.2.1 e.2.2 L 0) (hn : ¬ n ≤ L.length) : stE L n e = (insE e L, 0) := by
  unfold stE
  rw [h, if_neg Bool.false_ne_true, if_neg hj, if_neg hn]
theorem badE15_or {e1 e2 e3 : Int} : (badE15 (e1, e2, e3) = true ∧ (e1 < 0 ∨ (¬ e1 < 0 ∧ 4611686018427387904 < e1) ∨ (¬ e1 < 0 ∧ ¬ 4611686018427387904 < e1 ∧ e2 < 0) ∨ (¬ e1 < 0 ∧ ¬ 4611686018427387904 < e1 ∧ ¬ e2 < 0 ∧ e3 < 0))) ∨
    (badE15 (e1, e2, e3) = false ∧ ¬ e1 < 0 ∧ ¬ 4611686018427387904 < e1 ∧ ¬ e2 < 0 ∧ ¬ e3 < 0) := by
  unfold badE15
  by_cases a1 : e1 < 0 <;> by_cases a2 : 4611686018427387904 < e1 <;> by_cases a3 : e2 < 0 <;> by_cases a4 : e3 < 0 <;> simp [a1, a2, a3, a4]
theorem evN_cells (w : World) (a b c : Int) (t : TypeId) : (w.alloc (.cells #[.int .i64 a, .int .i64 b, .int .i64 c] t)).cell? ⟨w.heap.size, 0, none⟩ = some (.int .i64 a) ∧ (w.alloc (.cells #[.int .i64 a, .int .i64 b, .int .i64 c] t)).cell? ⟨w.heap.size, 1, none⟩ = some (.int .i64 b) ∧ (w.alloc (.cells #[.int .i64 a, .int .i64 b, .int .i64 c] t)).cell? ⟨w.heap.size, 2, none⟩ = some (.int .i64 c) := by
  have h := heap_alloc_new w (.cells #[.int .i64 a, .int .i64 b, .int .i64 c] t)
  exact ⟨cell9_blk h 0 rfl, cell9_blk h 1 rfl, cell9_blk h 2 rfl⟩
set_option maxRecDepth 100000 in
set_option maxHeartbeats 8000000 in
theorem refSet_any (v : Value) (L : List Ev) (n : Int) (e : Ev) (F : Nat → Prop) (w : World) (hF : ∀ k, F k → k < w.heap.size) (hv : RowP F w v L) (hl : L.length ≤ 100000) :
    Calls Tryd.prog 7 #[v, .int .i64 n, evV e] w fun x w' => ∃ u, x = .returned (.tuple #[u, .int .i64 ((stE L n e).2 : Nat)]) ∧ RowP F w' u (stE L n e).1 ∧ Below w.heap.size w w' := by
  obtain ⟨A, c, rfl, hr⟩ := hv.row.form
  have hK := Lib.hid (And.intro hv hF)
  obtain ⟨e1, e2, e3⟩ := e
  obtain ⟨len, hlen⟩ : ∃ y, L.length = y := ⟨_, rfl⟩
  rw [hlen] at hr hl hK ⊢
  have hl2 := hr.parts.2.1
  have hl3 := hr.parts.2.2.1
  unfold maxLen at hl3
  unfold evV
  dsimp only
  have hb0 : Below w.heap.size w (w.alloc (.cells #[.int .i64 e1, .int .i64 e2, .int .i64 e3] 35)) := (Below.refl _ _).alloc (Nat.le_refl _) _
  have HB0 := Lib.hid hb0
  have HR := Lib.hid (And.intro hr hlen)
  clear hr hv hF hb0 hlen
  rcases badE15_or (e1 := e1) (e2 := e2) (e3 := e3) with ⟨hbad, hw⟩ | ⟨hbad, a1, a2, a3, a4⟩
  · rw [stE_bad hbad]
    clear hbad
    dsimp only
    rcases hw with a1 | ⟨a1, a2⟩ | ⟨a1, a2, a3⟩ | ⟨a1, a2, a3, a4⟩
    all_goals
      go_enter Tryd.func7, Tryd.ntmps7
      go_wp2_with fail
      go_ret2
      exact ⟨_, rfl, hK.out.1.bl HB0.out, HB0.out⟩
  · have HBad := Lib.hid hbad
    clear hbad
    have HFd := Lib.hid (fun W (hb : Below w.heap.size w W) => refFd_any _ L e2 e3 W (HR.out.1.below hb))
    have HWi := Lib.hid (fun (j : Nat) W (hj : j < L.length) (hb : Below w.heap.size w W) => refWio_any _ L j W (HR.out.1.below hb) hj (by rw [HR.out.2]; omega))
    obtain ⟨F0, hF⟩ : ∃ F, fdE e2 e3 L 0 = F := ⟨_, rfl⟩
    rw [hF] at HFd
    by_cases f0 : 0 ≤ F0
    case' pos =>
      obtain ⟨j, rfl⟩ : ∃ j : Nat, F0 = j := ⟨F0.toNat, by omega⟩
      have hjl := fdE_lt hF
      have hst : stE L n (e1, e2, e3) = (insE (e1, e2, e3) (wioE L j), 0) := stE_hit HBad.out hF
      obtain ⟨M, hM⟩ : ∃ M, M = wioE L j := ⟨_, rfl⟩
      have hml : M.length ≤ 100000 := by have := wioE_len hjl; rw [HR.out.2] at this; rw [hM]; omega
      have hjl2 := hjl
      rw [HR.out.2] at hjl2
      have f1 : (0 : Int) ≤ j := by omega
      rw [← hM] at hst
      rw [hst]
      dsimp only
      have HJ := Lib.hid (And.intro hjl hM)
      clear hst hjl hM
      go_enter Tryd.func7, Tryd.ntmps7
      go_wp2_with fail
      with_reducible refine (HFd.out _ HB0.out).mono ?_
      rintro x w1 ⟨rfl, rfl⟩
      go_wp2_with fail
      with_reducible refine (HWi.out j _ HJ.out.1 HB0.out).mono ?_
      rintro x W1 ⟨v1, rfl, hrow, hb1⟩
      replace hrow := hrow.row
      rw [← HJ.out.2] at hrow
      have hbW : Below w.heap.size w W1 := HB0.out.trans (hb1.mono HB0.out.size)
      have hc0 : W1.cell? ⟨w.heap.size, 0, none⟩ = some (.int .i64 e1) ∧ W1.cell? ⟨w.heap.size, 1, none⟩ = some (.int .i64 e2) ∧ W1.cell? ⟨w.heap.size, 2, none⟩ = some (.int .i64 e3) := by
        obtain ⟨k0, k1, k2⟩ := evN_cells w e1 e2 e3 35
        exact ⟨(hb1.cell (by simp)).trans k0, (hb1.cell (by simp)).trans k1, (hb1.cell (by simp)).trans k2⟩
      have hz1 : w.heap.size < W1.heap.size := Nat.lt_of_lt_of_le (by simp) hb1.size
      clear hb1 HJ
    case' neg =>
      have hnf : ¬ 0 ≤ fdE e2 e3 L 0 := by rw [hF]; exact f0
      by_cases hn : n ≤ len
      · have hst : stE L n (e1, e2, e3) = (L, 10) := stE_full HBad.out hnf (by rw [HR.out.2]; exact hn)
        rw [hst]
        dsimp only
        clear hst hnf
        go_enter Tryd.func7, Tryd.ntmps7
        go_wp2_with fail
        with_reducible refine (HFd.out _ HB0.out).mono ?_
        rintro x w1 ⟨rfl, rfl⟩
        go_wp2_with fail
        go_ret2
        exact ⟨_, rfl, hK.out.1.bl HB0.out, HB0.out⟩
      have hst : stE L n (e1, e2, e3) = (insE (e1, e2, e3) L, 0) := stE_new HBad.out hnf (by rw [HR.out.2]; exact hn)
      obtain ⟨M, hM⟩ : ∃ M, M = L := ⟨_, rfl⟩
      rw [hst, ← hM]
      dsimp only
      clear hst hnf
      go_enter Tryd.func7, Tryd.ntmps7
      go_wp2_with fail
      with_reducible refine (HFd.out _ HB0.out).mono ?_
      rintro x w1 ⟨rfl, rfl⟩
      obtain ⟨W1, hW1⟩ : ∃ W1, W1 = w.alloc (.cells #[.int .i64 e1, .int .i64 e2, .int .i64 e3] 35) := ⟨_, rfl⟩
      have hbW : Below w.heap.size w W1 := by rw [hW1]; exact HB0.out
      have hc0 : W1.cell? ⟨w.heap.size, 0, none⟩ = some (.int .i64 e1) ∧ W1.cell? ⟨w.heap.size, 1, none⟩ = some (.int .i64 e2) ∧ W1.cell? ⟨w.heap.size, 2, none⟩ = some (.int .i64 e3) := by
        rw [hW1]
        exact evN_cells w e1 e2 e3 _
      have hz1 : w.heap.size < W1.heap.size := by rw [hW1]; simp
      have hrow : RowE W1 (.slice A len c) M := by rw [hM]; exact HR.out.1.below hbW
      have hml : M.length ≤ 100000 := by rw [hM, HR.out.2]; exact hl
      obtain ⟨v1, hv1⟩ : ∃ v1, v1 = Value.slice A len c := ⟨_, rfl⟩
      rw [← hv1] at hrow
      rw [← hW1]
      clear hM hW1
    all_goals
      obtain ⟨A1, c1, rfl, hr1⟩ := hrow.form
      obtain ⟨m, hm⟩ : ∃ y, M.length = y := ⟨_, rfl⟩
      rw [hm] at hr1 hml
      try rw [hm]
      first | rw [hm] at hv1; injection hv1 with hv1 hv2 hv3; subst hv1 hv2 hv3 | skip
      have HM := Lib.hid (And.intro hr1 (And.intro hm (And.intro hc0 (And.intro hbW hz1))))
      have hm2 := hr1.parts.2.1
      clear hr1 hm hc0 hbW hz1 hrow HFd HWi HR HB0
      have HHm := Lib.hid hm2
      have HAh := Lib.hid (fun a b c W => refAhead_any (a, b, c) (e1, e2, e3) W)
      unfold evV at HAh
      dsimp only at HAh
      go_wp2_with fail
      go_loopw [9] (fun iv wr => ∃ i : Nat, iv = .int .i64 i ∧ i ≤ m ∧ Below W1.heap.size W1 wr ∧ ∀ t, t < i → ∀ x, M[t]? = some x → ahE x (e1, e2, e3) = true) (fun iv _ => m - (intOf iv).toNat)
      case atStart => exact ⟨0, rfl, Nat.zero_le _, Below.refl _ _, fun t ht => absurd ht (Nat.not_lt_zero t)⟩
      case round =>
        obtain ⟨i, rfl, hi, hb, hyes⟩ := hrel
        have HB := Lib.hid (And.intro hb hyes)
        have HSS : Hid (∀ V, Below wr.heap.size wr V → V.cell? ⟨w.heap.size, 0, none⟩ = some (.int .i64 e1) ∧ V.cell? ⟨w.heap.size, 1, none⟩ = some (.int .i64 e2) ∧ V.cell? ⟨w.heap.size, 2, none⟩ = some (.int .i64 e3)) := by
          intro V hV
          have hVV := HB.out.1.trans (hV.mono HB.out.1.size)
          exact ⟨(hVV.cell HM.out.2.2.2.2).trans HM.out.2.2.1.1, (hVV.cell HM.out.2.2.2.2).trans HM.out.2.2.1.2.1, (hVV.cell HM.out.2.2.2.2).trans HM.out.2.2.1.2.2⟩
        clear hb hyes
        by_cases him : i < m
        · have q0 : (0 : Int) ≤ i := by omega
          have q1 : (i : Int) < m := by omega
          obtain ⟨p, hp⟩ : ∃ p, M[i]? = some p := ⟨_, List.getElem?_eq_getElem (by rw [HM.out.2.1]; exact him)⟩
          obtain ⟨ad, X, rfl, hX, k0, k1, k2⟩ := HM.out.1.parts.2.2.2.2 i him p hp
          obtain ⟨p1, p2, p3⟩ := p
          dsimp only at k0 k1 k2
          have hXb := World.block_lt_of_cell? _ _ k0
          have HX : Hid (∀ V, Below wr.heap.size wr V → V.cell? X = some (.int .i64 p1) ∧ V.cell? { block := X.block, off := X.off + 1 } = some (.int .i64 p2) ∧ V.cell? { block := X.block, off := X.off + 2 } = some (.int .i64 p3)) := by
            intro V hV
            have hVV := HB.out.1.trans (hV.mono HB.out.1.size)
            exact ⟨(hVV.cell (p := X) hXb).trans k0, (hVV.cell (p := { block := X.block, off := X.off + 1 }) hXb).trans k1, (hVV.cell (p := { block := X.block, off := X.off + 2 }) hXb).trans k2⟩
          obtain ⟨r, hr⟩ : ∃ r, ahE (p1, p2, p3) (e1, e2, e3) = r := ⟨_, rfl⟩
          have HA2 := Lib.hid (fun W => HAh.out p1 p2 p3 W)
          rw [hr] at HA2
          have HP := Lib.hid (And.intro hp hr)
          clear k0 k1 k2 hXb hp hr
          go_wp2_with fail
          have hbd : Below wr.heap.size wr wr.drew := ⟨rfl, rfl, rfl, Nat.le_refl _, fun _ _ => rfl⟩
          go_region_held3 (fun V => V.cell? X = some (.int .i64 p1) ∧ V.cell? { block := X.block, off := X.off + 1 } = some (.int .i64 p2) ∧ V.cell? { block := X.block, off := X.off + 2 } = some (.int .i64 p3) ∧ V.cell? ⟨w.heap.size, 0, none⟩ = some (.int .i64 e1) ∧ V.cell? ⟨w.heap.size, 1, none⟩ = some (.int .i64 e2) ∧ V.cell? ⟨w.heap.size, 2, none⟩ = some (.int .i64 e3))
            (exact ⟨(HX.out _ (by assumption)).1, (HX.out _ (by assumption)).2.1, (HX.out _ (by assumption)).2.2, HSS.out _ (by assumption)⟩) (first
            | (go_at_call 20
               refine (HA2.out _).mono ?_
               rintro x W2 ⟨rfl, hb2⟩
               have hb2' : Below wr.heap.size wr W2 := hbd.trans (hb2.mono hbd.size)
               clear hb2))
          cases r with
          | true =>
            have HB3 := Lib.hid hb2'
            clear hb2' hbd
            go_wp2_with fail
            refine ⟨⟨i + 1, by go_num, him, HB.out.1.trans (HB3.out.mono HB.out.1.size), fun t ht x hx => ?_⟩, by simp [intOf]; omega⟩
            by_cases et : t = i
            · rw [et, HP.out.1] at hx
              rw [← Option.some.inj hx]
              exact HP.out.2
            · exact HB.out.2 t (by omega) x hx
          | false =>
            have hcut : cutE (e1, e2, e3) M = i := cutE_of (by rw [HM.out.2.1]; omega) HB.out.2 (fun x hx => by
              rw [HP.out.1] at hx
              rw [← Option.some.inj hx]
              exact HP.out.2)
            have HC := Lib.hid (And.intro hcut (HB.out.1.trans (hb2'.mono HB.out.1.size)))
            clear hb2' hbd hcut
            obtain ⟨A2, C2, hs1, hA1⟩ := cutQ_head (some ad) M m c1 i HM.out.2.1 (by omega) hm2
            obtain ⟨A3, C3, hs2, hA2⟩ := cutQ_tail (some ad) M m c1 i HM.out.2.1 (by omega) hm2
            obtain ⟨r, hr⟩ : ∃ r, m - i = r := ⟨_, rfl⟩
            rw [hr] at hs2
            have HRa := Lib.hid (fun V (h : Below W2.heap.size W2 V) => hA1 V (HM.out.1.parts.2.2.2.1.below (HC.out.2.trans (h.mono HC.out.2.size))))
            have HRb := Lib.hid (fun V (h : Below W2.heap.size W2 V) => hA2 V (HM.out.1.parts.2.2.2.1.below (HC.out.2.trans (h.mono HC.out.2.size))))
            have HLn : Hid (((M.take i).flatMap evC).length = i * 3 ∧ ((M.drop i).flatMap evC).length = r * 3 ∧ i + r ≤ 100000 ∧ i + r = m) := by
              refine ⟨?_, ?_, by omega, by omega⟩
              · rw [evC_len, List.length_take, HM.out.2.1]; congr 1; omega
              · rw [evC_len, List.length_drop, HM.out.2.1]; congr 1
            have HSW : Hid (∀ V, Below W2.heap.size W2 V → V.cell? ⟨w.heap.size, 0, none⟩ = some (.int .i64 e1) ∧ V.cell? ⟨w.heap.size, 1, none⟩ = some (.int .i64 e2) ∧ V.cell? ⟨w.heap.size, 2, none⟩ = some (.int .i64 e3)) := by
              intro V hV
              have hVV := HC.out.2.trans (hV.mono HC.out.2.size)
              exact ⟨(hVV.cell HM.out.2.2.2.2).trans HM.out.2.2.1.1, (hVV.cell HM.out.2.2.2.2).trans HM.out.2.2.1.2.1, (hVV.cell HM.out.2.2.2.2).trans HM.out.2.2.1.2.2⟩
            clear hA1 hA2 hr
            have q7 : (0 : Int) ≤ i := by omega
            go_wp2_with fail
            have hbI : Below W2.heap.size W2 W2.drew := ⟨rfl, rfl, rfl, Nat.le_refl _, fun _ _ => rfl⟩
            have HDr := Lib.hid hbI
            go_region_held3 (fun V => V.cell? ⟨w.heap.size, 0, none⟩ = some (.int .i64 e1) ∧ V.cell? ⟨w.heap.size, 1, none⟩ = some (.int .i64 e2) ∧ V.cell? ⟨w.heap.size, 2, none⟩ = some (.int .i64 e3)) (first | exact HSW.out _ HDr.out | exact HSW.out _ (by assumption) | exact HSW.out _ (below_alO (by assumption) _)) (first
              | (refine step_appK (by rfl) (.tmp 60) (.tmp 63) _ (by rfl) Tryd.underlying29 infoEd rfl (by omega) W2.heap.size (.slice none 0 0) 0 [] (by rfl) (World.ownsRow_nil _ _ _ _) A2 i C2 ((M.take i).flatMap evC) (by rfl) HLn.out.1
                   (by first | exact HRa.out _ hbI | exact HRa.out _ (below_alO hbI _)) (one_ev _) (by have := HLn.out.2.2; unfold maxLen; omega) (by have := HLn.out.2.2; omega) (by first | exact hbI.size | exact (below_alO hbI _).size) ?_
                 intro vN wN hoN hgN haN
                 have hbN : Below W2.heap.size W2 wN := by
                   first
                   | exact hbI.grown hgN hbI.size (fun k hk => by simp [Value.ownBlock] at hk)
                   | exact (below_alO hbI _).grown hgN (below_alO hbI _).size (fun k hk => by simp [Value.ownBlock] at hk)
                 first
                 | have HRc := Lib.hid (show Rd wN (some ⟨W2.drew.heap.size, 0, none⟩) (evC (e1, e2, e3)) from Rd.below (rd_oneE W2.drew (e1, e2, e3) _) ((Below.refl _ _).grown hgN (Nat.le_refl _) (fun k hk => by simp [Value.ownBlock] at hk)))
                 | skip
                 have HNN := Lib.hid hoN
                 clear hoN hgN haN)
              | (refine step_appK (by rfl) (.tmp 64) (.tmp 66) _ (by rfl) Tryd.underlying29 infoEd rfl (by omega) W2.heap.size vN (0 + i) ([] ++ (M.take i).flatMap evC) (by rfl) (by first | exact HNN.out | exact HNN.out.alloc _) (some ⟨_, 0, none⟩) 1 1 (evC (e1, e2, e3)) (by rfl) rfl
                   (by first | exact HRc.out | exact rd_oneE _ (e1, e2, e3) _) (by intro u hu; simp only [evC, List.mem_cons, List.not_mem_nil, or_false] at hu; rcases hu with rfl | rfl | rfl <;> rfl) (by have := HLn.out.2.2; unfold maxLen; omega) (by have := HLn.out.2.2; omega) (by first | exact hbN.size | exact (below_alO hbN _).size) ?_
                 intro vE wE hoE hgE haE
                 have hbE : Below W2.heap.size W2 wE := by
                   first
                   | exact hbN.grown hgE hbN.size (fun k hk => (HNN.out.lt k hk).1)
                   | exact (below_alO hbN _).grown hgE (below_alO hbN _).size (fun k hk => (HNN.out.lt k hk).1)
                 have HEE := Lib.hid hoE
                 clear hoE hgE haE)
              | (refine step_appK (by rfl) (.tmp 67) (.tmp 70) _ (by rfl) Tryd.underlying29 infoEd rfl (by omega) W2.heap.size vE (0 + i + 1) ([] ++ (M.take i).flatMap evC ++ evC (e1, e2, e3)) (by rfl) HEE.out A3 r C3 ((M.drop i).flatMap evC) (by rfl) HLn.out.2.1
                   (HRb.out _ hbE) (one_ev _) (by have := HLn.out.2.2; unfold maxLen; omega) (by have := HLn.out.2.2; omega) hbE.size ?_
                 intro vZ wZ hoZ hgZ haZ
                 have hbZ : Below W2.heap.size W2 wZ := hbE.grown hgZ hbE.size (fun k hk => (HEE.out.lt k hk).1)
                 have HZZ := Lib.hid hoZ
                 clear hoZ hgZ haZ))
            all_goals
              have HZb := Lib.hid hbZ
              clear hbI hbN hbE hbZ hs1 hs2
              go_wp2_with fail
              go_ret2
              refine ⟨_, rfl, (RowP.owned (base := W2.heap.size) (e := 35) (n := 0 + i + 1 + r) ?_ ?_).mono (fun k hk => Nat.lt_of_lt_of_le (hK.out.2 k hk) (HM.out.2.2.2.1.trans (HC.out.2.mono HM.out.2.2.2.1.size)).size), HM.out.2.2.2.1.trans ((HC.out.2.trans (HZb.out.mono HC.out.2.size)).mono HM.out.2.2.2.1.size)⟩
              · have := HLn.out.2.2; rw [insE_len, HM.out.2.1]; omega
              · have e : (insE (e1, e2, e3) M).flatMap evC = [] ++ (M.take i).flatMap evC ++ evC (e1, e2, e3) ++ (M.drop i).flatMap evC := by
                  unfold insE
                  rw [HC.out.1, List.flatMap_append, List.flatMap_cons, List.nil_append, List.append_assoc]
                rw [e]
                exact HZZ.out
        · obtain rfl : i = m := by omega
          have q1 : ¬ ((i : Int) < i) := by omega
          have hcut : cutE (e1, e2, e3) M = i := cutE_of (by rw [HM.out.2.1]; omega) HB.out.2 (fun x hx => by
            rw [List.getElem?_eq_none (by rw [HM.out.2.1]; omega)] at hx
            cases hx)
          have HQ := Lib.hid hcut
          clear hcut
          go_wp2_with fail
          have hd : decide ((i : Int) < (i : Int)) = false := decide_eq_false (by omega)
          go_quiet (fail)
          have HC := Lib.hid (And.intro HQ.out (HB.out.1.trans (below_dq wr nq)))
          obtain ⟨A2, C2, hs1, hA1⟩ := cutQ_head A1 M i c1 i HM.out.2.1 (by omega) hm2
          obtain ⟨A3, C3, hs2, hA2⟩ := cutQ_tail A1 M i c1 i HM.out.2.1 (by omega) hm2
          obtain ⟨r, hr⟩ : ∃ r, i - i = r := ⟨_, rfl⟩
          rw [hr] at hs2
          have HRa := Lib.hid (fun V (h : Below (wr.drewN nq).heap.size (wr.drewN nq) V) => hA1 V (HM.out.1.parts.2.2.2.1.below (HC.out.2.trans (h.mono HC.out.2.size))))
          have HRb := Lib.hid (fun V (h : Below (wr.drewN nq).heap.size (wr.drewN nq) V) => hA2 V (HM.out.1.parts.2.2.2.1.below (HC.out.2.trans (h.mono HC.out.2.size))))
          have HLn : Hid (((M.take i).flatMap evC).length = i * 3 ∧ ((M.drop i).flatMap evC).length = r * 3 ∧ i + r ≤ 100000 ∧ i + r = i) := by
            refine ⟨?_, ?_, by omega, by omega⟩
            · rw [evC_len, List.length_take, HM.out.2.1]; congr 1; omega
            · rw [evC_len, List.length_drop, HM.out.2.1]; congr 1
          have HSW : Hid (∀ V, Below (wr.drewN nq).heap.size (wr.drewN nq) V → V.cell? ⟨w.heap.size, 0, none⟩ = some (.int .i64 e1) ∧ V.cell? ⟨w.heap.size, 1, none⟩ = some (.int .i64 e2) ∧ V.cell? ⟨w.heap.size, 2, none⟩ = some (.int .i64 e3)) := by
            intro V hV
            have hVV := HC.out.2.trans (hV.mono HC.out.2.size)
            exact ⟨(hVV.cell HM.out.2.2.2.2).trans HM.out.2.2.1.1, (hVV.cell HM.out.2.2.2.2).trans HM.out.2.2.1.2.1, (hVV.cell HM.out.2.2.2.2).trans HM.out.2.2.1.2.2⟩
          clear hA1 hA2 hr
          have q7 : (0 : Int) ≤ i := by omega
          go_wp2_with fail
          have hbI : Below (wr.drewN nq).heap.size (wr.drewN nq) (wr.drewN nq).drew := ⟨rfl, rfl, rfl, Nat.le_refl _, fun _ _ => rfl⟩
          have HDr := Lib.hid hbI
          go_region_held3 (fun V => V.cell? ⟨w.heap.size, 0, none⟩ = some (.int .i64 e1) ∧ V.cell? ⟨w.heap.size, 1, none⟩ = some (.int .i64 e2) ∧ V.cell? ⟨w.heap.size, 2, none⟩ = some (.int .i64 e3)) (first | exact HSW.out _ HDr.out | exact HSW.out _ (by assumption) | exact HSW.out _ (below_alO (by assumption) _)) (first
            | (refine step_appK (by rfl) (.tmp 60) (.tmp 63) _ (by rfl) Tryd.underlying29 infoEd rfl (by omega) (wr.drewN nq).heap.size (.slice none 0 0) 0 [] (by rfl) (World.ownsRow_nil _ _ _ _) A2 i C2 ((M.take i).flatMap evC) (by rfl) HLn.out.1
                 (by first | exact HRa.out _ hbI | exact HRa.out _ (below_alO hbI _)) (one_ev _) (by have := HLn.out.2.2; unfold maxLen; omega) (by have := HLn.out.2.2; omega) (by first | exact hbI.size | exact (below_alO hbI _).size) ?_
               intro vN wN hoN hgN haN
               have hbN : Below (wr.drewN nq).heap.size (wr.drewN nq) wN := by
                 first
                 | exact hbI.grown hgN hbI.size (fun k hk => by simp [Value.ownBlock] at hk)
                 | exact (below_alO hbI _).grown hgN (below_alO hbI _).size (fun k hk => by simp [Value.ownBlock] at hk)
               first
               | have HRc := Lib.hid (show Rd wN (some ⟨(wr.drewN nq).drew.heap.size, 0, none⟩) (evC (e1, e2, e3)) from Rd.below (rd_oneE (wr.drewN nq).drew (e1, e2, e3) _) ((Below.refl _ _).grown hgN (Nat.le_refl _) (fun k hk => by simp [Value.ownBlock] at hk)))
               | skip
               have HNN := Lib.hid hoN
               clear hoN hgN haN)
            | (refine step_appK (by rfl) (.tmp 64) (.tmp 66) _ (by rfl) Tryd.underlying29 infoEd rfl (by omega) (wr.drewN nq).heap.size vN (0 + i) ([] ++ (M.take i).flatMap evC) (by rfl) (by first | exact HNN.out | exact HNN.out.alloc _) (some ⟨_, 0, none⟩) 1 1 (evC (e1, e2, e3)) (by rfl) rfl
                 (by first | exact HRc.out | exact rd_oneE _ (e1, e2, e3) _) (by intro u hu; simp only [evC, List.mem_cons, List.not_mem_nil, or_false] at hu; rcases hu with rfl | rfl | rfl <;> rfl) (by have := HLn.out.2.2; unfold maxLen; omega) (by have := HLn.out.2.2; omega) (by first | exact hbN.size | exact (below_alO hbN _).size) ?_
               intro vE wE hoE hgE haE
               have hbE : Below (wr.drewN nq).heap.size (wr.drewN nq) wE := by
                 first
                 | exact hbN.grown hgE hbN.size (fun k hk => (HNN.out.lt k hk).1)
                 | exact (below_alO hbN _).grown hgE (below_alO hbN _).size (fun k hk => (HNN.out.lt k hk).1)
               have HEE := Lib.hid hoE
               clear hoE hgE haE)
            | (refine step_appK (by rfl) (.tmp 67) (.tmp 70) _ (by rfl) Tryd.underlying29 infoEd rfl (by omega) (wr.drewN nq).heap.size vE (0 + i + 1) ([] ++ (M.take i).flatMap evC ++ evC (e1, e2, e3)) (by rfl) HEE.out A3 r C3 ((M.drop i).flatMap evC) (by rfl) HLn.out.2.1
                 (HRb.out _ hbE) (one_ev _) (by have := HLn.out.2.2; unfold maxLen; omega) (by have := HLn.out.2.2; omega) hbE.size ?_
               intro vZ wZ hoZ hgZ haZ
               have hbZ : Below (wr.drewN nq).heap.size (wr.drewN nq) wZ := hbE.grown hgZ hbE.size (fun k hk => (HEE.out.lt k hk).1)
               have HZZ := Lib.hid hoZ
               clear hoZ hgZ haZ))
          all_goals
            have HZb := Lib.hid hbZ
            clear hbI hbN hbE hbZ hs1 hs2
            go_wp2_with fail
            go_ret2
            refine ⟨_, rfl, (RowP.owned (base := (wr.drewN nq).heap.size) (e := 35) (n := 0 + i + 1 + r) ?_ ?_).mono (fun k hk => Nat.lt_of_lt_of_le (hK.out.2 k hk) (HM.out.2.2.2.1.trans (HC.out.2.mono HM.out.2.2.2.1.size)).size), HM.out.2.2.2.1.trans ((HC.out.2.trans (HZb.out.mono HC.out.2.size)).mono HM.out.2.2.2.1.size)⟩
            · have := HLn.out.2.2; rw [insE_len, HM.out.2.1]; omega
            · have e : (insE (e1, e2, e3) M).flatMap evC = [] ++ (M.take i).flatMap evC ++ evC (e1, e2, e3) ++ (M.drop i).flatMap evC := by
                unfold insE
                rw [HC.out.1, List.flatMap_append, List.flatMap_cons, List.nil_append, List.append_assoc]
              rw [e]
              exact HZZ.out
end Go.Proofs.YtkihfafkglkjnaaDoor

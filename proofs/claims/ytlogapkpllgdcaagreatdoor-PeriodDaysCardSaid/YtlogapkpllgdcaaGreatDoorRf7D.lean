/- The document's Day. -/
import Derived.Test.YtlogapkpllgdcaaGreatDoorRf7I
import Derived.Test.YtlogapkpllgdcaaGreatDoorRf7C
import Derived.Test.YtlogapkpllgdcaaGreatDoorPdDay
import Derived.IntWalk
import Derived.Deep.QuietTactic
import Derived.BigQuiet
namespace Go.Proofs.YtlogapkpllgdcaaGreatDoor
open Go.RowKit

theorem errD_chk {l : List Prd} {i day : Int} (h : chk l ≠ 0) : errD l i day = chk l := by
  have h7 : err7 l i = chk l := by unfold err7; rw [if_neg h]
  unfold errD
  rw [h7, if_neg h]
theorem errD_five {l : List Prd} {i day : Int} (h : chk l = 0) (h1 : i < 0 ∨ (l.length : Int) ≤ i) : errD l i day = 5 := by
  have h7 : err7 l i = 5 := by
    unfold err7 isOneB
    rw [if_pos h, if_neg]
    simp only [Bool.and_eq_true, decide_eq_true_eq]
    omega
  unfold errD
  rw [h7, if_neg (by omega)]
set_option maxRecDepth 100000 in
set_option maxHeartbeats 1000000 in
theorem refDay_no (l : List Prd) (v : Value) (i day : Int) (w : World) (hset : HPd w v l) (he : errD l i day ≠ 0) :
    Calls Tryz.prog 17 #[v, .int .i64 i, .int .i64 day] w fun e w' => e = .returned (.tuple #[.slice none 0 0, .int .i64 (errD l i day)]) ∧ Below w.heap.size w w' := by
  have HC := Lib.hid (refChk_any l v w hset)
  obtain ⟨A, c, E, U, rfl, _, _, _⟩ := hset
  obtain ⟨n, hn⟩ : ∃ n, l.length = n := ⟨_, rfl⟩
  rw [hn] at HC ⊢
  by_cases hc : chk l = 0
  · by_cases hi : i < 0 ∨ (n : Int) ≤ i
    · rw [errD_five hc (by rw [hn]; exact hi)]
      rw [hc] at HC
      have hi2 : i < 0 ∨ (¬ i < 0 ∧ (n : Int) ≤ i) := by omega
      clear hi hc he hn
      rcases hi2 with h1 | ⟨h1, h2⟩
      · have d1 : decide (i < 0) = true := decide_eq_true h1
        go_enter Tryz.func17, Tryz.ntmps17
        go_wp2_with fail
        refine HC.out.mono ?_
        rintro e w1 ⟨rfl, hb1⟩
        have HB := Lib.hid hb1
        clear hb1
        go_wp2_with fail
        go_ret2
        exact ⟨rfl, HB.out⟩
      · have d1 : decide (i < 0) = false := decide_eq_false h1
        have d2 : decide ((n : Int) ≤ i) = true := decide_eq_true h2
        go_enter Tryz.func17, Tryz.ntmps17
        go_wp2_with fail
        refine HC.out.mono ?_
        rintro e w1 ⟨rfl, hb1⟩
        have HB := Lib.hid hb1
        clear hb1
        go_wp2_with fail
        go_ret2
        exact ⟨rfl, HB.out⟩
    · have h7 : err7 l i = 0 := err7_none hc (by omega) (by omega)
      have hr : day < -70368744177664 ∨ 70368744177664 < day := by
        by_cases h : day < -70368744177664 ∨ 70368744177664 < day
        · exact h
        · exact absurd (by unfold errD; rw [if_pos h7, if_neg h]) he
      have e1 : errD l i day = 1 := by unfold errD; rw [if_pos h7, if_pos hr]
      rw [e1]
      rw [hc] at HC
      have h1 : ¬ i < 0 := by omega
      have h2 : ¬ (n : Int) ≤ i := by omega
      have d1 : decide (i < 0) = false := decide_eq_false h1
      have d2 : decide ((n : Int) ≤ i) = false := decide_eq_false h2
      have hr2 : day < -70368744177664 ∨ (¬ day < -70368744177664 ∧ 70368744177664 < day) := by omega
      clear hi hc he hn e1 hr h7
      rcases hr2 with h3 | ⟨h3, h4⟩
      · have d3 : decide (day < -70368744177664) = true := decide_eq_true h3
        go_enter Tryz.func17, Tryz.ntmps17
        go_wp2_with fail
        refine HC.out.mono ?_
        rintro e w1 ⟨rfl, hb1⟩
        have HB := Lib.hid hb1
        clear hb1
        go_wp2_with fail
        go_ret2
        exact ⟨rfl, HB.out⟩
      · have d3 : decide (day < -70368744177664) = false := decide_eq_false h3
        have d4 : decide (70368744177664 < day) = true := decide_eq_true h4
        go_enter Tryz.func17, Tryz.ntmps17
        go_wp2_with fail
        refine HC.out.mono ?_
        rintro e w1 ⟨rfl, hb1⟩
        have HB := Lib.hid hb1
        clear hb1
        go_wp2_with fail
        go_ret2
        exact ⟨rfl, HB.out⟩
  · rw [errD_chk hc]
    generalize chk l = k at *
    clear he hn
    go_enter Tryz.func17, Tryz.ntmps17
    go_wp2_with fail
    refine HC.out.mono ?_
    rintro e w1 ⟨rfl, hb1⟩
    have HB := Lib.hid hb1
    clear hb1
    go_wp2_with fail
    go_ret2
    exact ⟨rfl, HB.out⟩
theorem elSR : ElemK Tryz.prog 47 52 (.agg #[.int .i64 0, .int .i64 0]) 2 16 := ⟨Tryz.underlying47, by kernel_rfl, rfl, by decide⟩
theorem stp_get {L : List Nat} {k : Nat} (h : k ≤ L.length) : (natL (L ++ [86400]))[k]? = some (.int .i64 ((stp L k : Nat) : Int)) := by
  rw [natL_get _ _ (by rw [List.length_append]; simp; omega)]
  unfold stp
  rcases Nat.lt_or_ge k L.length with h1 | h1
  · rw [if_pos h1, getD_snoc_lt h1]
  · rw [if_neg (by omega), getD_snoc_eq (by omega)]
/-- What the document's Day hands back. -/
def RefDayS (l : List Prd) (i : Nat) (day : Int) (w : World) (e : Ending) (w' : World) : Prop :=
  ∃ u o, e = .returned (.tuple #[u, .int .i64 0]) ∧ HSp w' u o ∧ Can (-1) o ∧ (∀ j, j < 86400 → secF l day i j = o.any fun s => inS s j) ∧ Below w.heap.size w w'
/-- What its loop keeps: the spans, in a row of one's own. -/
def DayR (f : Nat → Bool) (L : List Nat) (w3 : World) (k : Nat) (u : Value) (W : World) : Prop :=
  ∃ (o : List Spn) (n : Nat), o.length = n ∧ n ≤ k ∧ W.ownsRow w3.heap.size 52 2 u n (o.flatMap spC) ∧ Below w3.heap.size w3 W ∧ UpD f o (stp L k)
theorem owns_drewN {w : World} {base s : Nat} {e : TypeId} {v : Value} {n : Nat} {xs : List Value} (h : w.ownsRow base e s v n xs) (q : Nat) : (w.drewN q).ownsRow base e s v n xs := h
theorem owns_mono7 {w : World} {base base' s : Nat} {e : TypeId} {v : Value} {n : Nat} {xs : List Value} (h : w.ownsRow base e s v n xs) (hb : base' ≤ base) : w.ownsRow base' e s v n xs :=
  ⟨h.1, h.2.imp id fun ⟨g, cap, cur, e, h1, r⟩ => ⟨g, cap, cur, e, Nat.le_trans hb h1, r⟩⟩
theorem owns_drew7 {w : World} {base s : Nat} {e : TypeId} {v : Value} {n : Nat} {xs : List Value} (h : w.ownsRow base e s v n xs) : w.drew.ownsRow base e s v n xs := h
theorem snoc_ex {α : Type} {l : List α} {m : Nat} (h : l.length = m + 1) : ∃ r x, l = r ++ [x] ∧ r.length = m := by
  have hne : l ≠ [] := by intro e; rw [e] at h; cases h
  exact ⟨l.dropLast, l.getLast hne, (List.dropLast_concat_getLast hne).symm, by rw [List.length_dropLast]; omega⟩
theorem flat_set {r : List Spn} {m : Nat} (h : r.length = m) (a x y : Int) : ((r ++ [(⟨a, x⟩ : Spn)]).flatMap spC).set (m * 2 + 1) (.int .i64 y) = (r ++ [(⟨a, y⟩ : Spn)]).flatMap spC := by
  rw [flat_snoc, flat_snoc, List.set_append_right _ _ (by rw [flat_len spC 2 (fun _ => rfl), h]; omega), flat_len spC 2 (fun _ => rfl), h, show m * 2 + 1 - m * 2 = 1 by omega]
  rfl
theorem flat_to {r : List Spn} {m : Nat} (h : r.length = m) (a x : Int) : ((r ++ [(⟨a, x⟩ : Spn)]).flatMap spC)[m * 2 + 1]? = some (.int .i64 x) := by
  rw [flat_snoc, List.getElem?_append_right (by rw [flat_len spC 2 (fun _ => rfl), h]; omega), flat_len spC 2 (fun _ => rfl), h, show m * 2 + 1 - m * 2 = 1 by omega]
  rfl
set_option maxRecDepth 100000 in
set_option maxHeartbeats 1000000 in
theorem refDay_ok (l : List Prd) (v : Value) (i : Nat) (day : Int) (w : World) (hset : HPd w v l) (he : errD l i day = 0) :
    Calls Tryz.prog 17 #[v, .int .i64 i, .int .i64 day] w (RefDayS l i day w) := by
  obtain ⟨h7, hd1, hd2⟩ := errD_zero he
  obtain ⟨hc, hi1, hi2⟩ := err7_zero h7
  have HC := Lib.hid (refChk_any l v w hset)
  rw [hc] at HC
  have HH := Lib.hid (fun W (hW : Below w.heap.size w W) (q : Nat) => show Calls _ _ _ _ fun e w' => e = .returned (.bool (secF l day i q)) ∧ Below W.heap.size W w' from refHas_any l v day q i W (good_of hc) hd1 hd2 (by omega) (hset.below hW))
  have HBO := Lib.hid (fun W (hW : Below w.heap.size w W) => refBord_any l v W (good_of hc) (hset.below hW))
  obtain ⟨A, c, E, U, rfl, _, _, _⟩ := hset
  obtain ⟨n, hn⟩ : ∃ n, l.length = n := ⟨_, rfl⟩
  rw [hn] at HC HH HBO ⊢
  have h2 : ¬ (n : Int) ≤ i := by omega
  have d2 : decide ((n : Int) ≤ i) = false := decide_eq_false h2
  have d3 : decide (day < -70368744177664) = false := decide_eq_false (by omega)
  have d4 : decide (70368744177664 < day) = false := decide_eq_false (by omega)
  clear hc he hn h7 hi1 hi2
  go_enter Tryz.func17, Tryz.ntmps17
  go_wp2_with fail
  refine HC.out.mono ?_
  rintro e w1 ⟨rfl, hb1⟩
  have HB1 := Lib.hid hb1
  clear hb1
  go_wp2_with fail
  refine (HBO.out _ HB1.out).mono ?_
  rintro e w2 ⟨u, L, rfl, hbr, hown, hb2⟩
  have HBR := Lib.hid hbr
  have hb2 := HB1.out.trans (hb2.mono HB1.out.size)
  have hown := owns_mono7 hown HB1.out.size
  obtain ⟨N, hN⟩ : ∃ N, L.length = N := ⟨_, rfl⟩
  rw [hN] at hown
  have hN9 : (N : Int) ≤ 86400 := by have := hbr.len; omega
  have HLN := Lib.hid hN
  have HOW := Lib.hid hown
  have HB2 := Lib.hid hb2
  clear hbr hown hb2 hN
  go_wp2_with
    (at_builtin
     refine wpList_app rfl (.tmp 33) (.tmp 34) 55 rfl elI w.heap.size u N (natL L) rfl (HOW.out.alloc _) (some ⟨w2.heap.size, 0, none⟩) 1 1 [.int .i64 86400] rfl rfl (Rd.block (heap_alloc_new w2 (.cells #[.int .i64 86400] 3))) (by intro u hu; simp only [List.mem_cons, List.not_mem_nil, or_false] at hu; rw [hu]; rfl) (by unfold maxLen; omega) (by omega) (by rw [World.size_alloc]; have := HB2.out.size; omega) ?_)
  intro v' w3 ho hg _
  have hb3 : Below w.heap.size w w3 := (HB2.out.alloc HB2.out.size _).grown hg (by rw [World.size_alloc]; have := HB2.out.size; omega) (fun k hk => (HOW.out.lt k hk).1)
  obtain ⟨M, hM⟩ : ∃ M, N + 1 = M := ⟨_, rfl⟩
  rw [hM] at ho
  obtain ⟨AL, cL, rfl, _, _, _, hrd, _⟩ := owns_form ho
  rw [show natL L ++ [.int .i64 86400] = natL (L ++ [86400]) from (natL_snoc L 86400).symm] at hrd
  have HRD := Lib.hid hrd
  have HB3 := Lib.hid hb3
  clear ho hg hb3 hrd
  obtain ⟨f, hf⟩ : ∃ f, secF l day i = f := ⟨_, rfl⟩
  rw [hf] at HH
  have HFF := Lib.hid hf
  have HST := Lib.hid (fun k (hk : k < N) => hf ▸ HBR.out.step day i (k := k) (by rw [HLN.out]; exact hk))
  clear hf
  go_wp2_with fail
  go_loopw [10, 11] (fun u x wr => ∃ k : Nat, k ≤ N ∧ x = .int .i64 k ∧ DayR f L w3 k u wr) (fun _ x _ => N - (intOf x).toNat)
  case atStart => exact ⟨0, Nat.zero_le _, rfl, [], 0, rfl, Nat.le_refl _, World.ownsRow_nil _ _ _ _, Below.refl _ _, by rw [show stp L 0 = 0 by unfold stp; rw [if_pos HBR.out.pos, HBR.out.zero]]; exact UpD.start⟩
  case round =>
    obtain ⟨k, hk, rfl, o, z, hoz, hzk, hown, hbw, hup⟩ := hrel
    obtain ⟨w4, hw4⟩ : ∃ w4, w4 = wr := ⟨_, rfl⟩
    subst hw4
    have HOZ := Lib.hid hoz
    have HOW := Lib.hid hown
    have HBW := Lib.hid hbw
    have HUP := Lib.hid hup
    have hz9 : (z : Int) ≤ 86400 := by omega
    have HZK := Lib.hid hzk
    obtain ⟨AO, cO, hu, o1, o2, _, o4⟩ := ownsK_form hown
    subst hu
    have HOR := Lib.hid (And.intro o1 (And.intro o2 o4))
    clear hoz hzk hown hbw hup o1 o2 o4
    by_cases hkt : (k : Int) + 1 < M
    · have hkN1 : k + 1 ≤ N := by omega
      have hkn : k < N := by omega
      have hk0 : (0 : Int) ≤ k := by omega
      have hkM : (k : Int) < M := by omega
      obtain ⟨k1, hk1⟩ : ∃ k1, k + 1 = k1 := ⟨_, rfl⟩
      have hk2 : (0 : Int) ≤ k1 := by omega
      have hk3 : (k1 : Int) < M := by omega
      have hk4 : IntKind.i64.wrap ((k : Int) + 1) = k1 := by rw [← hk1]; exact IntWalk.i64_in _ (by omega)
      obtain ⟨ad, hAL, hc⟩ := HRD.out (by rw [natL, List.length_map, List.length_append]; simp)
      have hc1 := hc k _ (stp_get (L := L) (by rw [HLN.out]; omega))
      have hc2 := hc (k + 1) _ (stp_get (L := L) (by rw [HLN.out]; omega))
      obtain ⟨q, hq⟩ : ∃ q, stp L k = q := ⟨_, rfl⟩
      obtain ⟨r, hr⟩ : ∃ r, stp L (k + 1) = r := ⟨_, rfl⟩
      have hst := HST.out k hkn
      rw [hq] at hc1 HUP
      rw [hr] at hc2
      rw [hq, hr] at hst
      obtain ⟨qi, hqi⟩ : ∃ x : Int, (q : Int) = x := ⟨_, rfl⟩
      obtain ⟨ri, hri⟩ : ∃ x : Int, (r : Int) = x := ⟨_, rfl⟩
      rw [hqi] at hc1
      rw [hri, hk1] at hc2
      have HHX := Lib.hid (show ∀ W, Below w.heap.size w W → Calls Tryz.prog 22 #[.slice A n c, .int .i64 i, .int .i64 day, .int .i64 qi] W fun e w' => e = .returned (.bool (f q)) ∧ Below W.heap.size W w' from fun W hW => by
        have := HH.out W hW q
        rw [hqi] at this
        exact this)
      have HC1 := Lib.hid (fun W (hW : Below w3.heap.size w3 W) => cell_below hc1 hW)
      have HC2 := Lib.hid (fun W (hW : Below w3.heap.size w3 W) => cell_below hc2 hW)
      have HSTQ := Lib.hid hst
      have HRR := Lib.hid hr
      have HQI := Lib.hid hqi
      have HRI := Lib.hid hri
      have HBA := Lib.hid (HB3.out.trans (HBW.out.mono HB3.out.size))
      have y1 := HC1.out _ HBW.out
      obtain ⟨hv, hhv⟩ : ∃ y, f q = y := ⟨_, rfl⟩
      rw [hhv] at HHX
      have HV := Lib.hid hhv
      subst hAL
      have HKK := Lib.hid hk1
      have HK1 := Lib.hid (show k1 ≤ N by omega)
      have HKS := Lib.hid (show k < k1 by omega)
      clear hc hc1 hc2 hq hr hst hqi hri hhv hkn hk1 hkN1
      cases hv with
      | false =>
        have HN1 := Lib.hid (show UpD f o (stp L (k + 1)) by rw [HRR.out]; exact HUP.out.no HSTQ.out.1 HSTQ.out.2.2 HV.out)
        go_wp2_with fail
        refine (HHX.out _ HBA.out).mono ?_
        rintro e w5 ⟨rfl, hb5⟩
        have HF := Lib.hid (show DayR f L w3 k1 (.slice AO z cO) w5 from HKK.out ▸ ⟨o, z, HOZ.out, Nat.le_succ_of_le HZK.out, owns_below7 HOW.out hb5, HBW.out.trans (hb5.mono HBW.out.size), HN1.out⟩)
        clear hb5
        go_wp2_with fail
        go_roundw
        case rel => exact ⟨k1, HK1.out, by go_num, HF.out⟩
        case measure => simp [intOf]; have := HK1.out; have := HKS.out; omega
      | true =>
        go_wp2_with fail
        refine (HHX.out _ HBA.out).mono ?_
        rintro e w5 ⟨rfl, hb5⟩
        have HB5 := Lib.hid (HBW.out.trans (hb5.mono HBW.out.size))
        have HOW5 := Lib.hid (owns_below7 HOW.out hb5)
        have HSS := Lib.hid (show ∀ W, Below w3.heap.size w3 W → W.cell? (ad.add k) = some (.int .i64 qi) ∧ W.cell? (ad.add k1) = some (.int .i64 ri) from fun W hW => ⟨HC1.out W hW, HC2.out W hW⟩)
        clear hb5 y1
        rcases Nat.eq_zero_or_pos z with hz | hz
        · have d1 : decide (0 < z) = false := decide_eq_false (by omega)
          have d2 : decide ((0 : Int) < z) = false := decide_eq_false (by omega)
          have HNEW := Lib.hid (show UpD f (o ++ [⟨qi, ri⟩]) (stp L (k + 1)) by
            rw [HRR.out, ← HQI.out, ← HRI.out]
            have e : o = [] := List.eq_nil_of_length_eq_zero (by rw [HOZ.out]; exact hz)
            exact HUP.out.one HSTQ.out.1 HSTQ.out.2.1 HSTQ.out.2.2 HV.out (by rw [e]; show (-1 : Int) < q; omega))
          clear hz
          go_wp2_with fail
          go_quiet (fail)
          obtain ⟨w7, hw7⟩ : ∃ w7, w5.drewN nq = w7 := ⟨_, rfl⟩
          have HB7 := Lib.hid (HB5.out.trans ((below_drewN w5 nq).mono HB5.out.size))
          have HOW7 := Lib.hid (owns_drewN HOW5.out nq)
          rw [hw7] at HB7 HOW7 ⊢
          clear hw7
          have hb7 := HB7.out.drew
          go_wp2_with fail
          go_region_held3 (fun W => W.cell? (ad.add k) = some (.int .i64 qi) ∧ W.cell? (ad.add k1) = some (.int .i64 ri))
            (first
              | exact HSS.out _ hb7
              | exact HSS.out _ (HB7.out.alloc HB7.out.size _).drew
              | exact HSS.out _ hbN
              | exact HSS.out _ (by assumption)
              | exact HSS.out _ (Below.alloc (by assumption) (by have := HB7.out.size; simpa using this) _))
            (first
              | (refine step_appK (by rfl) (.tmp 79) (.tmp 90) _ (by rfl) elSR w3.heap.size (.slice AO z cO) z (o.flatMap spC) (by rfl) (by exact owns_drew7 (HOW7.out.alloc _)) (some ⟨_, 0, none⟩) 1 1 (spC ⟨qi, ri⟩) (by rfl) rfl (Rd.block (heap_alloc_new _ _)) (by intro u hu; simp only [spC, List.mem_cons, List.not_mem_nil, or_false] at hu; rcases hu with rfl | rfl <;> rfl) (by unfold maxLen; omega) (by omega) (by exact (HB7.out.alloc HB7.out.size _).drew.size) ?_
                 intro vN wN hoN hgN _
                 have hbN : Below w3.heap.size w3 wN := (HB7.out.alloc HB7.out.size _).drew.grown hgN (by exact (HB7.out.alloc HB7.out.size _).drew.size) (fun k hk => (HOW7.out.lt k hk).1)))
          have HF := Lib.hid (show DayR f L w3 k1 vN wN from HKK.out ▸ ⟨o ++ [⟨qi, ri⟩], z + 1, by rw [List.length_append, HOZ.out]; rfl, Nat.succ_le_succ HZK.out, by rw [flat_snoc]; exact hoN, hbN, HNEW.out⟩)
          clear hoN hgN hbN
          go_wp2_with fail
          go_roundw
          case rel => exact ⟨k1, HK1.out, by go_num, HF.out⟩
          case measure => simp [intOf]; have := HK1.out; have := HKS.out; omega
        · obtain ⟨m, hm⟩ : ∃ m, m + 1 = z := ⟨z - 1, by omega⟩
          obtain ⟨ro, x, ho, hrl⟩ := snoc_ex (HOZ.out.trans hm.symm)
          obtain ⟨g, cap, hvv, hg1, hg2⟩ := HOW5.out.form hz
          injection hvv with e1 _ e3
          subst e1 e3
          obtain ⟨a0, tt⟩ := x
          have hm0 : (0 : Int) ≤ m := by omega
          have hm1 : (m : Int) < z := by omega
          have hm2 : IntKind.i64.wrap ((z : Int) - 1) = m := (IntWalk.i64_in _ (by omega)).trans (by omega)
          have d1 : decide (0 < z) = true := decide_eq_true hz
          have d2 : decide ((0 : Int) < z) = true := decide_eq_true (by omega)
          have HMZ := Lib.hid hm
          have HRL := Lib.hid hrl
          have hcell := HOW5.out.cellAt (m * 2 + 1) (by omega)
          rw [ho, flat_to hrl a0 tt] at hcell
          have HO := Lib.hid ho
          obtain ⟨ao, hao⟩ : ∃ ao : Addr, (⟨g, 0, none⟩ : Addr) = ao := ⟨_, rfl⟩
          obtain ⟨X, hX⟩ : ∃ X, ao.add (m * 2) = X := ⟨_, rfl⟩
          have hXe : X = ⟨g, m * 2, none⟩ := by rw [← hX, ← hao]; simp [Addr.add]; omega
          have y1 : w5.cell? { block := X.block, off := X.off + 1 } = some (.int .i64 tt) := by rw [hXe]; exact hcell
          have y2 : w5.frozen? { block := X.block, off := X.off + 1 } = false := by rw [hXe]; exact HOW5.out.frozenAt (m * 2 + 1)
          have y3 := (HSS.out _ HB5.out).1
          have y4 := (HSS.out _ HB5.out).2
          have HXE := Lib.hid hXe
          have HAO := Lib.hid hao
          have HG1 := Lib.hid hg1
          rw [hao]
          clear hcell ho hrl hm hXe hao hg1 hg2 hz
          by_cases hE : tt = qi
          · have d3 : decide (tt = qi) = true := decide_eq_true hE
            have HNEW := Lib.hid (show UpD f (ro ++ [⟨a0, ri⟩]) (stp L (k + 1)) by
              rw [HRR.out, ← HRI.out]
              have := HUP.out
              rw [HO.out, hE, ← HQI.out] at this
              exact this.more HSTQ.out.1 HSTQ.out.2.1 HSTQ.out.2.2 HV.out)
            go_wp2_with fail
            go_quiet (fail)
            obtain ⟨w7, hw7⟩ : ∃ w7, w5.drewN nq = w7 := ⟨_, rfl⟩
            have HB7 := Lib.hid (HB5.out.trans ((below_drewN w5 nq).mono HB5.out.size))
            have HOW7 := Lib.hid (owns_drewN HOW5.out nq)
            have z1 : w7.cell? { block := X.block, off := X.off + 1 } = some (.int .i64 tt) := by rw [← hw7]; exact y1
            have z2 : w7.frozen? { block := X.block, off := X.off + 1 } = false := by rw [← hw7]; exact y2
            rw [hw7] at HB7 HOW7 ⊢
            have z4 := (HSS.out _ HB7.out).2
            have hso := (HOW7.out.stored (m * 2 + 1) (.int .i64 ri)).1
            rw [HO.out, flat_set HRL.out, HAO.out] at hso
            have hsb := HB7.out.setCell (p := ⟨g, m * 2 + 1, none⟩) HG1.out (.int .i64 ri)
            have hpe : ({ block := X.block, off := X.off + 1 } : Addr) = ⟨g, m * 2 + 1, none⟩ := by rw [HXE.out]
            rw [← hpe] at hso hsb
            obtain ⟨w8, hw8⟩ : ∃ w8, w7.setCell { block := X.block, off := X.off + 1 } (.int .i64 ri) = w8 := ⟨_, rfl⟩
            rw [hw8] at hso hsb
            have HW8 := Lib.hid hw8
            have HF := Lib.hid (show DayR f L w3 k1 (.slice (some ao) z cO) w8 from HKK.out ▸ ⟨ro ++ [⟨a0, ri⟩], z, by rw [List.length_append, HRL.out, ← HMZ.out]; rfl, Nat.le_succ_of_le HZK.out, hso, hsb, HNEW.out⟩)
            clear hw7 hso hsb hpe hw8 y1 y2 y3 y4
            go_wp2_with fail
            rw [HW8.out]
            go_roundw
            case rel => exact ⟨k1, HK1.out, by go_num, HF.out⟩
            case measure => simp [intOf]; have := HK1.out; have := HKS.out; omega
          · have d3 : decide (tt = qi) = false := decide_eq_false hE
            have HNEW := Lib.hid (show UpD f (o ++ [⟨qi, ri⟩]) (stp L (k + 1)) by
              rw [HRR.out, ← HQI.out, ← HRI.out]
              have h1 := HUP.out.last
              have h2 : lastT (-1) o = tt := by rw [HO.out, lastT_snoc]
              exact HUP.out.one HSTQ.out.1 HSTQ.out.2.1 HSTQ.out.2.2 HV.out (by have := HQI.out; omega))
            go_wp2_with fail
            go_quiet (fail)
            obtain ⟨w7, hw7⟩ : ∃ w7, w5.drewN nq = w7 := ⟨_, rfl⟩
            have HB7 := Lib.hid (HB5.out.trans ((below_drewN w5 nq).mono HB5.out.size))
            have HOW7 := Lib.hid (owns_drewN HOW5.out nq)
            rw [hw7] at HB7 HOW7 ⊢
            rw [HAO.out] at HOW7
            clear hw7 y1 y2 y3 y4
            have hb7 := HB7.out.drew
            go_wp2_with fail
            go_region_held3 (fun W => W.cell? (ad.add k) = some (.int .i64 qi) ∧ W.cell? (ad.add k1) = some (.int .i64 ri))
              (first
                | exact HSS.out _ hb7
                | exact HSS.out _ (HB7.out.alloc HB7.out.size _).drew
                | exact HSS.out _ hbN
                | exact HSS.out _ (by assumption)
                | exact HSS.out _ (Below.alloc (by assumption) (by have := HB7.out.size; simpa using this) _))
              (first
                | (refine step_appK (by rfl) (.tmp 79) (.tmp 90) _ (by rfl) elSR w3.heap.size (.slice (some ao) z cO) z (o.flatMap spC) (by rfl) (by exact owns_drew7 (HOW7.out.alloc _)) (some ⟨_, 0, none⟩) 1 1 (spC ⟨qi, ri⟩) (by rfl) rfl (Rd.block (heap_alloc_new _ _)) (by intro u hu; simp only [spC, List.mem_cons, List.not_mem_nil, or_false] at hu; rcases hu with rfl | rfl <;> rfl) (by unfold maxLen; omega) (by omega) (by exact (HB7.out.alloc HB7.out.size _).drew.size) ?_
                   intro vN wN hoN hgN _
                   have hbN : Below w3.heap.size w3 wN := (HB7.out.alloc HB7.out.size _).drew.grown hgN (by exact (HB7.out.alloc HB7.out.size _).drew.size) (fun k hk => (HOW7.out.lt k hk).1)))
            have HF := Lib.hid (show DayR f L w3 k1 vN wN from HKK.out ▸ ⟨o ++ [⟨qi, ri⟩], z + 1, by rw [List.length_append, HOZ.out]; rfl, Nat.succ_le_succ HZK.out, by rw [flat_snoc]; exact hoN, hbN, HNEW.out⟩)
            clear hoN hgN hbN
            go_wp2_with fail
            go_roundw
            case rel => exact ⟨k1, HK1.out, by go_num, HF.out⟩
            case measure => simp [intOf]; have := HK1.out; have := HKS.out; omega
    · have HF := Lib.hid (show Can (-1) o ∧ ∀ j, j < 86400 → f j = o.any fun s => inS s j from UpD.end_ (by have := HUP.out; rw [show stp L k = 86400 by unfold stp; rw [if_neg (by rw [HLN.out]; omega)]] at this; exact this))
      go_wp2_with fail
      go_ret2
      exact ⟨_, o, rfl, HSp.of_rd HOZ.out HOR.out.1 HOR.out.2.1 HOR.out.2.2, HF.out.1, by rw [HFF.out]; exact HF.out.2, HB3.out.trans (HBW.out.mono HB3.out.size)⟩
end Go.Proofs.YtlogapkpllgdcaaGreatDoor

/- Law GroupAlone, walked. -/
import Derived.Test.YtkfnbapnkmlopaaDoorGpAl
namespace Go.Proofs.YtkfnbapnkmlopaaDoor
open Go.RowKit

/-- The bit j of z. -/
def btI (z : Int) (j : Nat) : Bool := bits BinOp.and IntKind.i64 (z / 2 ^ j) 1 == 1
theorem u64_geA (k : Int) : 0 ≤ IntKind.u64.wrap k := by
  simp only [IntKind.wrap, IntKind.bits, IntKind.signed]
  simp
  omega
theorem smG_A (f : Nat → Nat → Bool) (k c : Nat) : SmG (aG f k c) (aX k) := by
  have h2 : ∀ i, SmN (gn1 i) := fun i => smN_of (show 2 ≤ 100 by decide)
  have h1 : ∀ i, SmN (nm1 i) := fun i => smN_of (show 1 ≤ 100 by decide)
  refine ⟨fun a ha => ?_, fun b hb => ?_⟩
  · rcases List.mem_append.1 (show a ∈ aZ f k c ++ _ from ha) with ha | ha
    · unfold aZ at ha
      obtain ⟨i, _, rfl⟩ := List.mem_map.1 ha
      refine ⟨h2 i, fun s hs => ?_, fun s hs => absurd hs List.not_mem_nil⟩
      obtain ⟨j, _, _, e⟩ := gm1_mem.1 hs
      rw [e]
      exact h1 j
    · rw [List.mem_singleton.1 ha]
      refine ⟨smN_of (show 3 ≤ 100 by decide), fun s hs => absurd hs List.not_mem_nil, fun s hs => ?_⟩
      obtain ⟨j, _, rfl⟩ := List.mem_map.1 (show s ∈ (List.range c).map gn1 from hs)
      exact h2 j
  · unfold aX at hb
    obtain ⟨i, _, rfl⟩ := List.mem_map.1 hb
    exact ⟨h1 i, fun s hs => absurd hs List.not_mem_nil⟩
set_option maxHeartbeats 16000000 in
set_option maxRecDepth 100000 in
theorem alone_walk (hP : PgX) (A : Option Addr) (cc : Nat) (M : List Int) (n : Int) (w : World) (hT : Tz w) (hv : Rd w A (M.map fun z => .int .i64 z)) (hc1 : M.length ≤ cc) (hc2 : cc ≤ maxLen) (hz : ∀ z ∈ M, -9223372036854775808 ≤ z ∧ z ≤ 9223372036854775807) (_ : -9223372036854775808 ≤ n ∧ n ≤ 9223372036854775807) :
    Calls Tryd.prog 6 #[.slice A M.length cc, .int .i64 n] w fun e w' => e = .returned (.bool true) ∧ Below w.heap.size w w' := by
  obtain ⟨r, hr⟩ : ∃ r : Nat, IntKind.u64.wrap n % 8 = (r : Int) := ⟨(IntKind.u64.wrap n % 8).toNat, by have := Int.emod_nonneg (IntKind.u64.wrap n) (show (8 : Int) ≠ 0 by decide); omega⟩
  have hr8 : (r : Int) < 8 := by rw [← hr]; exact Int.emod_lt_of_pos _ (by decide)
  have t1 : (IntKind.u64.wrap n).tmod 8 = (r : Int) := by rw [Int.tmod_eq_emod_of_nonneg (u64_geA n), hr]
  obtain ⟨k, hk⟩ : ∃ j : Nat, (1 : Int) + r = j := ⟨1 + r, by omega⟩
  have hk0 : (1 : Int) ≤ k := by omega
  have hk1 : (k : Int) ≤ 8 := by omega
  have r0 : (0 : Int) ≤ r := by omega
  obtain ⟨ml, hml⟩ : ∃ y, M.length = y := ⟨_, rfl⟩
  rw [hml]
  have hm9 : ml ≤ 9223372036854775807 := by
    unfold maxLen at hc2
    omega
  have HSu := Lib.hid (fun W (hb : Below w.heap.size w W) => sure_any13 hP W (hT.below hb))
  have HM := Lib.hid (And.intro hv (And.intro hz hml))
  have HP := Lib.hid hP
  have HT := Lib.hid hT
  clear hP hT hr hv hz hml hc1 hc2
  go_enter Tryd.func6, Tryd.ntmps6
  go_wp2_with fail
  go_loopw [7, 8] (fun ov iv wr => ∃ (i : Nat) (o : Value) (Y : List (Itm × Value)), o = ov ∧ iv = .int .i64 i ∧ i ≤ k ∧ Y.map (·.1) = aX i ∧ Below w.heap.size w wr ∧ XsO wr w.heap.size o Y) (fun _ iv _ => k - (intOf iv).toNat)
  case atStart => exact ⟨0, _, [], rfl, rfl, Nat.zero_le _, rfl, Below.refl _ _, XsO.nil⟩
  case round =>
    obtain ⟨i, o, Y, rfl, rfl, hi, hY, hb, hown⟩ := hrel
    have hYl : Y.length = i := by rw [← List.length_map (f := (·.1)), hY, aX_len]
    by_cases hik : i < k
    · have q0 : (0 : Int) ≤ i := by omega
      have q1 : (i : Int) < k := by omega
      have q2 : (i : Int) ≤ (i : Int) + 1 := by omega
      have q3 : (i : Int) + 1 ≤ 8 := by omega
      have hx := nm1_str i (by omega)
      obtain ⟨S, hS⟩ : ∃ S, str (nm1 i) = S := ⟨_, rfl⟩
      rw [hS] at hx
      have hsz := hb.size
      have HS := Lib.hid hS
      have HK := Lib.hid (And.intro hb (And.intro hown (And.intro hY hYl)))
      clear hb hown hY hYl hS
      go_wp2_with
        (at_builtin
         refine wpList_appG rfl (.tmp 33) (.tmp 40) 27 rfl Tryd.underlying27 infoX rfl (by omega) w.heap.size o i (Y.flatMap itC) rfl (own_sameO (HK.out.2.1.own_k HK.out.2.2.2) ((Below.refl wr.heap.size wr).alloc (Nat.le_refl _) _)) (some ⟨wr.heap.size, 0, none⟩) 1 1 [.string S, .slice none 0 0] rfl rfl (Rd.block (MapKept.heap_alloc wr (.cells #[.string S, .slice none 0 0] 47)).1) (one_x13 S _ _ _) (by unfold maxLen; omega) (by omega) (by rw [World.size_alloc]; omega) ?_
         intro v' w'' ho hg hob
         have HN2 := Lib.hid (And.intro ho hg)
         clear ho hg hob)
      have hal1 := ((Below.refl wr.heap.size wr).alloc (Nat.le_refl _) (.cells #[.string S, .slice none 0 0] 47))
      have hal := HK.out.1.trans (hal1.mono HK.out.1.size)
      refine ⟨⟨i + 1, v', Y ++ [((nm1 i, []), .slice none 0 0)], rfl, by go_num, hik, ?_, Below.grown hal HN2.out.2 hal.size (fun b hb => ((HK.out.2.1.own_k HK.out.2.2.2).lt b hb).1), ?_⟩, by simp [intOf]; omega⟩
      · rw [List.map_append, HK.out.2.2.1, aX_succ]
        rfl
      · exact (HK.out.2.1.below hal1).push (HeS.nil _ _) (by rw [HK.out.2.2.2]; unfold itC; dsimp only; rw [HS.out]; exact HN2.out.1) HN2.out.2
    · obtain rfl : k = i := by omega
      have q1 : ¬ (k : Int) < k := by omega
      have hRX := hown.rowX
      rw [hY] at hRX
      have HX := Lib.hid (And.intro hb hRX)
      obtain ⟨w0, rfl⟩ : ∃ y, y = wr := ⟨_, rfl⟩
      have hmk := mkB13_run k (by omega) w0
      have hbm := bolB_make k w0
      obtain ⟨w1, hw1⟩ : ∃ y, w0.alloc (.cells ((List.replicate k false).map Value.bool).toArray 4) = y := ⟨_, rfl⟩
      have hal : Below w0.heap.size w0 w1 := by rw [← hw1]; exact (Below.refl _ _).alloc (Nat.le_refl _) _
      rw [hw1] at hmk hbm
      have HX := Lib.hid (And.intro hb hRX)
      clear hb hRX hown hY hYl hw1
      go_wp2_with fail
      obtain ⟨b, hbe⟩ : ∃ y, w0.heap.size = y := ⟨_, rfl⟩
      rw [hbe] at hbm ⊢
      have HB0 := Lib.hid (And.intro hal (And.intro hbm hbe))
      clear hmk hbm hal hbe
      obtain ⟨c, hc⟩ : ∃ y, min ml 8 = y := ⟨_, rfl⟩
      have hcm : c ≤ ml := by omega
      have hc8 : c ≤ 8 := by omega
      have hcc : ∀ i, i < c ↔ i < ml ∧ i < 8 := fun i => by omega
      have HCC := Lib.hid hcc
      clear hc hcc
      obtain ⟨f, hf⟩ : ∃ f : Nat → Nat → Bool, (fun i j => btI (M.getD i 0) j) = f := ⟨_, rfl⟩
      have HF := Lib.hid hf
      clear hf
      go_loopw [9, 10, 12] (fun gv av iv wr => ∃ (i : Nat) (og oa : Value) (Z : List (Grp × Value × Value)) (F : List Bool), og = gv ∧ oa = av ∧ iv = .int .i64 i ∧ i ≤ c ∧ Z.map (·.1) = aZ f k i ∧ Below w0.heap.size w0 wr ∧ GsO wr w0.heap.size og Z ∧ StO wr w0.heap.size oa ((List.range i).map gn1) ∧ ApO oa Z ∧ BolB b F wr ∧ BF f k i 0 F) (fun _ _ iv _ => ml - (intOf iv).toNat)
      case atStart => exact ⟨0, _, _, [], _, rfl, rfl, rfl, Nat.zero_le _, rfl, HB0.out.1, GsO.nil, World.ownsRow_nil _ _ _ _, ApO.nil _, HB0.out.2.1, BF.init f k⟩
      case round =>
        obtain ⟨i, og, oa, Z, F, rfl, rfl, rfl, hi, hZ, hb, hgs, hst, hap, hbo, hbf⟩ := hrel
        have hZl : Z.length = i := by rw [← List.length_map (f := (·.1)), hZ, aZ_len]
        by_cases hic : i < c
        · obtain ⟨h1, h2⟩ := (HCC.out i).1 hic
          have q0 : (0 : Int) ≤ i := by omega
          have q1 : (i : Int) < ml := by omega
          have q2 : (i : Int) < 8 := by omega
          have HK := Lib.hid (And.intro hb (And.intro hgs (And.intro hst (And.intro hap (And.intro hZ hZl)))))
          have HBo := Lib.hid (And.intro hbo hbf)
          obtain ⟨z, hz⟩ : ∃ z, M[i]? = some z := ⟨_, List.getElem?_eq_getElem (by rw [HM.out.2.2]; omega)⟩
          have hzb := HM.out.2.1 z (List.mem_of_getElem? hz)
          have hzd : M.getD i 0 = z := by rw [List.getD_eq_getElem?_getD, hz]; rfl
          have hfi : ∀ j, f i j = btI z j := fun j => by rw [← HF.out]; dsimp only; rw [hzd]
          obtain ⟨adm, hA, hcm'⟩ := HM.out.1 (by rw [List.length_map, HM.out.2.2]; omega)
          have hzc := hcm' i (.int .i64 z) (by rw [List.getElem?_map, hz]; rfl)
          have HZ := Lib.hid (fun W (h : Below w.heap.size w W) => cell9_below hzc h)
          have HFi := Lib.hid hfi
          subst hA
          obtain ⟨wB, rfl⟩ : ∃ y, y = wr := ⟨_, rfl⟩
          clear hb hgs hst hap hZ hZl hbo hbf hz hzd hfi hcm' hzc h1 h2
          go_wp2_with fail
          go_loopw [13, 14] (fun ov iv wr => ∃ (j : Nat) (om : Value) (F : List Bool), om = ov ∧ iv = .int .i64 j ∧ j ≤ k ∧ Below w0.heap.size w0 wr ∧ BxA b wB wr ∧ BolB b F wr ∧ BF f k i j F ∧ StO wr wB.heap.size om (gm1 (f i) j)) (fun _ iv _ => k - (intOf iv).toNat)
          case atStart => exact ⟨0, _, F, rfl, rfl, Nat.zero_le _, HK.out.1, BxA.refl _ _, HBo.out.1, HBo.out.2, World.ownsRow_nil _ _ _ _⟩
          case round =>
            obtain ⟨j, om, F3, rfl, rfl, hj, hb3, hx3, hbo3, hbf3, hst3⟩ := hrel
            have hzc := HZ.out wr (HX.out.1.trans (hb3.mono HX.out.1.size))
            by_cases hjk : j < k
            · have e0 : (0 : Int) ≤ j := by omega
              have e1 : (j : Int) < k := by omega
              have HK3 := Lib.hid (And.intro hb3 (And.intro hx3 (And.intro hbo3 (And.intro hbf3 hst3))))
              have hsz3 := hb3.size
              obtain ⟨T, hT⟩ : ∃ y, btI z j = y := ⟨_, rfl⟩
              have hfT : f i j = T := by rw [HFi.out, hT]
              unfold btI at hT
              have HT := Lib.hid hfT
              have hszB := hx3.size
              clear hb3 hx3 hbo3 hbf3 hst3 hfT
              cases T with
              | false =>
                go_wp2_with fail
                refine ⟨⟨j + 1, om, F3, rfl, by go_num, hjk, HK3.out.1, HK3.out.2.1, HK3.out.2.2.1, HK3.out.2.2.2.1.no HT.out, ?_⟩, by simp [intOf]; omega⟩
                rw [gm1_succ, if_neg (by rw [HT.out]; decide), List.append_nil]
                exact HK3.out.2.2.2.2
              | true =>
                have hx := nm1_str j (by omega)
                obtain ⟨S, hS⟩ : ∃ S, str (nm1 j) = S := ⟨_, rfl⟩
                rw [hS] at hx
                have HS := Lib.hid hS
                have g0 : (j : Int) ≤ (j : Int) + 1 := by omega
                have g1 : (j : Int) + 1 ≤ 8 := by omega
                have hwr : IntKind.i64.wrap ((j : Int) + 1) = (j : Int) + 1 := by
                  simp only [IntKind.wrap, IntKind.bits, IntKind.signed]
                  simp
                  omega
                have hgl := gm1_len (f i) j
                obtain ⟨gl, hgle⟩ : ∃ y, (gm1 (f i) j).length = y := ⟨_, rfl⟩
                have HGl := Lib.hid hgle
                rw [hgle] at hgl
                have HO := Lib.hid (HK3.out.2.2.2.2.own_n hgle)
                clear hS hgle
                go_wp2_with fail
                go_region_held3 (fun _ => True) (exact trivial) (first
                  | (refine step_appK (by rfl) (.tmp 67) (.tmp 78) _ (by rfl) Tryd.underlying43 infoS13 rfl (by omega) wB.heap.size om gl ((gm1 (f i) j).map txC) (by rfl) (by first | exact HO.out.drew.alloc _ | exact (HO.out.alloc _).drew | exact HO.out.alloc _) (some ⟨wr.heap.size, 0, none⟩) 2 2 [.string S, .string S] (by rfl) rfl
                       (by first | exact rd_twoS13 _ _ _ | exact rd_twoS13 wr _ _) (one_s13 _ _) (by unfold maxLen; omega) (by omega) (by simp; omega) ?_
                     intro vE wE hoE hgE haE
                     have hbE : Below w0.heap.size w0 wE := ((HK3.out.1.alloc HK3.out.1.size (.cells #[.string S, .string S] 9)).trans (below_dq _ 1)).grown hgE (by have := HK3.out.1.size; simp; omega) (fun g hg => Nat.le_trans HK.out.1.size (HO.out.lt g hg).1)
                     have hal : Below wr.heap.size wr ((wr.alloc (.cells #[.string S, .string S] 9)).drewN 1) := (below_alO (Below.refl _ _) _).trans (below_dq _ 1)
                     have hxE : BxA b wB wE := (HK3.out.2.1.below hal).grown hgE (fun g hg => (HO.out.lt g hg).1)
                     have hboE : BolB b F3 wE := HK3.out.2.2.1.grown13 hal hgE HO.out
                     have HEE := Lib.hid (And.intro hoE (And.intro hbE (And.intro hxE hboE)))
                     clear hoE hgE haE hbE hal hxE hboE))
                all_goals
                  have hld := HEE.out.2.2.2.load (HK3.out.2.2.2.1.2 j hjk)
                  have hfz := HEE.out.2.2.2.frz j
                  go_wp2_with fail
                  refine ⟨⟨j + 1, vE, F3.set j true, rfl, by go_num, hjk, HEE.out.2.1.setCell (Nat.le_of_eq HB0.out.2.2) _, HEE.out.2.2.1.set, HEE.out.2.2.2.set j true, HK3.out.2.2.2.1.yes hjk HT.out, ?_⟩, by simp [intOf]; omega⟩
                  refine StO.of (own_bx HEE.out.1 HEE.out.2.2.2 (BxA.refl b wE).set (by decide)) ?_ ?_
                  · rw [gm1_succ, if_pos HT.out, List.length_append, HGl.out]
                    rfl
                  · rw [gm1_succ, if_pos HT.out, List.map_append, ← HS.out]
                    rfl
            · obtain rfl : k = j := by omega
              have e1 : ¬ (k : Int) < k := by omega
              have hgs3 := HK.out.2.1.bx HBo.out.1 (Nat.le_of_eq HB0.out.2.2) hx3
              have hsa3 := HK.out.2.2.1.bx HBo.out.1 hx3
              obtain ⟨Am, cm, em⟩ := hst3.form
              obtain ⟨lm, hlm⟩ : ∃ y, (gm1 (f i) k).length = y := ⟨_, rfl⟩
              rw [hlm] at em
              subst em
              have hap3 : ∀ q n c, Value.slice Am lm cm = .slice (some q) n c → gm1 (f i) k ≠ [] → oa.ownBlock ≠ some q.block := fun q n c e hL e' => by
                have h1 := (HK.out.2.2.1.lt _ e').2
                rcases hst3.2 with ⟨e2, _⟩ | ⟨g, cap, cur, e2, hbg, _⟩
                · rw [e] at e2
                  injection e2 with e2
                  cases e2
                · rw [e] at e2
                  injection e2 with e2
                  injection e2 with e2
                  subst e2
                  exact absurd h1 (by show ¬ g < _; omega)
              have hx := nm1_str i (by omega)
              have hgx := gn1_str i (by omega)
              obtain ⟨S, hS⟩ : ∃ S, str (nm1 i) = S := ⟨_, rfl⟩
              obtain ⟨G, hG⟩ : ∃ S, str (gn1 i) = S := ⟨_, rfl⟩
              rw [hS] at hx hgx
              rw [hG] at hgx
              have q3 : (i : Int) ≤ (i : Int) + 1 := by omega
              have q4 : (i : Int) + 1 ≤ 8 := by omega
              have hsz3 := hb3.size
              have HG := Lib.hid hG
              have HK3 := Lib.hid (And.intro hb3 (And.intro hbo3 (And.intro hbf3 hst3)))
              have HA3 := Lib.hid (And.intro hgs3 (And.intro hsa3 hap3))
              have hS1 : S.size = 1 := by rw [← hS, str_size]; rfl
              have HLm := Lib.hid hlm
              clear hb3 hx3 hbo3 hbf3 hst3 hgs3 hsa3 hap3 hG hS hlm
              go_wp2_with
                (at_builtin
                 first
                 | (refine wpList_appG rfl (.tmp 83) (.tmp 92) 26 rfl Tryd.underlying26 infoG rfl (by omega) w0.heap.size og i (Z.flatMap grC) rfl (own_sameO (HA3.out.1.own_k HK.out.2.2.2.2.2) ((Below.refl wr.heap.size wr).alloc (Nat.le_refl _) _)) (some ⟨wr.heap.size, 0, none⟩) 1 1 [.string G, .slice Am lm cm, .slice none 0 0] rfl rfl (rd_oneG13 wr _ _ _ _ _ _ _) (one_g13 _ _ _ _ _ _ _) (by unfold maxLen; omega) (by omega) (by rw [World.size_alloc]; omega) ?_
                    intro v' w4 ho hg hob
                    have hal := (Below.refl wr.heap.size wr).alloc (Nat.le_refl _) (.cells #[.string G, .slice Am lm cm, .slice none 0 0] 45)
                    have hb4 : Below w0.heap.size w0 w4 := Below.grown (HK3.out.1.trans (hal.mono HK3.out.1.size)) hg (HK3.out.1.trans (hal.mono HK3.out.1.size)).size (fun g hg => ((HA3.out.1.own_k HK.out.2.2.2.2.2).lt g hg).1)
                    have hgs4 : GsO w4 w0.heap.size v' (Z ++ [((gn1 i, gm1 (f i) k, []), .slice Am lm cm, .slice none 0 0)]) := GsO.push2 HA3.out.1 HK3.out.2.2.2.he (HeS.nil _ _) (by rw [HK.out.2.2.2.2.2]; unfold grC; dsimp only; rw [HG.out]; exact ho) hg hal
                    have hbo4 : BolB b _ w4 := BolB.grownG HK3.out.2.1 hal hg HA3.out.1.own
                    have hsa4 : StO w4 w0.heap.size oa ((List.range i).map gn1) := sto_grownG HA3.out.2.1 hal hg HA3.out.1.own
                    have hap4 : ApO oa (Z ++ [((gn1 i, gm1 (f i) k, []), .slice Am lm cm, .slice none 0 0)]) := HK.out.2.2.2.1.push HA3.out.2.2 rfl
                    have HN4 := Lib.hid (And.intro hb4 (And.intro hgs4 (And.intro hbo4 (And.intro hsa4 hap4))))
                    have hsz4 := hb4.size
                    clear ho hg hob hal hb4 hgs4 hbo4 hsa4 hap4)
                 | (refine wpList_appG rfl (.tmp 94) (.tmp 101) 43 rfl Tryd.underlying43 infoS13 rfl (by omega) w0.heap.size oa i (((List.range i).map gn1).map txC) rfl (own_sameO (HN4.out.2.2.2.1.own_n (by simp)) ((Below.refl w4.heap.size w4).alloc (Nat.le_refl _) _)) (some ⟨w4.heap.size, 0, none⟩) 1 1 [.string G] rfl rfl (rd_oneS13 w4 G) (one_txs [gn1 i] |> fun h => by rw [← HG.out]; exact h) (by unfold maxLen; omega) (by omega) (by rw [World.size_alloc]; omega) ?_
                    intro va w5 ho hg hob
                    have hal := (Below.refl w4.heap.size w4).alloc (Nat.le_refl _) (.cells #[.string G] 9)
                    have hb4 := HN4.out.1.trans (hal.mono HN4.out.1.size)
                    have hsx : StO (w4.alloc (.cells #[.string G] 9)) w0.heap.size oa ((List.range i).map gn1) := HN4.out.2.2.2.1.below hal
                    have hgx := HN4.out.2.1.below hal
                    have hb5 : Below w0.heap.size w0 w5 := Below.grown hb4 hg hb4.size (fun g hg => (hsx.lt g hg).1)
                    have hgs5 := hgx.grownS HN4.out.2.2.2.2 hsx (Nat.le_refl _) hg
                    have hbo5 := HN4.out.2.2.1.grown13 hal hg HN4.out.2.2.2.1
                    have hsa5 : StO w5 w0.heap.size va ((List.range (i + 1)).map gn1) := StO.of ho (by simp) (by rw [List.range_succ, List.map_append, List.map_append, ← HG.out]; rfl)
                    have hap5 := HN4.out.2.2.2.2.grown hgx hob
                    have HN5 := Lib.hid (And.intro hb5 (And.intro hgs5 (And.intro hbo5 (And.intro hsa5 hap5))))
                    clear ho hg hob hal hb4 hsx hgx hb5 hgs5 hbo5 hsa5 hap5))
              refine ⟨⟨i + 1, v', va, Z ++ [((gn1 i, gm1 (f i) k, []), .slice Am lm cm, .slice none 0 0)], _, rfl, rfl, by go_num, hic, ?_, HN5.out.1, HN5.out.2.1, HN5.out.2.2.2.1, HN5.out.2.2.2.2, HN5.out.2.2.1, HK3.out.2.2.1.round⟩, by simp [intOf]; omega⟩
              rw [List.map_append, HK.out.2.2.2.2.1, aZ_succ]
              rfl
        · obtain rfl : c = i := by omega
          obtain ⟨Aa, ca, ea⟩ := hst.form
          have hsl : ((List.range c).map gn1).length = c := by simp
          rw [hsl] at ea
          subst ea
          have hsz := hb.size
          have HK := Lib.hid (And.intro hb (And.intro hgs (And.intro hst (And.intro hZ hZl))))
          have HBo := Lib.hid (And.intro hbo hbf)
          have hcs : ¬ ((c : Int) < ml ∧ (c : Int) < 8) := fun h => by
            have := (HCC.out c).2 ⟨by omega, by omega⟩
            omega
          have hXw := HX.out.2.below hb
          have HXw := Lib.hid hXw
          clear hb hgs hst hap hZ hZl hbo hbf hsl hXw
          have hj1 : (c : Int) < ml ∧ ¬ (c : Int) < 8 ∨ ¬ (c : Int) < ml := by omega
          clear hcs
          rcases hj1 with ⟨y1, y2⟩ | y1
          all_goals
            go_wp2_with
              (at_builtin
               refine wpList_appG rfl (.tmp 103) (.tmp 106) 26 rfl Tryd.underlying26 infoG rfl (by omega) w0.heap.size og c (Z.flatMap grC) rfl (own_sameO (HK.out.2.1.own_k HK.out.2.2.2.2) ((Below.refl wr.heap.size wr).alloc (Nat.le_refl _) _)) (some ⟨wr.heap.size, 0, none⟩) 1 1 [.string { data := #[97, 108, 108] }, .slice none 0 0, .slice Aa c ca] rfl rfl (rd_oneG13 wr _ _ _ _ _ _ _) (one_g13 _ _ _ _ _ _ _) (by unfold maxLen; omega) (by omega) (by rw [World.size_alloc]; omega) ?_
               intro v' w4 ho hg hob
               obtain ⟨Ag, cg, eg, _⟩ := own_anyk ho
               subst eg
               have hal := (Below.refl wr.heap.size wr).alloc (Nat.le_refl _) (.cells #[.string { data := #[97, 108, 108] }, .slice none 0 0, .slice Aa c ca] 45)
               have hb4 : Below w0.heap.size w0 w4 := Below.grown (HK.out.1.trans (hal.mono HK.out.1.size)) hg (HK.out.1.trans (hal.mono HK.out.1.size)).size (fun g hg => ((HK.out.2.1.own_k HK.out.2.2.2.2).lt g hg).1)
               have hgs4 : GsO w4 w0.heap.size (.slice Ag (c + 1) cg) (Z ++ [(([97, 108, 108], [], (List.range c).map gn1), .slice none 0 0, .slice Aa c ca)]) := GsO.push2 HK.out.2.1 (HeS.nil _ _) HK.out.2.2.1.he (by rw [HK.out.2.2.2.2]; exact ho) hg hal
               have hrg4 := hgs4.rowG
               rw [List.map_append, HK.out.2.2.2.1] at hrg4
               have hbo4 : BolB b _ w4 := BolB.grownG HBo.out.1 hal hg HK.out.2.1.own
               have hxw4 : Below wr.heap.size wr wr := Below.refl _ _
               have HN4 := Lib.hid (And.intro hb4 (And.intro (show RowG w4 (.slice Ag (c + 1) cg) (aG f k c) from hrg4) hbo4))
               clear ho hg hob hal hb4 hgs4 hrg4 hbo4 hxw4)
            have hP2 := HP.out.ex (.slice Ag (c + 1) cg) o (aG f k c) (aX k) w4 (HT.out.below (HX.out.1.trans (HN4.out.1.mono HX.out.1.size))) (smG_A f k c) HN4.out.2.1 (HX.out.2.below HN4.out.1)
            rw [(okA (f := f) (k := k) (c := c) (by omega) hc8).ck] at hP2
            dsimp only at hP2
            rw [if_pos rfl, errE_zero] at hP2
            with_reducible refine hP2.mono ?_
            rintro e w5 ⟨lv, rfl, hrl, hb5⟩
            obtain ⟨Al, cl, hlv, hrl2⟩ := hrl.form
            subst hlv
            rw [exA_len] at hrl2 ⊢
            have hb45 := HN4.out.1.trans (hb5.mono HN4.out.1.size)
            have HB5 := Lib.hid (HX.out.1.trans (hb45.mono HX.out.1.size))
            have HR5 := Lib.hid hrl2
            have HBo5 := Lib.hid (And.intro (HN4.out.2.2.below hb5) HBo.out.2)
            clear hP2 hrl hrl2 hb5 hb45
            go_wp2_with fail
            go_loopw [18] (fun iv wr => ∃ i : Nat, iv = .int .i64 i ∧ i ≤ c ∧ Below w5.heap.size w5 wr) (fun iv _ => c - (intOf iv).toNat)
            case atStart => exact ⟨0, rfl, Nat.zero_le _, Below.refl _ _⟩
            case round =>
              obtain ⟨i, rfl, hi, hb⟩ := hrel
              by_cases hic : i < c
              · have v0 : (0 : Int) ≤ i := by omega
                have v1 : (i : Int) < c := by omega
                have v2 : (i : Int) < ml := by omega
                have v3 : (i : Int) < (c : Int) + 1 := by omega
                obtain ⟨z, hz⟩ : ∃ z, M[i]? = some z := ⟨_, List.getElem?_eq_getElem (by rw [HM.out.2.2]; omega)⟩
                have hzb := HM.out.2.1 z (List.mem_of_getElem? hz)
                have hzd : M.getD i 0 = z := by rw [List.getD_eq_getElem?_getD, hz]; rfl
                have hfi : ∀ j, f i j = btI z j := fun j => by rw [← HF.out]; dsimp only; rw [hzd]
                obtain ⟨adm, hA, hcm'⟩ := HM.out.1 (by rw [List.length_map, HM.out.2.2]; omega)
                have hzc := hcm' i (.int .i64 z) (by rw [List.getElem?_map, hz]; rfl)
                have HZ := Lib.hid (fun W (h : Below w.heap.size w W) => cell9_below hzc h)
                have HFi := Lib.hid hfi
                subst hA
                have HK5 := Lib.hid hb
                clear hb hz hzd hfi hcm' hzc
                go_wp2_with fail
                obtain ⟨wB, rfl⟩ : ∃ y, y = wr := ⟨_, rfl⟩
                go_loopw [19, 20] (fun ov iv wr => ∃ (j : Nat) (om : Value), om = ov ∧ iv = .int .i64 j ∧ j ≤ k ∧ Below wB.heap.size wB wr ∧ NtO wr wB.heap.size om ((List.range j).filter (f i))) (fun _ iv _ => k - (intOf iv).toNat)
                case atStart => exact ⟨0, _, rfl, rfl, Nat.zero_le _, Below.refl _ _, World.ownsRow_nil _ _ _ _⟩
                case round =>
                  obtain ⟨j, om, rfl, rfl, hj, hb3, hst3⟩ := hrel
                  by_cases hjk : j < k
                  · have e0 : (0 : Int) ≤ j := by omega
                    have e1 : (j : Int) < k := by omega
                    have hbw := HK5.out.trans (hb3.mono HK5.out.size)
                    have hzc := HZ.out wr (HB5.out.trans (hbw.mono HB5.out.size))
                    obtain ⟨T, hT⟩ : ∃ y, btI z j = y := ⟨_, rfl⟩
                    have hfT : f i j = T := by rw [HFi.out, hT]
                    unfold btI at hT
                    have HT := Lib.hid hfT
                    have HK3 := Lib.hid (And.intro hb3 hst3)
                    have hsz3 := hb3.size
                    clear hb3 hst3 hfT hbw
                    cases T with
                    | false =>
                      go_wp2_with fail
                      refine ⟨⟨j + 1, om, rfl, by go_num, hjk, HK3.out.1, ?_⟩, by simp [intOf]; omega⟩
                      rw [List.range_succ, List.filter_append, List.filter_cons_of_neg (by rw [HT.out]; decide), List.filter_nil, List.append_nil]
                      exact HK3.out.2
                    | true =>
                      obtain ⟨ll, hll⟩ : ∃ y, ((List.range j).filter (f i)).length = y := ⟨_, rfl⟩
                      have hll8 : ll ≤ 8 := by
                        have h := List.length_filter_le (f i) (List.range j)
                        rw [hll, List.length_range] at h
                        omega
                      have HL := Lib.hid hll
                      clear hll
                      go_wp2_with
                        (at_builtin
                         refine wpList_appG rfl (.tmp 144) (.tmp 146) 48 rfl Tryd.underlying48 infoI13 rfl (by omega) wB.heap.size om ll (((List.range j).filter (f i)).map intC) rfl (own_sameO (HK3.out.2.own_n HL.out) ((Below.refl wr.heap.size wr).alloc (Nat.le_refl _) _)) (some ⟨wr.heap.size, 0, none⟩) 1 1 [.int .i64 (j : Nat)] rfl rfl (Rd.block (MapKept.heap_alloc wr (.cells #[.int .i64 (j : Nat)] 3)).1) (one_int13 j) (by unfold maxLen; omega) (by omega) (by rw [World.size_alloc]; omega) ?_
                         intro v9 w9 ho hg hob
                         have HN9 := Lib.hid (And.intro ho hg)
                         clear ho hg hob)
                      have hal := HK3.out.1.alloc HK3.out.1.size (.cells #[.int .i64 (j : Nat)] 3)
                      refine ⟨⟨j + 1, v9, rfl, by go_num, hjk, Below.grown hal HN9.out.2 hal.size (fun b hb => ((HK3.out.2.own_n HL.out).lt b hb).1), NtO.of HN9.out.1 ?_ ?_⟩, by simp [intOf]; omega⟩
                      · rw [List.range_succ, List.filter_append, List.filter_cons_of_pos HT.out, List.filter_nil, List.length_append, HL.out]
                        rfl
                      · rw [List.range_succ, List.filter_append, List.filter_cons_of_pos HT.out, List.filter_nil, List.map_append]
                        rfl
                  · obtain rfl : k = j := by omega
                    have e1 : ¬ (k : Int) < k := by omega
                    have hbw := HK5.out.trans (hb3.mono HK5.out.size)
                    obtain ⟨adl, li, Ai, ci, hAl, hli, zi, ri⟩ := (HR5.out.below hbw).at9.2.2.2 i (by omega)
                    subst hAl
                    rw [exA_at (by omega) hc8 hic] at hli
                    injection hli with hli
                    rw [← hli] at zi ri
                    obtain ⟨om2, co, eo⟩ := hst3.form
                    have hin := ints13_any _ om _ _ wr ri hst3.rowN
                    rw [decide_eq_true rfl] at hin
                    subst eo
                    have HIn := Lib.hid hin
                    have HK3 := Lib.hid hbw
                    clear hin hbw hst3 hb3 ri hli
                    go_wp2_with fail
                    with_reducible refine HIn.out.mono ?_
                    rintro e w7 ⟨rfl, hb7⟩
                    have HB7 := Lib.hid (HK3.out.trans (hb7.mono HK3.out.size))
                    clear hb7
                    go_wp2_with fail
                    exact ⟨⟨i + 1, by go_num, hic, HB7.out⟩, by simp [intOf]; omega⟩
              · obtain rfl : c = i := by omega
                have v1 : ¬ (c : Int) < c := by omega
                have HK5 := Lib.hid hb
                clear hb
                go_wp2_with fail
                obtain ⟨wB, rfl⟩ : ∃ y, y = wr := ⟨_, rfl⟩
                go_loopw [21, 22] (fun ov iv wr => ∃ (j : Nat) (om : Value), om = ov ∧ iv = .int .i64 j ∧ j ≤ k ∧ Below wB.heap.size wB wr ∧ NtO wr wB.heap.size om ((List.range j).filter fun t => (List.range c).any fun a => f a t)) (fun _ iv _ => k - (intOf iv).toNat)
                case atStart => exact ⟨0, _, rfl, rfl, Nat.zero_le _, Below.refl _ _, World.ownsRow_nil _ _ _ _⟩
                case round =>
                  obtain ⟨j, om, rfl, rfl, hj, hb3, hst3⟩ := hrel
                  by_cases hjk : j < k
                  · have e0 : (0 : Int) ≤ j := by omega
                    have e1 : (j : Int) < k := by omega
                    have hbw := HK5.out.trans (hb3.mono HK5.out.size)
                    have hld := (HBo5.out.1.below hbw).load (HBo5.out.2.2 j hjk)
                    rw [show (decide (j < 0) && f c j) = false by simp, Bool.or_false] at hld
                    obtain ⟨T, hT⟩ : ∃ y, ((List.range c).any fun a => f a j) = y := ⟨_, rfl⟩
                    rw [hT] at hld
                    have HT := Lib.hid hT
                    have HK3 := Lib.hid (And.intro hb3 hst3)
                    have hsz3 := hb3.size
                    clear hb3 hst3 hT hbw
                    cases T with
                    | false =>
                      go_wp2_with fail
                      refine ⟨⟨j + 1, om, rfl, by go_num, hjk, HK3.out.1, ?_⟩, by simp [intOf]; omega⟩
                      rw [List.range_succ, List.filter_append, List.filter_cons_of_neg (by rw [HT.out]; decide), List.filter_nil, List.append_nil]
                      exact HK3.out.2
                    | true =>
                      obtain ⟨ll, hll⟩ : ∃ y, ((List.range j).filter fun t => (List.range c).any fun a => f a t).length = y := ⟨_, rfl⟩
                      have hll8 : ll ≤ 8 := by
                        have h := List.length_filter_le (fun t => (List.range c).any fun a => f a t) (List.range j)
                        rw [hll, List.length_range] at h
                        omega
                      have HL := Lib.hid hll
                      clear hll
                      go_wp2_with
                        (at_builtin
                         refine wpList_appG rfl (.tmp 164) (.tmp 166) 48 rfl Tryd.underlying48 infoI13 rfl (by omega) wB.heap.size om ll (((List.range j).filter fun t => (List.range c).any fun a => f a t).map intC) rfl (own_sameO (HK3.out.2.own_n HL.out) ((Below.refl wr.heap.size wr).alloc (Nat.le_refl _) _)) (some ⟨wr.heap.size, 0, none⟩) 1 1 [.int .i64 (j : Nat)] rfl rfl (Rd.block (MapKept.heap_alloc wr (.cells #[.int .i64 (j : Nat)] 3)).1) (one_int13 j) (by unfold maxLen; omega) (by omega) (by rw [World.size_alloc]; omega) ?_
                         intro v9 w9 ho hg hob
                         have HN9 := Lib.hid (And.intro ho hg)
                         clear ho hg hob)
                      have hal := HK3.out.1.alloc HK3.out.1.size (.cells #[.int .i64 (j : Nat)] 3)
                      refine ⟨⟨j + 1, v9, rfl, by go_num, hjk, Below.grown hal HN9.out.2 hal.size (fun b hb => ((HK3.out.2.own_n HL.out).lt b hb).1), NtO.of HN9.out.1 ?_ ?_⟩, by simp [intOf]; omega⟩
                      · rw [List.range_succ, List.filter_append, List.filter_cons_of_pos (p := fun t => (List.range c).any fun a => f a t) HT.out, List.filter_nil, List.length_append, HL.out]
                        rfl
                      · rw [List.range_succ, List.filter_append, List.filter_cons_of_pos (p := fun t => (List.range c).any fun a => f a t) HT.out, List.filter_nil, List.map_append]
                        rfl
                  · obtain rfl : k = j := by omega
                    have e1 : ¬ (k : Int) < k := by omega
                    have hbw := HK5.out.trans (hb3.mono HK5.out.size)
                    obtain ⟨adl, li, Ai, ci, hAl, hli, zi, ri⟩ := (HR5.out.below hbw).at9.2.2.2 c (by omega)
                    subst hAl
                    rw [exA_end (by omega) hc8] at hli
                    injection hli with hli
                    rw [← hli] at zi ri
                    obtain ⟨om2, co, eo⟩ := hst3.form
                    have hin := ints13_any _ om _ _ wr ri hst3.rowN
                    rw [decide_eq_true rfl] at hin
                    subst eo
                    have HIn := Lib.hid hin
                    have HK3 := Lib.hid (HB5.out.trans (hbw.mono HB5.out.size))
                    have v0 : (0 : Int) ≤ c := by omega
                    have v3 : (c : Int) < (c : Int) + 1 := by omega
                    clear hin hbw hst3 hb3 ri hli
                    go_wp2_with fail
                    with_reducible refine HIn.out.mono ?_
                    rintro e w7 ⟨rfl, hb7⟩
                    have HB7 := Lib.hid (HK3.out.trans (hb7.mono HK3.out.size))
                    clear hb7
                    go_wp2_with fail
                    with_reducible refine (HSu.out _ HB7.out).mono ?_
                    rintro e w9 ⟨rfl, hb9⟩
                    have HB9 := Lib.hid (HB7.out.trans (hb9.mono HB7.out.size))
                    clear hb9
                    go_wp2_with fail
                    go_ret
                    exact ⟨rfl, HB9.out⟩
end Go.Proofs.YtkfnbapnkmlopaaDoor

/- Law GroupSame, walked. -/
import Derived.Test.YtkfnbapnkmlopaaDoorGpSl
namespace Go.Proofs.YtkfnbapnkmlopaaDoor
open Go.RowKit
theorem smG_S {g : List Grp} {x : List Itm} (h : SmG g x) : SmG (g.map (cS x)) (x.map dS) := by
  refine ⟨fun a ha => ?_, fun b hb => ?_⟩
  · obtain ⟨c, hc, rfl⟩ := List.mem_map.1 ha
    obtain ⟨h1, h2, h3⟩ := h.1 c hc
    refine ⟨h1, fun s hs => ?_, h3⟩
    rcases List.mem_append.1 (show s ∈ c.2.1 ++ wrT c.1 x from hs) with hs | hs
    · exact h2 s hs
    · obtain ⟨b, hb, e, _⟩ := wrT_mem.1 hs
      rw [e]
      exact (h.2 b hb).1
  · obtain ⟨c, hc, rfl⟩ := List.mem_map.1 hb
    exact ⟨(h.2 c hc).1, fun s hs => absurd hs List.not_mem_nil⟩

set_option maxHeartbeats 16000000 in
set_option maxRecDepth 100000 in
theorem same_walk (hP : PgX) (v u : Value) (g : List Grp) (x : List Itm) (w : World) (hT : Tz w) (hS : SmG g x) (hv : RowG w v g) (hu : RowX w u x) :
    Calls Tryd.prog 5 #[v, u] w fun e w' => e = .returned (.bool true) ∧ Below w.heap.size w w' := by
  have hH := huge_any13 v u g x w hv hu
  have HSu := Lib.hid (fun W (hb : Below w.heap.size w W) => sure_any13 hP W (hT.below hb))
  obtain ⟨vA, vc, rfl, hv2⟩ := hv.form
  obtain ⟨n, hn⟩ : ∃ n, g.length = n := ⟨_, rfl⟩
  rw [hn] at hv2 hH ⊢
  cases hh : hugeG g x with
  | true =>
    rw [hh] at hH
    have HH := Lib.hid hH
    clear hH hh hv hv2 hu hP hT hS hn
    go_enter Tryd.func5, Tryd.ntmps5
    go_wp2_with fail
    with_reducible refine HH.out.mono ?_
    rintro e w1 ⟨rfl, hb1⟩
    go_wp2_with fail
    with_reducible refine (HSu.out _ hb1).mono ?_
    rintro e w2 ⟨rfl, hb2⟩
    have HB := Lib.hid (hb1.trans (hb2.mono hb1.size))
    clear hb1 hb2
    go_wp2_with fail
    go_ret
    exact ⟨rfl, HB.out⟩
  | false =>
    rw [hh] at hH
    obtain ⟨hgl, hxl, hsm⟩ := hugeG_no hh
    have HH := Lib.hid hH
    have HGi := Lib.hid (fun W (hb : Below w.heap.size w W) => give_any (.slice vA n vc) u g x W (hv2.below hb) (hu.below hb) (by omega) (by omega))
    have HPx := Lib.hid (fun a b W (hb : Below w.heap.size w W) (h1 : RowG W a g) (h2 : RowX W b x) => hP.ex a b g x W (hT.below hb) hS h1 h2)
    have hck0 := ckG_zero (g := g) (x := x)
    have hat0 := ckG_at (g := g) (x := x)
    obtain ⟨at_, hat⟩ : ∃ y, (ckG g x).1 = y := ⟨_, rfl⟩
    obtain ⟨f, hf⟩ : ∃ y, (ckG g x).2 = y := ⟨_, rfl⟩
    rw [hat, hf] at HPx
    rw [hf] at hck0
    by_cases hf0 : f = 0
    · subst hf0
      have hok := hck0.1 rfl
      have HOk := Lib.hid hok
      rw [if_pos rfl, errE_zero] at HPx
      have HPc := Lib.hid (fun a b W (hb : Below w.heap.size w W) (h1 : RowG W a (g.map (cS x))) (h2 : RowX W b (x.map dS)) => hP.ex a b (g.map (cS x)) (x.map dS) W (hT.below hb) (smG_S hS) h1 h2)
      have hoS := okS hok (by omega) hxl hsm
      rw [hoS.ck, exS hok] at HPc
      dsimp only at HPc
      rw [if_pos rfl, errE_zero] at HPc
      have hel : (exG g x).length = n := by unfold exG; rw [List.length_map, List.length_range, hn]
      obtain ⟨m, hm⟩ : ∃ m, x.length = m := ⟨_, rfl⟩
      have hn30 : n ≤ 30 := by omega
      have hm30 : m ≤ 30 := by omega
      have HN := Lib.hid (And.intro hn (And.intro hm (And.intro hel hsm)))
      clear hH hh hv hv2 hu hP hT hS hgl hxl hck0 hat0 hat hf hok hoS hel hn hm hsm
      go_enter Tryd.func5, Tryd.ntmps5
      go_wp2_with fail
      with_reducible refine HH.out.mono ?_
      rintro e w1 ⟨rfl, hb1⟩
      have HB1 := Lib.hid hb1
      clear hb1
      go_wp2_with fail
      with_reducible refine (HGi.out _ HB1.out).mono ?_
      rintro e w2 ⟨a, b, rfl, hra, hrb, hb2⟩
      have HB2 := Lib.hid (HB1.out.trans (hb2.mono HB1.out.size))
      obtain ⟨Aa, ca, rfl, hra2⟩ := hra.form
      obtain ⟨Ab, cb, rfl, hrb2⟩ := hrb.form
      rw [HN.out.1] at hra2 ⊢
      rw [HN.out.2.1] at hrb2 ⊢
      have HR := Lib.hid (And.intro hra2 hrb2)
      clear hra hrb hra2 hrb2 hb2
      go_wp2_with fail
      with_reducible refine (HPx.out _ _ _ HB2.out HR.out.1 HR.out.2).mono ?_
      rintro e w5 ⟨lv, rfl, hrl, hb3⟩
      obtain ⟨Al, cl, hlv, hrl2⟩ := hrl.form
      subst hlv
      rw [HN.out.2.2.1] at hrl2 ⊢
      have HB5 := Lib.hid (HB2.out.trans (hb3.mono HB2.out.size))
      have HR5 := Lib.hid (And.intro (HR.out.1.below hb3) (And.intro (HR.out.2.below hb3) hrl2))
      clear hrl hrl2 hb3
      go_wp2_with fail
      go_loopw [10, 11] (fun ov iv wr => ∃ (i : Nat) (o : Value) (Z : List (Grp × Value × Value)), o = ov ∧ iv = .int .i64 i ∧ i ≤ n ∧ Z.map (·.1) = (g.take i).map (cS x) ∧ Below w5.heap.size w5 wr ∧ GsO wr w5.heap.size o Z) (fun _ iv _ => n - (intOf iv).toNat)
      case atStart => exact ⟨0, _, [], rfl, rfl, Nat.zero_le _, rfl, Below.refl _ _, GsO.nil⟩
      case round =>
        obtain ⟨i, o, Z, rfl, rfl, hi, hZ, hb, hown⟩ := hrel
        have hZl : Z.length = i := by rw [← List.length_map (f := (·.1)), hZ, List.length_map, List.length_take, HN.out.1]; omega
        by_cases hin : i < n
        · have q0 : (0 : Int) ≤ i := by omega
          have q1 : (i : Int) < n := by omega
          obtain ⟨p, hp⟩ : ∃ p, g[i]? = some p := ⟨_, List.getElem?_eq_getElem (by rw [HN.out.1]; exact hin)⟩
          have hpm := List.mem_of_getElem? hp
          obtain ⟨ad, X, Am, cm, Ag, cg, hA, hX, z0, z1, z2, r1, r2⟩ := HR5.out.1.parts.2.2.2 i hin p hp
          subst hA
          have hsl := smG_len hpm (by have := HN.out.2.2.2; omega)
          obtain ⟨l1, hl1⟩ : ∃ l, p.2.1.length = l := ⟨_, rfl⟩
          obtain ⟨l2, hl2⟩ : ∃ l, p.2.2.length = l := ⟨_, rfl⟩
          obtain ⟨S0, hS0⟩ : ∃ S, str p.1 = S := ⟨_, rfl⟩
          rw [hS0] at z0
          rw [hl1] at z1 r1 hsl
          rw [hl2] at z2 r2 hsl
          have h1l : l1 ≤ 200 := hsl.1
          have HC := Lib.hid (cells_later z0 z1 z2)
          have HG := Lib.hid (And.intro hp (And.intro r1 (And.intro r2 (And.intro hl1 (And.intro hl2 hS0)))))
          have HK := Lib.hid (And.intro hb (And.intro hown (And.intro hZ hZl)))
          have hsz := hb.size
          obtain ⟨k0, k1, k2⟩ := HC.out wr hb
          have hrd := (r1.below hb).rd13
          have hml : (p.2.1.map txC).length = l1 * 1 := by rw [List.length_map, hl1, Nat.mul_one]
          have HRd := Lib.hid (And.intro hrd hml)
          clear hb hown hZ hZl hpm z0 z1 z2 r1 r2 hsl hl1 hl2 hS0 hp hrd hml k0 k2
          go_wp2_with
            (at_builtin
             refine wpList_appG rfl (.tmp 68) (.tmp 73) 43 rfl Tryd.underlying43 infoS13 rfl (by omega) wr.heap.size (.slice none 0 0) 0 [] rfl (World.ownsRow_nil _ _ _ _) Am l1 cm (p.2.1.map txC) rfl HRd.out.2 HRd.out.1 (one_txs _) (by unfold maxLen; omega) (by omega) (Nat.le_refl _) ?_
             intro v' w6 ho hg hob
             have hst : StO w6 wr.heap.size v' (p.2.1 ++ wrT p.1 (x.take 0)) := StO.of ho (by rw [List.take_zero]; unfold wrT; rw [List.flatMap_nil, List.append_nil, Nat.zero_add, HG.out.2.2.2.1]) (by rw [List.take_zero]; unfold wrT; rw [List.flatMap_nil, List.append_nil, List.nil_append])
             have hb6 : Below wr.heap.size wr w6 := Below.grown (Below.refl wr.heap.size wr) hg (Nat.le_refl _) (fun b hb => by cases hb)
             have HN2 := Lib.hid (And.intro hst hb6)
             clear ho hg hob hst hb6)
          clear k1
          obtain ⟨wB, hwB⟩ : ∃ y, wr = y := ⟨_, rfl⟩
          rw [hwB] at HK HN2 hsz
          clear hwB
          go_loopw [12, 13] (fun ov iv wr => ∃ (k : Nat) (o : Value), o = ov ∧ iv = .int .i64 k ∧ k ≤ m ∧ Below wB.heap.size wB wr ∧ StO wr wB.heap.size o (p.2.1 ++ wrT p.1 (x.take k))) (fun _ iv _ => m - (intOf iv).toNat)
          case atStart => exact ⟨0, _, rfl, rfl, Nat.zero_le _, HN2.out.2, HN2.out.1⟩
          case round =>
            obtain ⟨k, o2, rfl, rfl, hk, hb2, hst⟩ := hrel
            by_cases hkm : k < m
            · have e0 : (0 : Int) ≤ k := by omega
              have e1 : (k : Int) < m := by omega
              obtain ⟨b, hbx⟩ : ∃ b, x[k]? = some b := ⟨_, List.getElem?_eq_getElem (by rw [HN.out.2.1]; exact hkm)⟩
              obtain ⟨ad2, X2, Aj, cj, hA2, hX2, j0, j1, rj⟩ := HR5.out.2.1.parts.2.2.2 k hkm b hbx
              subst hA2
              have hlj := smX_len (List.mem_of_getElem? hbx) (by have := HN.out.2.2.2; omega)
              obtain ⟨lj, hlj2⟩ : ∃ l, b.2.length = l := ⟨_, rfl⟩
              obtain ⟨SB, hSB⟩ : ∃ S, str b.1 = S := ⟨_, rfl⟩
              rw [hSB] at j0
              rw [hlj2] at j1 rj hlj
              have HCj := Lib.hid (cells_later2 j0 j1)
              have hq : p.2.1 ++ wrT p.1 (x.take k) = p.2.1 ++ wrT p.1 (x.take k) ++ wrJ p.1 b 0 := by unfold wrJ; simp
              rw [hq] at hst
              have HJ := Lib.hid (And.intro rj (And.intro hlj2 (And.intro hbx hSB)))
              have HK2 := Lib.hid (And.intro hb2 hst)
              clear hb2 hst hbx hq hSB hlj2 j0 j1 rj
              go_wp2_with fail
              go_loopw [12, 14] (fun ov iv wr => ∃ (j : Nat) (o : Value), o = ov ∧ iv = .int .i64 j ∧ j ≤ lj ∧ Below wB.heap.size wB wr ∧ StO wr wB.heap.size o (p.2.1 ++ wrT p.1 (x.take k) ++ wrJ p.1 b j)) (fun _ iv _ => lj - (intOf iv).toNat)
              case atStart => exact ⟨0, _, rfl, rfl, Nat.zero_le _, HK2.out.1, HK2.out.2⟩
              case round =>
                obtain ⟨j, o3, rfl, rfl, hj, hb3, hst3⟩ := hrel
                have hb5 := HK.out.1.trans (hb3.mono HK.out.1.size)
                obtain ⟨c0, c1⟩ := HCj.out wr hb5
                by_cases hjl : j < lj
                · have f0 : (0 : Int) ≤ j := by omega
                  have f1 : (j : Int) < lj := by omega
                  obtain ⟨ad3, s, rfl, hs, cs⟩ := (HJ.out.1.below hb5).at9.2.2.2 j hjl
                  obtain ⟨k0, _, _⟩ := HC.out wr hb5
                  have he := tl_eq s p.1
                  rw [HG.out.2.2.2.2.2] at he
                  obtain ⟨S1, hS1⟩ : ∃ S, str s = S := ⟨_, rfl⟩
                  rw [hS1] at he cs
                  have hsz3 := hb3.size
                  have HK3 := Lib.hid (And.intro hb3 (And.intro hst3 hs))
                  clear hb3 hst3 hs hS1 hb5
                  by_cases hsp : s = p.1
                  · rw [decide_eq_true hsp] at he
                    have HSP := Lib.hid hsp
                    clear hsp
                    go_wp2_with fail
                    go_quiet (fail)
                    obtain ⟨w8, hw8⟩ : ∃ y, wr.drewN nq = y := ⟨_, rfl⟩
                    have hb8 : Below wr.heap.size wr w8 := by rw [← hw8]; exact below_dq _ _
                    rw [hw8]
                    have HB8 := Lib.hid (HK3.out.1.trans (hb8.mono HK3.out.1.size))
                    have hst8 := HK3.out.2.1.below hb8
                    obtain ⟨d0, _⟩ := HCj.out w8 (HK.out.1.trans (HB8.out.mono HK.out.1.size))
                    have hL : (p.2.1 ++ wrT p.1 (x.take k) ++ wrJ p.1 b j).length ≤ 700 := by
                      have a1 := wrT_le p.1 x k
                      have a2 := wrT_len p.1 x (by have := HN.out.2.2.2; omega)
                      have a3 := wrJ_len p.1 b j
                      have a4 := HN.out.2.2.2
                      have a5 := HG.out.2.2.2.1
                      rw [List.length_append, List.length_append]
                      omega
                    have hsz8 := HB8.out.size
                    obtain ⟨L, hLe⟩ : ∃ y, p.2.1 ++ wrT p.1 (x.take k) ++ wrJ p.1 b j = y := ⟨_, rfl⟩
                    rw [hLe] at hst8 hL
                    obtain ⟨ll, hll⟩ : ∃ y, L.length = y := ⟨_, rfl⟩
                    have HS8 := Lib.hid (And.intro hst8 (And.intro hll hLe))
                    rw [hll] at hL
                    clear hw8 hb8 hst8 hLe hll c0 c1 cs k0 he
                    go_wp2_with
                      (at_builtin
                       refine wpList_appG rfl (.tmp 105) (.tmp 111) 43 rfl Tryd.underlying43 infoS13 rfl (by omega) wB.heap.size o3 ll (L.map txC) rfl (own_sameO (HS8.out.1.own_n HS8.out.2.1) ((Below.refl w8.heap.size w8).alloc (Nat.le_refl _) _)) (some ⟨w8.heap.size, 0, none⟩) 1 1 [.string SB] rfl rfl (rd_oneS13 w8 SB) (one_txs [b.1] |> fun h => by rw [← HJ.out.2.2.2]; exact h) (by unfold maxLen; omega) (by omega) (by rw [World.size_alloc]; omega) ?_
                       intro v9 w9 ho hg hob
                       have HN9 := Lib.hid (And.intro ho hg)
                       clear ho hg hob)
                    have hal := HB8.out.alloc HB8.out.size (.cells #[.string SB] 9)
                    refine ⟨⟨j + 1, v9, rfl, by go_num, hjl, Below.grown hal HN9.out.2 hal.size (fun b hb => ((HS8.out.1.own_n HS8.out.2.1).lt b hb).1), StO.of HN9.out.1 ?_ ?_⟩, by simp [intOf]; omega⟩
                    · rw [wrJ_succ HK3.out.2.2, if_pos HSP.out, ← List.append_assoc, HS8.out.2.2, List.length_append, HS8.out.2.1]
                      rfl
                    · rw [wrJ_succ HK3.out.2.2, if_pos HSP.out, ← List.append_assoc, HS8.out.2.2, List.map_append, ← HJ.out.2.2.2]
                      rfl
                  · rw [decide_eq_false hsp] at he
                    have HSP := Lib.hid hsp
                    clear hsp
                    go_wp2_with fail
                    go_quiet (fail)
                    go_wp2_with fail
                    refine ⟨⟨j + 1, o3, rfl, by go_num, hjl, HK3.out.1.trans (below_dq _ _), ?_⟩, by simp [intOf]; omega⟩
                    rw [wrJ_succ HK3.out.2.2, if_neg HSP.out, List.append_nil]
                    exact HK3.out.2.1.below (below_dq _ _)
                · obtain rfl : lj = j := by omega
                  have f1 : ¬ (lj : Int) < lj := by omega
                  have HK3 := Lib.hid (And.intro hb3 hst3)
                  clear hb3 hst3 hb5
                  go_wp2_with fail
                  refine ⟨⟨k + 1, o3, rfl, by go_num, hkm, HK3.out.1, ?_⟩, by simp [intOf]; omega⟩
                  rw [wrT_take HJ.out.2.2.1, ← wrJ_all (n := p.1) (b := b) (j := lj) (by rw [HJ.out.2.1]; exact Nat.le_refl _), ← List.append_assoc]
                  exact HK3.out.2
            · obtain rfl : m = k := by omega
              have e1 : ¬ (m : Int) < m := by omega
              rw [List.take_of_length_le (by rw [HN.out.2.1]; exact Nat.le_refl _)] at hst
              obtain ⟨A2, c2, e2⟩ := hst.form
              obtain ⟨ll, hll⟩ : ∃ y, (p.2.1 ++ wrT p.1 x).length = y := ⟨_, rfl⟩
              rw [hll] at e2
              subst e2
              have hbI := HK.out.1.trans (hb2.mono HK.out.1.size)
              have hgs := HK.out.2.1.below hb2
              have hh2 : HeS wr w5.heap.size (.slice Ag l2 cg) p.2.2 := HeS.old HG.out.2.2.1 hbI
              have hh1 : HeS wr w5.heap.size (.slice A2 ll c2) (p.2.1 ++ wrT p.1 x) := hst.he
              have how := hgs.own_k HK.out.2.2.2
              obtain ⟨k0, _, k2⟩ := HC.out wr hbI
              have HSt := Lib.hid (fun W (hb : Below w5.heap.size w5 W) => show Below w5.heap.size w5 W ∧ W.cell? X = some (.string S0) ∧ W.cell? { block := X.block, off := X.off + 2 } = some (.slice Ag l2 cg) from ⟨hb, (HC.out W hb).1, (HC.out W hb).2.2⟩)
              have HDr := Lib.hid (HSt.out _ (hbI.trans (below_dq wr 1)))
              have HO := Lib.hid how
              have HB := Lib.hid hbI
              have HP := Lib.hid (And.intro hgs (And.intro hh1 hh2))
              have hszI := hbI.size
              clear hb2 hst hll hgs hh1 hh2 how hbI k0 k2
              go_wp2_with fail
              go_region_held3 (fun W => Below w5.heap.size w5 W ∧ W.cell? X = some (.string S0) ∧ W.cell? { block := X.block, off := X.off + 2 } = some (.slice Ag l2 cg)) (first | exact HDr.out | exact HSt.out _ (by assumption) | exact HSt.out _ (below_alO (by assumption) _) | exact HSt.out _ ((below_alO HB.out _).trans (below_dq _ 1))) (first
                | (refine step_appK (by rfl) (.tmp 113) (.tmp 126) _ (by rfl) Tryd.underlying26 infoG rfl (by omega) w5.heap.size o i (Z.flatMap grC) (by rfl) (by first | exact HO.out.drew.alloc _ | exact (HO.out.alloc _).drew | exact HO.out.alloc _) (some ⟨wr.heap.size, 0, none⟩) 1 1 [.string S0, .slice A2 ll c2, .slice Ag l2 cg] (by rfl) rfl
                     (by first | exact rd_oneG13 _ _ _ _ _ _ _ _ | exact rd_oneG13 wr _ _ _ _ _ _ _) (one_g13 _ _ _ _ _ _ _) (by unfold maxLen; omega) (by omega) (by have := HB.out.size; simp; omega) ?_
                   intro vE wE hoE hgE haE
                   have hbE : Below w5.heap.size w5 wE := ((HB.out.alloc HB.out.size (.cells #[.string S0, .slice A2 ll c2, .slice Ag l2 cg] 45)).trans (below_dq _ 1)).grown hgE (by have := HB.out.size; simp; omega) (fun j hj => (HO.out.lt j hj).1)
                   have hpE : GsO wE w5.heap.size vE (Z ++ [(cS x p, .slice A2 ll c2, .slice Ag l2 cg)]) := GsO.push2 HP.out.1 HP.out.2.1 HP.out.2.2 (by rw [HK.out.2.2.2]; unfold grC cS; dsimp only; rw [HG.out.2.2.2.2.2]; exact hoE) hgE (by first | exact below_alO (below_dq wr 1) _ | exact (below_alO (Below.refl _ _) _).trans (below_dq _ 1))
                   have HEE := Lib.hid (And.intro hpE hbE)
                   clear hoE hgE haE hpE))
              clear hbE
              go_wp2_with fail
              refine ⟨⟨i + 1, vE, _, rfl, by go_num, hin, ?_, HEE.out.2, HEE.out.1⟩, by simp [intOf]; omega⟩
              rw [List.map_append, HK.out.2.2.1, cS_take HG.out.1]
              rfl
        · obtain rfl : n = i := by omega
          have q1 : ¬ (n : Int) < n := by omega
          rw [List.take_of_length_le (by rw [HN.out.1]; exact Nat.le_refl _)] at hZ
          have hRG := hown.rowG
          rw [hZ] at hRG
          have HG6 := Lib.hid (And.intro hb hRG)
          clear hb hRG hown hZ hZl
          go_wp2_with fail
          obtain ⟨w6, rfl⟩ : ∃ y, y = wr := ⟨_, rfl⟩
          go_loopw [15, 16] (fun ov iv wr => ∃ (k : Nat) (o : Value) (Y : List (Itm × Value)), o = ov ∧ iv = .int .i64 k ∧ k ≤ m ∧ Y.map (·.1) = (x.take k).map dS ∧ Below w6.heap.size w6 wr ∧ XsO wr w6.heap.size o Y) (fun _ iv _ => m - (intOf iv).toNat)
          case atStart => exact ⟨0, _, [], rfl, rfl, Nat.zero_le _, rfl, Below.refl _ _, XsO.nil⟩
          case round =>
            obtain ⟨k, o2, Y, rfl, rfl, hk, hY, hb, hown⟩ := hrel
            have hYl : Y.length = k := by rw [← List.length_map (f := (·.1)), hY, List.length_map, List.length_take, HN.out.2.1]; omega
            by_cases hkm : k < m
            · have e0 : (0 : Int) ≤ k := by omega
              have e1 : (k : Int) < m := by omega
              obtain ⟨b, hbx⟩ : ∃ b, x[k]? = some b := ⟨_, List.getElem?_eq_getElem (by rw [HN.out.2.1]; exact hkm)⟩
              have hb5 := HG6.out.1.trans (hb.mono HG6.out.1.size)
              obtain ⟨ad2, X2, Aj, cj, hA2, hX2, j0, _, _⟩ := (HR5.out.2.1.below hb5).parts.2.2.2 k hkm b hbx
              subst hA2
              obtain ⟨SB, hSB⟩ : ∃ S, str b.1 = S := ⟨_, rfl⟩
              rw [hSB] at j0
              have hsz := hb.size
              have HJ := Lib.hid (And.intro hbx hSB)
              have HK := Lib.hid (And.intro hb (And.intro hown (And.intro hY hYl)))
              clear hb hown hY hYl hbx hSB hb5
              go_wp2_with
                (at_builtin
                 refine wpList_appG rfl (.tmp 134) (.tmp 141) 27 rfl Tryd.underlying27 infoX rfl (by omega) w6.heap.size o2 k (Y.flatMap itC) rfl (own_sameO (HK.out.2.1.own_k HK.out.2.2.2) ((Below.refl wr.heap.size wr).alloc (Nat.le_refl _) _)) (some ⟨wr.heap.size, 0, none⟩) 1 1 [.string SB, .slice none 0 0] rfl rfl (Rd.block (MapKept.heap_alloc wr (.cells #[.string SB, .slice none 0 0] 47)).1) (one_x13 SB _ _ _) (by unfold maxLen; omega) (by omega) (by rw [World.size_alloc]; omega) ?_
                 intro v' w'' ho hg hob
                 have HN2 := Lib.hid (And.intro ho hg)
                 clear ho hg hob)
              have hal1 := ((Below.refl wr.heap.size wr).alloc (Nat.le_refl _) (.cells #[.string SB, .slice none 0 0] 47))
              have hal := HK.out.1.trans (hal1.mono HK.out.1.size)
              refine ⟨⟨k + 1, v', Y ++ [(dS b, .slice none 0 0)], rfl, by go_num, hkm, ?_, Below.grown hal HN2.out.2 hal.size (fun b hb => ((HK.out.2.1.own_k HK.out.2.2.2).lt b hb).1), ?_⟩, by simp [intOf]; omega⟩
              · rw [List.map_append, HK.out.2.2.1, dS_take HJ.out.1]
                rfl
              · exact (HK.out.2.1.below hal1).push (HeS.nil _ _) (by rw [HK.out.2.2.2]; unfold itC dS; dsimp only; rw [HJ.out.2]; exact HN2.out.1) HN2.out.2
            · obtain rfl : m = k := by omega
              have e1 : ¬ (m : Int) < m := by omega
              rw [List.take_of_length_le (by rw [HN.out.2.1]; exact Nat.le_refl _)] at hY
              have hRX := hown.rowX
              rw [hY] at hRX
              have hb5 := HG6.out.1.trans (hb.mono HG6.out.1.size)
              have HB7 := Lib.hid (HB5.out.trans (hb5.mono HB5.out.size))
              have HR7 := Lib.hid (And.intro (HG6.out.2.below hb) (And.intro hRX (HR5.out.2.2.below hb5)))
              have HRa := Lib.hid (HR5.out.1.below hb5)
              clear hb hRX hb5 hown hY hYl
              go_wp2_with fail
              with_reducible refine (HPc.out _ _ _ HB7.out HR7.out.1 HR7.out.2.1).mono ?_
              rintro e w8 ⟨lv2, rfl, hrl, hb8⟩
              obtain ⟨Al2, cl2, hlv2, hrl2⟩ := hrl.form
              subst hlv2
              rw [HN.out.2.2.1] at hrl2 ⊢
              have hli := lists_any (.slice Al2 n cl2) (.slice Al n cl) (exG g x) (exG g x) w8 hrl2 (HR7.out.2.2.below hb8)
              rw [decide_eq_true rfl] at hli
              have HLi := Lib.hid hli
              have HB8 := Lib.hid (HB7.out.trans (hb8.mono HB7.out.size))
              have HR8 := Lib.hid (And.intro (HRa.out.below hb8) (HR7.out.2.2.below hb8))
              clear hrl hrl2 hli hb8
              go_wp2_with fail
              with_reducible refine HLi.out.mono ?_
              rintro e w9 ⟨rfl, hb9⟩
              have HB9 := Lib.hid (HB8.out.trans (hb9.mono HB8.out.size))
              have HR9 := Lib.hid (And.intro (HR8.out.1.below hb9) (HR8.out.2.below hb9))
              clear hb9
              go_wp2_with fail
              go_loopw [20] (fun iv wr => ∃ i : Nat, iv = .int .i64 i ∧ i ≤ n ∧ Below w9.heap.size w9 wr) (fun iv _ => n - (intOf iv).toNat)
              case atStart => exact ⟨0, rfl, Nat.zero_le _, Below.refl _ _⟩
              case round =>
                obtain ⟨i, rfl, hi, hb⟩ := hrel
                by_cases hin : i < n
                · have q0 : (0 : Int) ≤ i := by omega
                  have q1 : (i : Int) < n := by omega
                  obtain ⟨p, hp⟩ : ∃ p, g[i]? = some p := ⟨_, List.getElem?_eq_getElem (by rw [HN.out.1]; exact hin)⟩
                  obtain ⟨ad, X, Am, cm, Ag, cg, hA, hX, z0, z1, z2, r1, r2⟩ := HR9.out.1.parts.2.2.2 i hin p hp
                  subst hA
                  obtain ⟨adl, li, Ai, ci, hAl, hli, zi, ri⟩ := HR9.out.2.at9.2.2.2 i hin
                  subst hAl
                  obtain ⟨l2, hl2⟩ : ∃ l, p.2.2.length = l := ⟨_, rfl⟩
                  obtain ⟨ni, hni⟩ : ∃ l, li.length = l := ⟨_, rfl⟩
                  rw [hl2] at z2 r2
                  rw [hni] at zi ri
                  have hl9 : l2 ≤ 9223372036854775807 := by
                    have h1 := r2.at9.2.1
                    have h2 := r2.at9.2.2.1
                    unfold maxLen at h2
                    omega
                  have hn9 : ni ≤ 9223372036854775807 := by
                    have h1 := ri.at9.2.1
                    have h2 := ri.at9.2.2.1
                    unfold maxLen at h2
                    omega
                  have HCi := Lib.hid (fun W (hb : Below w9.heap.size w9 W) => And.intro (cell9_below (a := { block := X.block, off := X.off + 2 }) z2 hb) (cell9_below zi hb))
                  have HI := Lib.hid (And.intro hp (And.intro r2 (And.intro hli (And.intro ri hni))))
                  have HBi := Lib.hid hb
                  clear hb hp r1 r2 hli ri hni hl2 z0 z1 z2 zi
                  go_wp2_with fail
                  go_loopw [21] (fun iv wr => ∃ j : Nat, iv = .int .i64 j ∧ j ≤ n ∧ Below w9.heap.size w9 wr) (fun iv _ => n - (intOf iv).toNat)
                  case atStart => exact ⟨0, rfl, Nat.zero_le _, HBi.out⟩
                  case round =>
                    obtain ⟨j, rfl, hj, hb⟩ := hrel
                    by_cases hjn : j < n
                    · have e0 : (0 : Int) ≤ j := by omega
                      have e1 : (j : Int) < n := by omega
                      obtain ⟨b, hbx⟩ : ∃ p, g[j]? = some p := ⟨_, List.getElem?_eq_getElem (by rw [HN.out.1]; exact hjn)⟩
                      obtain ⟨ad', X', Am', cm', Ag', cg', hA', hX', z0, z1, z2, _, _⟩ := HR9.out.1.parts.2.2.2 j hjn b hbx
                      injection hA' with hA'
                      subst hA'
                      obtain ⟨adl', lj, Aj, cj, hAl', hlj, zj, rj⟩ := HR9.out.2.at9.2.2.2 j hjn
                      injection hAl' with hAl'
                      subst hAl'
                      obtain ⟨nj, hnj⟩ : ∃ l, lj.length = l := ⟨_, rfl⟩
                      rw [hnj] at zj rj
                      have hj9 : nj ≤ 9223372036854775807 := by
                        have h1 := rj.at9.2.1
                        have h2 := rj.at9.2.2.1
                        unfold maxLen at h2
                        omega
                      obtain ⟨SB, hSB⟩ : ∃ S, str b.1 = S := ⟨_, rfl⟩
                      rw [hSB] at z0
                      have HCj := Lib.hid (fun W (hb : Below w9.heap.size w9 W) => And.intro (cell9_below z0 hb) (cell9_below zj hb))
                      have HJ := Lib.hid (And.intro hbx (And.intro hlj (And.intro rj (And.intro hnj hSB))))
                      have HBj := Lib.hid hb
                      clear hb hbx hlj rj hnj hSB z0 z1 z2 zj
                      go_wp2_with fail
                      go_loopw [22] (fun iv wr => ∃ k : Nat, iv = .int .i64 k ∧ k ≤ l2 ∧ Below w9.heap.size w9 wr) (fun iv _ => l2 - (intOf iv).toNat)
                      case atStart => exact ⟨0, rfl, Nat.zero_le _, HBj.out⟩
                      case round =>
                        obtain ⟨k, rfl, hk, hb⟩ := hrel
                        obtain ⟨ci2, _⟩ := HCi.out wr hb
                        by_cases hkl : k < l2
                        · have f0 : (0 : Int) ≤ k := by omega
                          have f1 : (k : Int) < l2 := by omega
                          obtain ⟨ad3, s, hA3, hs, cs⟩ := (HI.out.2.1.below hb).at9.2.2.2 k hkl
                          subst hA3
                          obtain ⟨cj0, _⟩ := HCj.out wr hb
                          have he := tl_eq s b.1
                          rw [HJ.out.2.2.2.2] at he
                          obtain ⟨S1, hS1⟩ : ∃ S, str s = S := ⟨_, rfl⟩
                          rw [hS1] at he cs
                          have HK := Lib.hid (And.intro hb hs)
                          clear hb hs hS1
                          by_cases hsp : s = b.1
                          · rw [decide_eq_true hsp] at he
                            have HSP := Lib.hid hsp
                            clear hsp
                            go_wp2_with fail
                            go_quiet (fail)
                            go_wp2_with fail
                            clear ci2 cj0 cs he
                            have HB8' := Lib.hid (HK.out.1.trans (below_dq wr nq))
                            go_loopw [23] (fun iv wr => ∃ t : Nat, iv = .int .i64 t ∧ t ≤ nj ∧ Below w9.heap.size w9 wr) (fun iv _ => nj - (intOf iv).toNat)
                            case atStart => exact ⟨0, rfl, Nat.zero_le _, HB8'.out⟩
                            case round =>
                              obtain ⟨t, rfl, ht, hb⟩ := hrel
                              obtain ⟨_, cj1⟩ := HCj.out wr hb
                              by_cases htn : t < nj
                              · have g0 : (0 : Int) ≤ t := by omega
                                have g1 : (t : Int) < nj := by omega
                                obtain ⟨ad4, y, hA4, hy, zy⟩ := HJ.out.2.2.1.at9.2.2.2 t htn
                                subst hA4
                                have HT := Lib.hid (And.intro hb hy)
                                have HCy := Lib.hid (fun W (hb : Below w9.heap.size w9 W) => cell9_below zy hb)
                                clear hb hy zy
                                go_wp2_with fail
                                clear cj1
                                go_loopw [24, 25] (fun bv iv wr => ∃ q : Nat, bv = .bool (decide (y ∈ li.take q)) ∧ iv = .int .i64 q ∧ q ≤ ni ∧ Below w9.heap.size w9 wr) (fun _ iv _ => ni - (intOf iv).toNat)
                                case atStart => exact ⟨0, by simp, rfl, Nat.zero_le _, HT.out.1⟩
                                case round =>
                                  obtain ⟨q, rfl, rfl, hq, hb⟩ := hrel
                                  by_cases hqn : q < ni
                                  · have u0 : (0 : Int) ≤ q := by omega
                                    have u1 : (q : Int) < ni := by omega
                                    obtain ⟨ad5, a, hA5, ha, ca⟩ := (HI.out.2.2.2.1.below hb).at9.2.2.2 q hqn
                                    subst hA5
                                    have cy := HCy.out wr hb
                                    obtain ⟨_, ci1⟩ := HCi.out wr hb
                                    obtain ⟨_, cj1⟩ := HCj.out wr hb
                                    have hmt := mem_take13 (y := y) ha
                                    obtain ⟨D, hD⟩ : ∃ D, decide (y ∈ li.take q) = D := ⟨_, rfl⟩
                                    rw [hD] at hmt ⊢
                                    have HQ := Lib.hid (And.intro hb hmt)
                                    clear hb hmt hD ha
                                    cases D with
                                    | true =>
                                      go_wp2_with fail
                                      go_quiet (fail)
                                      go_wp2_with fail
                                      exact ⟨⟨q + 1, by rw [HQ.out.2]; rfl, by go_num, hqn, HQ.out.1.trans (below_dq _ _)⟩, by simp [intOf]; omega⟩
                                    | false =>
                                      by_cases hay : a = y
                                      · subst hay
                                        go_wp2_with fail
                                        go_quiet (fail)
                                        go_wp2_with fail
                                        exact ⟨⟨q + 1, by rw [HQ.out.2]; simp, by go_num, hqn, HQ.out.1.trans (below_dq _ _)⟩, by simp [intOf]; omega⟩
                                      · have hd : ¬ ((a : Int) = y) := by omega
                                        have HY := Lib.hid hay
                                        clear hay
                                        go_wp2_with fail
                                        go_quiet (fail)
                                        go_wp2_with fail
                                        exact ⟨⟨q + 1, by rw [HQ.out.2]; simp [HY.out]; exact hd, by go_num, hqn, HQ.out.1.trans (below_dq _ _)⟩, by simp [intOf]; omega⟩
                                  · obtain rfl : ni = q := by omega
                                    have u1 : ¬ (ni : Int) < ni := by omega
                                    obtain ⟨_, ci1⟩ := HCi.out wr hb
                                    have hyes : decide (y ∈ li.take ni) = true := by
                                      rw [List.take_of_length_le (by rw [HI.out.2.2.2.2]; exact Nat.le_refl _)]
                                      refine decide_eq_true ?_
                                      rw [exG_get13 HI.out.2.2.1]
                                      refine memS_up HOk.out HI.out.1 HJ.out.1 (k := k) (by rw [HK.out.2, HSP.out]) ?_
                                      rw [← exG_get13 HJ.out.2.1]
                                      exact List.mem_of_getElem? HT.out.2
                                    rw [hyes]
                                    have HQ := Lib.hid hb
                                    clear hb hyes
                                    go_wp2_with fail
                                    exact ⟨⟨t + 1, by go_num, htn, HQ.out⟩, by simp [intOf]; omega⟩
                              · obtain rfl : nj = t := by omega
                                have g1 : ¬ (nj : Int) < nj := by omega
                                have HT := Lib.hid hb
                                clear hb
                                go_wp2_with fail
                                exact ⟨⟨k + 1, by go_num, hkl, HT.out⟩, by simp [intOf]; omega⟩
                          · rw [decide_eq_false hsp] at he
                            have HSP := Lib.hid hsp
                            clear hsp
                            go_wp2_with fail
                            go_quiet (fail)
                            go_wp2_with fail
                            exact ⟨⟨k + 1, by go_num, hkl, HK.out.1.trans (below_dq _ _)⟩, by simp [intOf]; omega⟩
                        · obtain rfl : l2 = k := by omega
                          have f1 : ¬ (l2 : Int) < l2 := by omega
                          have HK := Lib.hid hb
                          clear hb
                          go_wp2_with fail
                          exact ⟨⟨j + 1, by go_num, hjn, HK.out⟩, by simp [intOf]; omega⟩
                    · obtain rfl : n = j := by omega
                      have e1 : ¬ (n : Int) < n := by omega
                      have HK := Lib.hid hb
                      clear hb
                      go_wp2_with fail
                      exact ⟨⟨i + 1, by go_num, hin, HK.out⟩, by simp [intOf]; omega⟩
                · obtain rfl : n = i := by omega
                  have q1 : ¬ (n : Int) < n := by omega
                  have HK := Lib.hid (HB9.out.trans (hb.mono HB9.out.size))
                  clear hb
                  go_wp2_with fail
                  with_reducible refine (HSu.out _ HK.out).mono ?_
                  rintro e w10 ⟨rfl, hb10⟩
                  have HB10 := Lib.hid (HK.out.trans (hb10.mono HK.out.size))
                  clear hb10
                  go_wp2_with fail
                  go_ret
                  exact ⟨rfl, HB10.out⟩
    · rw [if_neg hf0, errE_pos hf0] at HPx
      unfold errK at HPx
      clear hH hh hv hv2 hu hP hT hS hgl hxl hck0 hat0 hat hf hf0 hsm hn
      go_enter Tryd.func5, Tryd.ntmps5
      go_wp2_with fail
      with_reducible refine HH.out.mono ?_
      rintro e w1 ⟨rfl, hb1⟩
      have HB1 := Lib.hid hb1
      clear hb1
      go_wp2_with fail
      with_reducible refine (HGi.out _ HB1.out).mono ?_
      rintro e w2 ⟨a, b, rfl, hra, hrb, hb2⟩
      have HB2 := Lib.hid (HB1.out.trans (hb2.mono HB1.out.size))
      have HR := Lib.hid (And.intro hra hrb)
      clear hra hrb hb2
      go_wp2_with fail
      with_reducible refine (HPx.out _ _ _ HB2.out HR.out.1 HR.out.2).mono ?_
      rintro e w3 ⟨lv, rfl, hrl, hb3⟩
      obtain ⟨Al, cl, hlv, _⟩ := hrl.form
      subst hlv
      have HB3 := Lib.hid (HB2.out.trans (hb3.mono HB2.out.size))
      clear hrl hb3
      go_wp2_with fail
      with_reducible refine (HSu.out _ HB3.out).mono ?_
      rintro e w8 ⟨rfl, hb8⟩
      have HB8 := Lib.hid (HB3.out.trans (hb8.mono HB3.out.size))
      clear hb8
      go_wp2_with fail
      go_ret
      exact ⟨rfl, HB8.out⟩
end Go.Proofs.YtkfnbapnkmlopaaDoor

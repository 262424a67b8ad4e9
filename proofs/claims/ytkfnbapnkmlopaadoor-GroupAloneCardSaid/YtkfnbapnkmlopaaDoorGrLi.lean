/- Contract: lineUp: places, one by one the least that waits for no other. -/
import Derived.Test.YtkfnbapnkmlopaaDoorGrLu
import Derived.Test.YtkfnbapnkmlopaaDoorGrVi
namespace Go.Proofs.YtkfnbapnkmlopaaDoor
open Go.RowKit

def LuE (M : Wt) (n : Nat) (w : World) (e : Ending) (w' : World) : Prop :=
  ∃ D A c, e = .returned (.slice A D.length c) ∧ RowN w' (.slice A D.length c) D ∧ Below w.heap.size w w' ∧ (lpT M n = none → D = ordT M n ∧ D.length = n) ∧ (lpT M n ≠ none → D.length < n)
theorem luE_of {M : Wt} {n k : Nat} (hM : Okw n M) {D : List Nat} (hD : D = ordK M n k) (hk : D.length = k) (ho : Orw M n D) (hkn : k ≤ n) (hno : nxtT M n D = none) : (lpT M n = none → D = ordT M n ∧ D.length = n) ∧ (lpT M n ≠ none → D.length < n) := by
  constructor
  · intro h
    have hc := (lpT_none hM).1 h
    have hkn2 : k = n := by
      refine Classical.byContradiction fun hne => ?_
      obtain ⟨x, hx⟩ := nxtT_ex hM hc ho (by omega)
      rw [hno] at hx
      cases hx
    subst hkn2
    exact ⟨hD, hk⟩
  · intro h
    refine Classical.byContradiction fun hne => ?_
    exact h ((lpT_none hM).2 (ho.acyc hM (by omega)))
theorem orw_len {M : Wt} {n : Nat} {D : List Nat} (h : Orw M n D) : D.length ≤ n := by
  have h2 := List.Nodup.length_le_of_subset (l₁ := D) (l₂ := List.range n) h.nd (fun y hy => List.mem_range.2 (h.lt y hy))
  rwa [List.length_range] at h2
theorem meas_le {n k p l : Nat} (hk : k < n) (hp : p < n) : (n - (k + 1)) * (n + 1) + (n - l) < (n - k) * (n + 1) + (n - p) := by
  obtain ⟨m, hm⟩ : ∃ m, n - k = m + 1 := ⟨n - k - 1, by omega⟩
  have e : n - (k + 1) = m := by omega
  rw [hm, e, Nat.succ_mul]
  omega
set_option maxRecDepth 100000 in
set_option maxHeartbeats 4000000 in
theorem lineUp_any (n : Nat) (v : Value) (M : Wt) (w : World) (hn : n ≤ 4096) (hM : Okw n M) (hl : M.length ≤ 1048576) (hv : RowW w v (cst M)) :
    Calls Tryd.prog 50 #[.int .i64 (n : Nat), v] w (LuE M n w) := by
  have hLe := leads_any n v M M 0 1 w hn hM hl hv (.inl ⟨rfl, rfl, rfl⟩)
  have HLe := Lib.hid (show Calls Tryd.prog 59 #[.int .i64 (n : Nat), v, .int .i64 0, .int .i64 1] w fun r w' => ∃ g Z, r = .returned (.slice (some ⟨g, 0, none⟩) n n) ∧ NxO w' w.heap.size g (eM M) n Z ∧ Below w.heap.size w w' from hLe)
  obtain ⟨A, c, rfl, hr⟩ := hv.form
  obtain ⟨m, hm⟩ : ∃ m, M.length = m := ⟨_, rfl⟩
  rw [cst_len, hm] at hr HLe ⊢
  have HM := Lib.hid (And.intro hM (And.intro hr (And.intro hm hl)))
  have hm9 : m ≤ 1048576 := by omega
  have q0 : (0 : Int) ≤ n := by omega
  clear hLe hv hM hr hm hl
  go_enter Tryd.func50, Tryd.ntmps50
  go_wp2_with fail
  with_reducible refine HLe.out.mono ?_
  rintro e V0 ⟨g, Z, rfl, hZ, hb0⟩
  obtain ⟨V1, hmk, hI1, hb1⟩ := IntB.make V0 n hn
  obtain ⟨bw, hbw⟩ : ∃ x, V0.heap.size = x := ⟨_, rfl⟩
  rw [hbw] at hmk hI1
  have hf1 := FnB.of bw n V1 hI1
  have H0 := Lib.hid (And.intro hZ (And.intro hb0 (And.intro hf1 (And.intro hb1 hbw))))
  clear hZ hb0 hI1 hf1 hb1
  go_wp2_with fail
  clear hmk
  go_loopw [21] (fun kv wr => ∃ i : Nat, kv = .int .i64 i ∧ i ≤ m ∧ Below V0.heap.size V0 wr ∧ FnB bw n (fun x => (ctW M i x : Nat)) wr) (fun kv _ => m - (intOf kv).toNat)
  case atStart => exact ⟨0, rfl, Nat.zero_le _, H0.out.2.2.2.1, H0.out.2.2.1.same fun j _ => by unfold ctW; simp⟩
  case round =>
    obtain ⟨i, rfl, hi, hb, hf⟩ := hrel
    by_cases him : i < m
    · have s0 : (0 : Int) ≤ i := by omega
      have s1 : (i : Int) < m := by omega
      have hil : i < M.length := by rw [HM.out.2.2.1]; exact him
      obtain ⟨p, hp⟩ : ∃ p, M[i]? = some p := ⟨_, List.getElem?_eq_getElem hil⟩
      have hbw0 : Below w.heap.size w wr := H0.out.2.1.trans (hb.mono H0.out.2.1.size)
      obtain ⟨ad, X, rfl, hX, k0, k1⟩ := (HM.out.2.1.below hbw0).parts.2.2.2 i him _ (cst_get hp)
      dsimp only at k0 k1
      obtain ⟨W1, hW1⟩ : ∃ x, wr.alloc (.cells #[.int .i64 (p.1 : Nat), .int .i64 (p.2 : Nat)] 87) = x := ⟨_, rfl⟩
      have hbW : Below wr.heap.size wr W1 := by rw [← hW1]; exact (Below.refl _ _).alloc (Nat.le_refl _) _
      obtain ⟨gw, hgw⟩ : ∃ x, wr.heap.size = x := ⟨_, rfl⟩
      have hWb : W1.heap[gw]? = some (.cells #[.int .i64 (p.1 : Nat), .int .i64 (p.2 : Nat)] 87 (0, 0)) := by
        rw [← hW1, ← hgw]
        exact (MapKept.heap_alloc wr _).1
      have c1 := cell9_blk hWb 1 (v := .int .i64 (p.2 : Nat)) rfl
      have hf1 := hf.below hbW
      have hp2 : p.2 < n := (HM.out.1 p (List.mem_of_getElem? hp)).2
      have cw := hf1.load hp2
      have fw := hf1.frz p.2
      have hcl := ctW_le M i p.2
      have hst := hf1.set p.2 ((ctW M i p.2 : Nat) + 1 : Int)
      have hsb : Below V0.heap.size V0 (W1.setCell ⟨bw, p.2, none⟩ (.int .i64 ((ctW M i p.2 : Nat) + 1 : Int))) := (hb.trans (hbW.mono hb.size)).setCell (by show _ ≤ bw; rw [hbw]; exact Nat.le_refl _) _
      have HS := Lib.hid (And.intro (hst.same (f' := fun x => (ctW M (i + 1) x : Nat)) fun j _ => by
        show ((ctW M (i + 1) j : Nat) : Int) = _
        rw [ctW_succ hp]
        by_cases e : j = p.2
        · rw [if_pos e, if_pos e]; omega
        · rw [if_neg e, if_neg e]) hsb)
      rw [HM.out.2.2.1] at hcl
      obtain ⟨y, hy⟩ : ∃ y, ctW M i p.2 = y := ⟨_, rfl⟩
      rw [hy] at cw hcl HS
      obtain ⟨a2, ha2⟩ : ∃ y, p.2 = y := ⟨_, rfl⟩
      rw [ha2] at cw fw hp2 HS
      rw [ha2] at c1 k1 hW1
      have z0 : (0 : Int) ≤ a2 := by omega
      have z1 : (a2 : Int) < n := by omega
      clear hb hf hp hbW hWb hf1 hst hsb hil hbw0 hy ha2
      go_wp2_with fail
      exact ⟨⟨i + 1, by go_num, him, HS.out.2, HS.out.1⟩, by simp [intOf]; omega⟩
    · obtain rfl : m = i := by omega
      have hf2 : FnB bw n (wtI M []) wr := hf.same fun j _ => by
        unfold wtI
        rw [if_neg (by simp), ← ctW_all, HM.out.2.2.1]
      have hsz := H0.out.2.2.2.1.size
      have HB := Lib.hid (And.intro hb (And.intro hf2 hf2.lt))
      clear hb hf hf2 hsz
      go_wp2_with fail
      go_loopw [9, 10] (fun ov pv wr2 => ∃ (k : Nat) (D : List Nat) (pl : Nat) (A5 : Option Addr) (c5 : Nat), ov = .slice A5 k c5 ∧ pv = .int .i64 pl ∧ pl ≤ n ∧ D = ordK M n k ∧ D.length = k ∧ Orw M n D ∧ Below V0.heap.size V0 wr2 ∧ FnB bw n (wtI M D) wr2 ∧ wr2.ownsRow (bw + 1) 3 1 (.slice A5 k c5) k (D.map intC) ∧ (∀ x, x < pl → x ∉ D → cW M D x ≠ 0)) (fun ov pv _ => (n - slN ov) * (n + 1) + (n - (intOf pv).toNat))
      case atStart => exact ⟨0, [], 0, none, 0, rfl, rfl, Nat.zero_le _, rfl, rfl, ⟨List.nodup_nil, fun x hx => (by cases hx), fun b x hb => (by cases hb)⟩, HB.out.1, HB.out.2.1, ⟨rfl, .inl ⟨rfl, rfl⟩⟩, fun x hx => absurd hx (Nat.not_lt_zero x)⟩
      case round =>
        obtain ⟨k, D, pl, A5, c5, rfl, rfl, hpl, hD, hDl, hor, hb, hf, ho, hlo⟩ := hrel
        have hkn : k ≤ n := by rw [← hDl]; exact orw_len hor
        by_cases hpn : pl < n
        · have r0 : (0 : Int) ≤ pl := by omega
          have r1 : (pl : Int) < n := by omega
          have cp := hf.load hpn
          have fp := hf.frz pl
          by_cases hz : wtI M D pl = 0
          · rw [hz] at cp
            obtain ⟨haD, h0⟩ := wtI_eq.1 hz
            have hkl : k < n := by
              refine Nat.lt_of_le_of_ne hkn fun e => ?_
              have hc := Orw.acyc HM.out.1 hor (by omega)
              have h2 := List.Nodup.length_le_of_subset (l₁ := pl :: D) (l₂ := List.range n) (List.nodup_cons.2 ⟨haD, hor.nd⟩) (fun y hy => by
                rcases List.mem_cons.1 hy with rfl | hy
                · exact List.mem_range.2 hpn
                · exact List.mem_range.2 (hor.lt y hy))
              rw [List.length_cons, List.length_range] at h2
              omega
            have hnx := nxtT_wt hpn haD h0 hlo
            have hnxt : ordK M n (k + 1) = D ++ [pl] := by
              rw [hD] at hnx ⊢
              exact ordK_succ hnx
            have hor2 := hor.next hnx
            obtain ⟨V2, hV2⟩ : ∃ y, wr.setCell ⟨bw, pl, none⟩ (.int .i64 (-1)) = y := ⟨_, rfl⟩
            have hf2 : FnB bw n (wtJ M D pl 0) V2 := by
              rw [← hV2]
              exact (hf.set pl (-1)).same fun j _ => wtJ_zero j
            have hb2 : Below V0.heap.size V0 V2 := by rw [← hV2]; exact hb.setCell (by show _ ≤ bw; rw [hbw]; exact Nat.le_refl _) _
            have ho2 : V2.ownsRow (bw + 1) 3 1 (.slice A5 k c5) k (D.map intC) := by
              rw [← hV2]
              exact own_block9 ho fun j hj => Below.heap_setCell wr _ _ j (fun e => by have h1 := (ho.lt j hj).1; rw [e] at h1; exact absurd (Nat.lt_succ_self bw) (Nat.not_lt.2 h1))
            obtain ⟨vz, hvz⟩ := H0.out.1.get hpn
            obtain ⟨AE, cE, hve, hre⟩ := (H0.out.1.rowN hvz).form
            obtain ⟨q, hq⟩ : ∃ q, (eM M pl).length = q := ⟨_, rfl⟩
            have hq9 : q ≤ 1048576 := by rw [← hq]; have := eM_len M pl; have := HM.out.2.2.1; omega
            rw [hq] at hve hre
            subst hve
            have hV2s : bw + 1 ≤ V2.heap.size := hf2.lt
            have H2 := Lib.hid (And.intro hf2 (And.intro hb2 (And.intro ho2 (And.intro hvz (And.intro hre (And.intro hq hV2s))))))
            have HD := Lib.hid (And.intro hnxt (And.intro hor2 (And.intro haD (And.intro h0 (And.intro hDl (And.intro hor hlo))))))
            clear hf2 hb2 ho2 hvz hre hq hnxt hor2 haD h0 hDl hor hD hlo hnx hf ho hb hz
            go_wp2_with
              (at_builtin
               refine wpList_app rfl (.tmp 46) (.tmp 48) 48 rfl elN (bw + 1) (.slice A5 k c5) k (D.map intC) rfl (own_sameO H2.out.2.2.1 ((Below.refl V2.heap.size V2).alloc (Nat.le_refl _) _)) (some ⟨V2.heap.size, 0, none⟩) 1 1 [.int .i64 pl] rfl rfl (Rd.block (MapKept.heap_alloc V2 (.cells #[.int .i64 (pl : Nat)] 3)).1) (fun u hu => by rw [List.mem_singleton.1 hu]; rfl) (by unfold maxLen; omega) (by omega) (by rw [World.size_alloc]; have := H2.out.2.2.2.2.2.2; omega) ?_
               intro v' w'' ho hg hob
               have hal := (Below.refl V2.heap.size V2).alloc (Nat.le_refl _) (.cells #[.int .i64 (pl : Nat)] 3)
               have hb3 : Below V0.heap.size V0 w'' := Below.grown (H2.out.2.1.trans (hal.mono H2.out.2.1.size)) hg (by rw [World.size_alloc]; have := H2.out.2.1.size; omega) (fun j hj => by have := (H2.out.2.2.1.lt j hj).1; omega)
               have hf3 : FnB bw n (wtJ M D pl 0) w'' := (H2.out.1.below hal).grown hg (fun e => by have := (H2.out.2.2.1.lt bw e).1; omega)
               have cz := (H0.out.1.below hb3).load H2.out.2.2.2.1
               have HN2 := Lib.hid (And.intro ho (And.intro hb3 hf3))
               clear ho hg hob hal hb3 hf3)
            go_loopw [11, 57] (fun lv kv wr3 => ∃ (j ls : Nat), lv = .int .i64 ls ∧ kv = .int .i64 j ∧ j ≤ q ∧ ls ≤ pl + 1 ∧ VisK bw none w'' wr3 ∧ FnB bw n (wtJ M D pl j) wr3 ∧ (∀ x, x < ls → x ∉ D ++ [pl] → wtJ M D pl j x ≠ 0)) (fun _ kv _ => q - (intOf kv).toNat)
            case atStart => exact ⟨0, pl + 1, by go_num, rfl, Nat.zero_le _, Nat.le_refl _, VisK.refl _ _ _, HN2.out.2.2, fun x hx hxD => by
              rw [wtJ_zero, if_neg (fun e => hxD (by rw [e]; simp))]
              intro e
              obtain ⟨e1, e2⟩ := wtI_eq.1 e
              refine HD.out.2.2.2.2.2.2 x ?_ e1 e2
              refine Nat.lt_of_le_of_ne (by omega) fun e => hxD (by rw [e]; simp)⟩
            case round =>
              obtain ⟨j, ls, rfl, rfl, hj, hls, hvk, hfj, hlj⟩ := hrel
              have hbr : Below V0.heap.size V0 wr := HN2.out.2.1.trans (hvk.below (by rw [hbw]; exact Nat.le_refl _) (fun b hb => by cases hb) HN2.out.2.1.size)
              by_cases hjq : j < q
              · have hjE : j < (eM M pl).length := by rw [H2.out.2.2.2.2.2.1]; exact hjq
                have hat := (RowN.at9 (H2.out.2.2.2.2.1.below hbr)).2.2.2
                obtain ⟨ae, t, rfl, ht, ce⟩ := hat j hjq
                have htm : t ∈ eM M pl := List.mem_of_getElem? ht
                have htn : t < n := (HM.out.1 _ (eM_mem.1 htm)).2
                have htD := out_kid HD.out.2.2.2.2.2.1 HD.out.2.2.1 HD.out.2.2.2.1 htm
                have hsu := wtJ_succ (D := D) ht htD
                have ct := hfj.load htn
                have ft := hfj.frz t
                have hbd := wtJ_bound (M := M) (j := j) HD.out.2.2.1 t
                obtain ⟨y, hy⟩ : ∃ y, wtJ M D pl j t = y := ⟨_, rfl⟩
                rw [hy] at ct hbd hsu
                obtain ⟨W3, hW3⟩ : ∃ x, wr.setCell ⟨bw, t, none⟩ (.int .i64 (y - 1)) = x := ⟨_, rfl⟩
                have hf3 : FnB bw n (wtJ M D pl (j + 1)) W3 := by
                  rw [← hW3]
                  exact (hfj.set t (y - 1)).same fun x _ => hsu x
                have hvk3 : VisK bw none w'' W3 := by
                  rw [← hW3]
                  exact ⟨hvk.os, hvk.tape, hvk.output, by have := hvk.size; simpa [World.setCell] using this, fun b h1 h2 h3 => (Below.heap_setCell wr _ _ b (fun e => h2 e)).trans (hvk.block b h1 h2 h3)⟩
                have ct3 := hf3.load htn
                rw [hsu t, if_pos rfl] at ct3
                have hlen := HM.out.2.2.1
                have y0 : -1 ≤ y := hbd.1
                have y1 : y ≤ 1048576 := by have := hbd.2; omega
                have t0 : (0 : Int) ≤ t := by omega
                have t1 : (t : Int) < n := by omega
                have j0 : (0 : Int) ≤ j := by omega
                have j1 : (j : Int) < q := by omega
                have HJ := Lib.hid (And.intro hf3 (And.intro hvk3 (And.intro hlj hsu)))
                clear hf3 hvk3 hlj hsu hfj hvk hbr hbd hlen hat ht htm htD hjE hy
                by_cases hy1 : y = 1
                · subst hy1
                  rw [show (1 : Int) - 1 = 0 from rfl] at hW3 ct3
                  by_cases htl : t < ls
                  · have htl' : (t : Int) < ls := by omega
                    go_wp2_with fail
                    refine ⟨⟨j + 1, t, rfl, by go_num, hjq, by omega, HJ.out.2.1, HJ.out.1, fun x hx hxD => ?_⟩, by simp [intOf]; omega⟩
                    rw [HJ.out.2.2.2, if_neg (by omega)]
                    exact HJ.out.2.2.1 x (by omega) hxD
                  · have htl' : ¬ (t : Int) < ls := by omega
                    go_wp2_with fail
                    refine ⟨⟨j + 1, ls, rfl, by go_num, hjq, hls, HJ.out.2.1, HJ.out.1, fun x hx hxD => ?_⟩, by simp [intOf]; omega⟩
                    rw [HJ.out.2.2.2, if_neg (by omega)]
                    exact HJ.out.2.2.1 x hx hxD
                · have hy2 : ¬ (y - 1 = 0) := by omega
                  have hy3 : (y - 1 == 0) = false := beq_eq_false_iff_ne.2 hy2
                  go_wp2_with fail
                  refine ⟨⟨j + 1, ls, rfl, by go_num, hjq, hls, HJ.out.2.1, HJ.out.1, fun x hx hxD => ?_⟩, by simp [intOf]; omega⟩
                  rw [HJ.out.2.2.2]
                  by_cases e : x = t
                  · rw [if_pos e]; exact hy2
                  · rw [if_neg e]; exact HJ.out.2.2.1 x hx hxD
              · obtain rfl : q = j := by omega
                have hfq : FnB bw n (wtI M (D ++ [pl])) wr := hfj.same fun x _ => by rw [← H2.out.2.2.2.2.2.1, wtJ_all HD.out.2.2.1]
                have hlq : ∀ x, x < ls → x ∉ D ++ [pl] → cW M (D ++ [pl]) x ≠ 0 := fun x hx hxD e => by
                  refine hlj x hx hxD ?_
                  rw [← H2.out.2.2.2.2.2.1, wtJ_all HD.out.2.2.1]
                  exact wtI_eq.2 ⟨hxD, e⟩
                obtain ⟨A6, c6, hv6, _, _, _⟩ := owns_form HN2.out.1
                have ho6 : wr.ownsRow (bw + 1) 3 1 v' (k + 1) ((D ++ [pl]).map intC) := by
                  rw [List.map_append, List.map_singleton]
                  exact own_block9 HN2.out.1 fun i hi => hvk.block i (HN2.out.1.lt i hi).2 (fun e => by have := (HN2.out.1.lt i hi).1; omega) (fun e => by cases e)
                subst hv6
                have HQ := Lib.hid (And.intro hfq (And.intro hlq (And.intro ho6 hbr)))
                have j1 : ¬ (q : Int) < q := by omega
                have hmz := meas_le (l := ls) hkl hpn
                clear hfq hlq ho6 hbr hlj hfj hvk
                go_wp2_with fail
                refine ⟨⟨k + 1, D ++ [pl], ls, A6, c6, rfl, rfl, by omega, HD.out.1.symm, by rw [List.length_append, HD.out.2.2.2.2.1]; rfl, HD.out.2.1, HQ.out.2.2.2, HQ.out.1, HQ.out.2.2.1, HQ.out.2.1⟩, by simp only [slN]; simp [intOf]; exact hmz⟩
          · have hz2 : (wtI M D pl == 0) = false := beq_eq_false_iff_ne.2 hz
            have HZ := Lib.hid hz
            have HH := Lib.hid (And.intro hD (And.intro hDl (And.intro hor (And.intro hb (And.intro hf (And.intro ho hlo))))))
            obtain ⟨y, hy⟩ : ∃ y, wtI M D pl = y := ⟨_, rfl⟩
            rw [hy] at cp hz hz2
            clear hD hDl hor hb hf ho hlo hy
            go_wp2_with fail
            refine ⟨⟨k, D, pl + 1, A5, c5, rfl, by go_num, by omega, HH.out.1, HH.out.2.1, HH.out.2.2.1, HH.out.2.2.2.1, HH.out.2.2.2.2.1, HH.out.2.2.2.2.2.1, fun x hx hxD e => ?_⟩, by simp [intOf, slN]; omega⟩
            by_cases ex : x = pl
            · subst ex
              exact HZ.out (wtI_eq.2 ⟨hxD, e⟩)
            · exact HH.out.2.2.2.2.2.2 x (by omega) hxD e
        · obtain rfl : n = pl := by omega
          have r1 : ¬ (n : Int) < n := by omega
          have hfin := luE_of HM.out.1 hD hDl hor hkn (nxtT_no hlo)
          obtain ⟨A7, c7, hv7, h1, h2, h3, h4, _⟩ := owns_form ho
          have hrow : RowN wr (.slice A7 D.length c7) D := ⟨A7, c7, rfl, by omega, h2, h4⟩
          injection hv7 with hv7 _ hv7c
          subst hv7 hv7c
          have HF := Lib.hid (And.intro hfin (And.intro hrow (And.intro (H0.out.2.1.trans (hb.mono H0.out.2.1.size)) hDl)))
          clear hfin hrow h1 h2 h3 h4 hb hf ho hlo hD hDl hor
          go_wp2_with fail
          go_ret
          unfold LuE
          exact ⟨D, _, _, by rw [HF.out.2.2.2]; rfl, HF.out.2.1, HF.out.2.2.1, HF.out.1⟩
end Go.Proofs.YtkfnbapnkmlopaaDoor

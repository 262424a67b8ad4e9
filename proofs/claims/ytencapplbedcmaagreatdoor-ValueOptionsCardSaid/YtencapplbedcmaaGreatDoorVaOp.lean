/- Contract: value's Options. -/
import Derived.Test.YtencapplbedcmaaGreatDoorVaLs
import Derived.Test.YtencapplbedcmaaGreatDoorVaLt
import Derived.Test.YtencapplbedcmaaGreatDoorVaBit
namespace Go.Proofs.YtencapplbedcmaaGreatDoor
open Go.RowKit

theorem ret_boolO {a b : Bool} {w : World} (h : a = b) : Ending.returned (.bool a) = .returned (.bool b) ∧ w = w := ⟨by rw [h], rfl⟩
set_option maxRecDepth 100000 in
theorem options1_any (p L : Tx) (B : Nat) (w : World) (hp : p.length ≤ 1000000) (hB : Bx w B 9 (.string (str L))) :
    Calls Tryz.prog 39 #[.string (str p), .pointer (some ⟨B, 0, none⟩)] w fun e w' => e = .returned (.bool (oddP L p)) ∧ w = w' := by
  have kB := hB.cell
  rcases p with _ | ⟨c, _ | ⟨d, r⟩⟩
  · have hsz : (str ([] : Tx)).size = 0 := rfl
    have HO : Hid (true = oddP L []) := rfl
    generalize str ([] : Tx) = S at *
    generalize oddP L [] = R at *
    clear hB hp
    go_enter Tryz.func39, Tryz.ntmps39
    go_wp2_with fail
    go_ret
    exact ret_boolO HO.out
  · have hsz : (str [c]).size = 1 := rfl
    have HC := Lib.hid (fun W => has1_any L c _ rfl W)
    have HO : Hid ((!L.contains c) = oddP L [c]) := rfl
    generalize str [c] = S at *
    generalize oddP L [c] = R at *
    generalize str L = T at *
    clear hB hp
    cases hc : L.contains c <;> rw [hc] at HC HO
    · rw [Bool.not_false] at HO
      clear hc
      go_enter Tryz.func39, Tryz.ntmps39
      go_wp2_with fail
      refine (HC.out _).mono ?_
      rintro e w' ⟨rfl, rfl⟩
      go_wp2_with fail
      go_ret
      exact ret_boolO HO.out
    · rw [Bool.not_true] at HO
      clear hc
      go_enter Tryz.func39, Tryz.ntmps39
      go_wp2_with fail
      refine (HC.out _).mono ?_
      rintro e w' ⟨rfl, rfl⟩
      go_wp2_with fail
      go_ret
      exact ret_boolO HO.out
  · obtain ⟨m, hm⟩ : ∃ m, r.length = m := ⟨_, rfl⟩
    have hsz : (str (c :: d :: r)).size = m + 2 := by rw [str_size, List.length_cons, List.length_cons, hm]
    have hm2 : (m : Int) + 2 ≤ 1000000 := by rw [List.length_cons, List.length_cons, hm] at hp; omega
    have d1 : ¬ ((m : Int) + 2 = 1) := by omega
    have d2 : ((m : Int) + 2 == 1) = false := beq_eq_false_iff_ne.2 d1
    have HO : Hid (true = oddP L (c :: d :: r)) := rfl
    generalize str (c :: d :: r) = S at *
    generalize oddP L (c :: d :: r) = R at *
    clear hB hp hm
    go_enter Tryz.func39, Tryz.ntmps39
    go_wp2_with fail
    go_ret
    exact ret_boolO HO.out
/-- How Options ends. -/
def OpE (R : Nat × Nat) (w : World) (e : Ending) (w' : World) : Prop := e = .returned (.tuple #[.int .i64 (R.1 : Nat), errE R.2]) ∧ Below w.heap.size w w'
theorem opE_of {R : Nat × Nat} {w w' : World} {i : Int} {v : Nat} {ev : Value} {k : Nat} (hR : R = (v, k)) (hi : i = v) (he : errE k = ev) (hb : Below w.heap.size w w') : OpE R w (.returned (.tuple #[.int .i64 i, ev])) w' := by
  subst hR
  subst hi
  subst he
  exact ⟨rfl, hb⟩
theorem list_ok {s : Tx} {l : List Tx} (h : listT s = (l, 0)) : dupT l = false ∧ l ≠ [] ∧ l.length ≤ 4096 ∧ l = partsT s := by
  unfold listT at h
  split at h
  · cases h
  · split at h
    · rename_i _ hc
      exact absurd (Prod.mk.inj h).2 hc
    · rename_i _ hc
      obtain rfl : partsT s = l := (Prod.mk.inj h).1
      have hc0 : chkT (partsT s) = 0 := Decidable.not_not.1 hc
      unfold chkT at hc0
      split at hc0
      · cases hc0
      · split at hc0
        · cases hc0
        · rename_i hd
          split at hc0
          · cases hc0
          · rename_i hl
            refine ⟨by simpa using hd, ?_, by omega, rfl⟩
            rw [partsT]
            intro he
            exact cutAt_ne 44 s (List.map_eq_nil_iff.1 he)
theorem opt_of {s L : Tx} {l : List Tx} {k : Nat} (hm : mayT L = true) (hl : listT s = (l, k)) : optT s L = if k ≠ 0 then (0, k) else if l = [[110]] ∧ 110 ∉ L then (0, 0) else if l.any (oddP L) = true then (0, 3) else ((l.map (bitT L)).sum, 0) := by
  unfold optT
  rw [if_neg (by rw [hm]; simp), hl]
theorem entOptions : EntV 39 := enters_of Tryz.func39 (by kernel_rfl) rfl
set_option maxHeartbeats 2000000 in
set_option maxRecDepth 100000 in
theorem options_any (s L : Tx) (w : World) (hs : s.length ≤ 900000) (hL : L.length ≤ 1000000) : Calls Tryz.prog 21 #[.string (str s), .string (str L)] w (OpE (optT s L) w) := by
  obtain ⟨R, hR⟩ : ∃ R, optT s L = R := ⟨_, rfl⟩
  rw [hR]
  obtain ⟨w1, hw1⟩ : ∃ w1, w.alloc (.cells #[.string (str L)] 9) = w1 := ⟨_, rfl⟩
  have hb1 : Below w.heap.size w w1 := by rw [← hw1]; exact (Below.refl _ _).alloc (Nat.le_refl _) _
  have x1 : Bx w1 w.heap.size 9 (.string (str L)) := by rw [← hw1]; exact Bx.new w _ _
  have k1 := x1.cell
  have H1 := Lib.hid (And.intro hb1 x1)
  have HA := Lib.hid (fun W => areLetters_any L W hL)
  have HLs := Lib.hid (fun W => list_any s W hs)
  have HBk : Hid (∀ W, Below w1.heap.size w1 W → W.cell? ⟨w.heap.size, 0, none⟩ = some (.string (str L)) ∧ Bx W w.heap.size 9 (.string (str L))) := fun W hb => ⟨(x1.below hb).cell, x1.below hb⟩
  cases hm : mayT L <;> rw [hm] at HA
  · have HR : Hid (R = (0, 1)) := by unfold Hid; rw [← hR, optT, if_pos hm]
    generalize str L = T at *
    generalize str s = S at *
    clear hR hm hb1 x1 hs hL
    go_enter Tryz.func21, Tryz.ntmps21
    go_wp2_with fail
    refine (HA.out _).mono ?_
    rintro e w2 ⟨rfl, hb⟩
    have HB := Lib.hid (H1.out.1.trans (hb.mono H1.out.1.size))
    clear hb
    go_wp2_with fail
    go_ret2
    exact opE_of HR.out rfl rfl HB.out
  · rcases hl : listT s with ⟨l, k⟩
    rw [hl] at HLs
    by_cases hk : k = 0
    · subst hk
      obtain ⟨ok1, ok2, ok3, ok4⟩ := list_ok hl
      have hRR := opt_of hm hl
      rw [hR, if_neg (by simp)] at hRR
      obtain ⟨f1, f2, f3⟩ := may_facts hm
      obtain ⟨n, hn⟩ : ∃ n, l.length = n := ⟨_, rfl⟩
      have hpos : 0 < n := by rw [← hn]; exact List.length_pos_iff.2 ok2
      have hxl : ∀ x ∈ l, x.length ≤ 1000000 := fun x hx => by
        rw [ok4] at hx
        obtain ⟨p, hp, rfl⟩ := List.mem_map.1 hx
        have h1 := trw_len p
        have h2 := cut_le s p hp
        omega
      have HRR := Lib.hid hRR
      have HO := Lib.hid (And.intro ok1 (And.intro f3 (And.intro hn hxl)))
      have HIx := Lib.hid (fun c W => index1_any L c _ rfl W)
      have HCn := Lib.hid (fun W => has1_any L 110 _ rfl W)
      unfold LsE at HLs
      dsimp only at HLs
      rw [errE_zero] at HLs
      rw [hn] at ok3
      have n1 : (n : Int) ≤ 4096 := by omega
      have n0 : (0 : Int) < n := by omega
      have HO1 := Lib.hid (fun p B W hp hB => options1_any p L B W hp hB)
      generalize str L = T at *
      generalize str s = S at *
      clear hR hm hb1 x1 hs hL hl hRR ok1 ok2 ok4 f1 f2 f3 hxl
      go_enter Tryz.func21, Tryz.ntmps21
      go_wp2_with fail
      refine (HA.out _).mono ?_
      rintro e w2 ⟨rfl, hb⟩
      have HB := Lib.hid hb
      have k2 := (HBk.out _ hb).1
      clear hb
      go_wp2_with fail
      refine (HLs.out _).mono ?_
      rintro e w3 ⟨v, rfl, ⟨A, c, rfl, hc1, hc2, hrd⟩, hb⟩
      have HB3 := Lib.hid (HB.out.trans (hb.mono HB.out.size))
      have HV := Lib.hid (And.intro hc1 (And.intro hc2 hrd))
      have k3 := (HBk.out _ HB3.out).1
      clear hb hc1 hc2 hrd k2
      simp only [HO.out.2.2.1] at hn ⊢
      clear hn
      have hml : 0 < (l.map txC).length := by rw [List.length_map, HO.out.2.2.1]; exact hpos
      obtain ⟨ad, hA, c0⟩ := HV.out.2.2.at_ hml
      subst hA
      have ha0 : ad.add 0 = ad := by unfold Addr.add; rw [if_pos rfl]
      rw [ha0] at c0
      have HC0 : Hid (∀ x, l = [x] → w3.cell? ad = some (.string (str x))) := fun x hx => by
        subst hx
        exact c0
      clear c0 ha0 hml
      have hret : l = [[110]] ∧ 110 ∉ L ∨ ¬ (l = [[110]] ∧ 110 ∉ L) := Decidable.em _
      rcases hret with ⟨hl1, hl2⟩ | hgo
      · have hn1 : n = 1 := by rw [← HO.out.2.2.1, hl1]; rfl
        have HR : Hid (R = (0, 0)) := by unfold Hid; rw [HRR.out, if_pos ⟨hl1, hl2⟩]
        have hc0 : L.contains 110 = false := by
          cases hc : L.contains 110
          · rfl
          · exact absurd (List.contains_iff_mem.1 hc) hl2
        have c0 := HC0.out _ hl1
        subst hn1
        have e1 : str [110] = { data := #[110] } := rfl
        rw [e1] at c0 HCn
        rw [hc0] at HCn
        clear e1 hc0 hl1 hl2
        go_wp2_with fail
        refine (HCn.out _).mono ?_
        rintro e w' ⟨rfl, rfl⟩
        go_wp2_with fail
        go_ret2
        exact opE_of HR.out rfl errE_zero (H1.out.1.trans (HB3.out.mono H1.out.1.size))
      · rw [if_neg hgo] at HRR
        have hways : (n = 1 ∧ l = [[110]] ∧ L.contains 110 = true) ∨ (∃ x, n = 1 ∧ l = [x] ∧ x ≠ [110]) ∨ 1 < n := by
          by_cases h1 : 1 < n
          · exact .inr (.inr h1)
          · have hn1 : n = 1 := by omega
            have hl1 := HO.out.2.2.1
            rw [hn1] at hl1
            obtain ⟨x, hx⟩ := List.length_eq_one_iff.1 hl1
            by_cases hx0 : x = [110]
            · refine .inl ⟨hn1, by rw [hx, hx0], ?_⟩
              cases hc : L.contains 110
              · exact absurd ⟨by rw [hx, hx0], fun h => by rw [List.contains_iff_mem.2 h] at hc; cases hc⟩ hgo
              · rfl
            · exact .inr (.inl ⟨x, hn1, hx, hx0⟩)
        clear hgo
        rcases hways with ⟨hn1, hl1, hc1⟩ | ⟨x, hn1, hl1, hx0⟩ | hn1
        case' inr.inr.inl =>
          have c0 := HC0.out _ hl1
          have e1 : ((str x).toList == [110]) = false := by rw [str_toList]; exact beq_eq_false_iff_ne.2 hx0
          have e4 : ((n : Int) == 1) = true := by rw [hn1]; rfl
          generalize str x = X at *
          clear hl1 hx0 hn1
          go_wp2_with fail
        case' inr.inr.inr =>
          have e4 : ((n : Int) == 1) = false := beq_eq_false_iff_ne.2 (by omega)
          have e5 : ¬ ((n : Int) = 1) := by omega
          go_wp2_with fail
        case' inr.inl =>
          have c0 := HC0.out _ hl1
          have e1 : str [110] = { data := #[110] } := rfl
          rw [e1] at c0 HCn
          rw [hc1] at HCn
          have e4 : ((n : Int) == 1) = true := by rw [hn1]; rfl
          clear e1 hc1 hl1 hn1
          go_wp2_with fail
          refine (HCn.out _).mono ?_
          rintro e w' ⟨rfl, rfl⟩
          go_wp2_with fail
        all_goals
          have hBx := (HBk.out _ HB3.out).2
          have HF := Lib.hid (containsSf (some ad) n c l HO.out.2.2.1 39 #[.pointer (some ⟨w.heap.size, 0, none⟩)] w3 entOptions (fun i => oddP L (l.getD i [])) (fun _ W => Below w3.heap.size w3 W) (fun W => Below w3.heap.size w3 W) (by omega) (Below.refl _ _) (fun _ _ h => h) (fun W h => Rd.below HV.out.2.2 h) (fun k x W hk hW => by
            have hgd : l.getD k [] = x := by rw [List.getD_eq_getElem?_getD, hk]; rfl
            rw [hgd]
            refine (HO1.out x w.heap.size W (HO.out.2.2.2 x (List.mem_of_getElem? hk)) (hBx.below hW)).mono ?_
            rintro e W' ⟨rfl, rfl⟩
            exact ⟨rfl, hW, fun _ => hW⟩))
          have e6 : (List.range n).any (fun i => oddP L (l.getD i [])) = l.any (oddP L) := by rw [← HO.out.2.2.1]; exact range_any l (oddP L)
          rw [e6] at HF
          have HBB := Lib.hid hBx
          clear hBx e6
          cases hany : l.any (oddP L) <;> rw [hany] at HF HRR
          · have HG : Hid (∀ p ∈ l, isLet L p) := fun p hp => odd_no (by
              rw [List.any_eq_false] at hany
              simpa using hany p hp)
            have HR : Hid (R = ((l.map (bitT L)).sum, 0)) := by unfold Hid; rw [HRR.out, if_neg (by simp)]
            clear hany
            refine HF.out.mono ?_
            rintro e w4 ⟨rfl, hb⟩
            have HB4 := Lib.hid hb
            clear hb
            go_wp2_with fail
            go_loopw [9, 11, 45] (fun b _ i wr => ∃ k : Nat, i = .int .i64 k ∧ k ≤ n ∧ b = .int .i64 (((l.take k).map (bitT L)).sum : Nat) ∧ Below w3.heap.size w3 wr) (fun _ _ i _ => n - (intOf i).toNat)
            case atStart => exact ⟨0, rfl, Nat.zero_le _, rfl, HB4.out⟩
            case round =>
              obtain ⟨k, rfl, hk, rfl, hb⟩ := hrel
              have HK := Lib.hid hb
              rcases Nat.lt_or_ge k n with hlt | hge
              · have q0 : (0 : Int) ≤ k := by omega
                have q1 : (k : Int) < n := by omega
                have hkl : k < l.length := by rw [HO.out.2.2.1]; exact hlt
                have hkm : k < (l.map txC).length := by rw [List.length_map]; exact hkl
                obtain ⟨ad', hA, c0⟩ := (Rd.below HV.out.2.2 hb).at_ hkm
                injection hA with hA
                subst hA
                obtain ⟨c1, hc1, hx⟩ := HG.out l[k] (List.getElem_mem hkl)
                have htk : l.take (k + 1) = l.take k ++ [[c1]] := by rw [List.take_succ_eq_append_getElem hkl, hx]
                have hd : dupT (l.take k ++ [[c1]]) = false := by
                  cases hd : dupT (l.take k ++ [[c1]])
                  · rfl
                  · rw [← htk] at hd
                    have h1 := dup_take hd
                    rw [HO.out.1] at h1
                    cases h1
                have hgk : ∀ p ∈ l.take k, isLet L p := fun p hp => HG.out p (List.mem_of_mem_take hp)
                have hsn := sum_next hgk hc1 hd
                have hdk : dupT (l.take k) = false := by
                  rw [dup_snoc, Bool.or_eq_false_iff] at hd
                  exact hd.1
                have hsl := sum_lt HO.out.2.1 hgk hdk
                have hil := idx_lt hc1
                have hL16 := HO.out.2.1
                have hib := idx_byte L c1 hc1
                rw [List.getElem_map, hx] at c0
                change wr.cell? (ad.add k) = some (.string (str [c1])) at c0
                have hIX := Lib.hid (fun W => HIx.out c1 W)
                rw [hib] at hIX
                have kw := (HBB.out.below hb).cell
                obtain ⟨i, hi⟩ : ∃ i, idxT L c1 = i := ⟨_, rfl⟩
                obtain ⟨u, hu⟩ : ∃ u, ((l.take k).map (bitT L)).sum = u := ⟨_, rfl⟩
                rw [hi] at hsn hil hIX
                rw [hu] at hsn hsl ⊢
                have hp2 : 2 ^ i ≤ 32768 := Nat.le_trans (Nat.pow_le_pow_right (by decide) (show i ≤ 15 by omega)) (by decide)
                have hor := i64_or u (2 ^ i) (by omega) (by omega)
                rw [hsn, ← htk] at hor
                have hpc : ((2 ^ i : Nat) : Int) = (2 : Int) ^ i := by simp
                have hw2 : wrap64 ((2 : Int) ^ i) = ((2 ^ i : Nat) : Int) := by
                  rw [← hpc]
                  generalize 2 ^ i = P at hp2
                  exact IntWalk.wrap64_in _ (by omega)
                rw [← hw2] at hor
                have HOr := Lib.hid hor
                have q2 : (0 : Int) ≤ i := by omega
                have q3 : (i : Int) ≤ 15 := by omega
                generalize str [c1] = Y at *
                clear hkl hkm hc1 hx htk hd hgk hsn hdk hsl hil hL16 hib hi hb hor hu hp2 hpc hw2
                go_wp2_with fail
                refine (hIX.out _).mono ?_
                rintro e w' ⟨rfl, rfl⟩
                go_wp2_with fail
                exact ⟨⟨k + 1, by go_num, hlt, congrArg (Value.int .i64) HOr.out, HK.out⟩, by simp [intOf]; omega⟩
              · obtain rfl : k = n := by omega
                have q1 : ¬ ((k : Int) < k) := by omega
                have hfull : l.take k = l := List.take_of_length_le (by rw [HO.out.2.2.1]; exact Nat.le_refl _)
                rw [hfull]
                clear hfull hb
                go_wp2_with fail
                go_ret2
                exact opE_of HR.out rfl errE_zero (H1.out.1.trans ((HB3.out.trans (HK.out.mono HB3.out.size)).mono H1.out.1.size))
          · have HR : Hid (R = (0, 3)) := by unfold Hid; rw [HRR.out, if_pos rfl]
            clear hany
            refine HF.out.mono ?_
            rintro e w4 ⟨rfl, hb⟩
            have HB4 := Lib.hid hb
            clear hb
            go_wp2_with fail
            go_ret2
            exact opE_of HR.out rfl rfl (H1.out.1.trans ((HB3.out.trans (HB4.out.mono HB3.out.size)).mono H1.out.1.size))
    · have HR : Hid (R = (0, k)) := by unfold Hid; rw [← hR, opt_of hm hl, if_pos hk]
      have hE : errE k = errK k := if_neg hk
      have HE := Lib.hid hE
      unfold LsE at HLs
      dsimp only at HLs
      rw [hE] at HLs
      unfold errK at HLs
      generalize str L = T at *
      generalize str s = S at *
      clear hR hm hb1 x1 hs hL hl hk hE
      go_enter Tryz.func21, Tryz.ntmps21
      go_wp2_with fail
      refine (HA.out _).mono ?_
      rintro e w2 ⟨rfl, hb⟩
      have HB := Lib.hid (H1.out.1.trans (hb.mono H1.out.1.size))
      clear hb
      go_wp2_with fail
      refine (HLs.out _).mono ?_
      rintro e w3 ⟨v, rfl, _, hb⟩
      have HB3 := Lib.hid (HB.out.trans (hb.mono HB.out.size))
      clear hb
      go_wp2_with fail
      go_ret2
      exact opE_of HR.out rfl HE.out HB3.out
end Go.Proofs.YtencapplbedcmaaGreatDoor

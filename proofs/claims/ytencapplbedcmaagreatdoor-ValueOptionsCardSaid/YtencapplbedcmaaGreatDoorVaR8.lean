/- The document's Options. -/
import Derived.Test.YtencapplbedcmaaGreatDoorVaR7
import Derived.Test.YtencapplbedcmaaGreatDoorVaOp
namespace Go.Proofs.YtencapplbedcmaaGreatDoor
open Go.RowKit

/-- How the document's Options ends. -/
def RoE (R : Nat × Nat) (w : World) (e : Ending) (w' : World) : Prop := e = .returned (.tuple #[.int .i64 (R.1 : Nat), .int .i64 (R.2 : Nat)]) ∧ Below w.heap.size w w'
theorem roE_of {R : Nat × Nat} {w w' : World} {i j : Int} {v k : Nat} (hR : R = (v, k)) (hi : i = v) (hj : j = k) (hb : Below w.heap.size w w') : RoE R w (.returned (.tuple #[.int .i64 i, .int .i64 j])) w' := by
  subst hR
  subst hi
  subst hj
  exact ⟨rfl, hb⟩
theorem bit_le {L : Tx} {p : Tx} (hL : L.length ≤ 16) (h : isLet L p) : bitT L p ≤ 32768 := by
  obtain ⟨c, hc, rfl⟩ := h
  have := idx_lt hc
  show 2 ^ idxT L c ≤ 32768
  exact Nat.le_trans (Nat.pow_le_pow_right (by decide) (show idxT L c ≤ 15 by omega)) (by decide)
theorem sum_le {L : Tx} (hL : L.length ≤ 16) : ∀ q : List Tx, (∀ p ∈ q, isLet L p) → (q.map (bitT L)).sum ≤ q.length * 32768
  | [], _ => by simp
  | p :: q, h => by
    have ih := sum_le hL q fun p hp => h p (by simp [hp])
    have h1 := bit_le hL (h p (by simp))
    rw [List.map_cons, List.sum_cons, List.length_cons, Nat.succ_mul]
    omega
theorem odd_len {L : Tx} {p : Tx} (h : p.length ≠ 1) : oddP L p = true := by
  unfold oddP
  split
  · exact absurd rfl h
  · rfl
theorem odd_let {L : Tx} {c : UInt8} (h : c ∉ L) : oddP L [c] = true := by
  unfold oddP
  simp [h]
theorem odd_at {L : Tx} {l : List Tx} {k : Nat} (hk : k < l.length) (h : oddP L l[k] = true) : l.any (oddP L) = true := List.any_eq_true.2 ⟨l[k], List.getElem_mem hk, h⟩
theorem odd_let_no {L : Tx} {p : Tx} (h : isLet L p) : oddP L p = false := by
  obtain ⟨c, hc, rfl⟩ := h
  unfold oddP
  simp [hc]
set_option maxHeartbeats 4000000 in
set_option maxRecDepth 100000 in
theorem refOptions_any (s L : Tx) (w : World) (hs : s.length ≤ 900000) (hL : L.length ≤ 1000) : Calls Tryz.prog 22 #[.string (str s), .string (str L)] w (RoE (optT s L) w) := by
  obtain ⟨R, hR⟩ : ∃ R, optT s L = R := ⟨_, rfl⟩
  rw [hR]
  have HA := Lib.hid (refMay_any L w (by omega))
  have HLs := Lib.hid (fun W => refList_any s W hs)
  have HAt := Lib.hid (fun c W => refAt_any L c W (by omega))
  have HAn := Lib.hid (fun W => refAt_n L W (by omega))
  unfold RlE at HLs
  cases hm : mayT L <;> rw [hm] at HA
  · have HR : Hid (R = (0, 1)) := by unfold Hid; rw [← hR, optT, if_pos hm]
    generalize str L = T at *
    generalize str s = S at *
    clear hR hm hs hL
    go_enter Tryz.func22, Tryz.ntmps22
    go_wp2_with fail
    with_reducible refine HA.out.mono ?_
    rintro e w2 ⟨rfl, rfl⟩
    go_wp2_with fail
    go_ret2
    exact roE_of HR.out rfl rfl (Below.refl _ _)
  · rcases hl : listT s with ⟨l, k⟩
    rw [hl] at HLs
    dsimp only at HLs
    have hRR := opt_of hm hl
    rw [hR] at hRR
    by_cases hk : k = 0
    · subst hk
      obtain ⟨ok1, ok2, ok3, ok4⟩ := list_ok hl
      rw [if_neg (by simp)] at hRR
      obtain ⟨f1, f2, f3⟩ := may_facts hm
      obtain ⟨n, hn⟩ : ∃ n, l.length = n := ⟨_, rfl⟩
      have hpos : 0 < n := by rw [← hn]; exact List.length_pos_iff.2 ok2
      have hxl : ∀ x ∈ l, x.length ≤ 1000000 := fun x hx => by
        rw [ok4] at hx
        obtain ⟨p, hp, rfl⟩ := List.mem_map.1 hx
        have h1 := trw_len p
        have h2 := cut_le s p hp
        omega
      have HRR := Lib.hid hRR
      have HO := Lib.hid (And.intro ok1 (And.intro f3 (And.intro hn hxl)))
      rw [hn] at ok3
      have n1 : (n : Int) ≤ 4096 := by omega
      have n0 : (0 : Int) < n := by omega
      generalize str L = T at *
      generalize str s = S at *
      clear hR hm hs hL hl hRR ok1 ok2 ok4 f1 f2 f3 hxl
      go_enter Tryz.func22, Tryz.ntmps22
      go_wp2_with fail
      with_reducible refine HA.out.mono ?_
      rintro e w2 ⟨rfl, rfl⟩
      go_wp2_with fail
      with_reducible refine (HLs.out _).mono ?_
      rintro e w3 ⟨v, rfl, ⟨A, c, rfl, hc1, hc2, hrd⟩, hb⟩
      have HB3 := Lib.hid hb
      have HV := Lib.hid (And.intro hc1 (And.intro hc2 hrd))
      clear hb hc1 hc2 hrd
      simp only [HO.out.2.2.1] at hn ⊢
      clear hn
      have hml : 0 < (l.map txC).length := by rw [List.length_map, HO.out.2.2.1]; exact hpos
      obtain ⟨ad, hA, c0⟩ := HV.out.2.2.at_ hml
      subst hA
      have ha0 : ad.add 0 = ad := by unfold Addr.add; rw [if_pos rfl]
      rw [ha0] at c0
      have HC0 : Hid (∀ x, l = [x] → w3.cell? ad = some (.string (str x))) := fun x hx => by
        subst hx
        exact c0
      clear c0 ha0 hml
      have hret : l = [[110]] ∧ 110 ∉ L ∨ ¬ (l = [[110]] ∧ 110 ∉ L) := Decidable.em _
      rcases hret with ⟨hl1, hl2⟩ | hgo
      · have hn1 : n = 1 := by rw [← HO.out.2.2.1, hl1]; rfl
        have HR : Hid (R = (0, 0)) := by unfold Hid; rw [HRR.out, if_pos ⟨hl1, hl2⟩]
        rw [atI_no hl2] at HAn
        have c0 := HC0.out _ hl1
        subst hn1
        have e1 : str [110] = { data := #[110] } := rfl
        rw [e1] at c0
        clear e1 hl1 hl2
        go_wp2_with fail
        with_reducible refine (HAn.out _).mono ?_
        rintro e w' ⟨rfl, rfl⟩
        go_wp2_with fail
        go_ret2
        exact roE_of HR.out rfl rfl HB3.out
      · rw [if_neg hgo] at HRR
        have hways : (n = 1 ∧ l = [[110]] ∧ 110 ∈ L) ∨ (∃ x, n = 1 ∧ l = [x] ∧ x ≠ [110]) ∨ 1 < n := by
          by_cases h1 : 1 < n
          · exact .inr (.inr h1)
          · have hn1 : n = 1 := by omega
            have hl1 := HO.out.2.2.1
            rw [hn1] at hl1
            obtain ⟨x, hx⟩ := List.length_eq_one_iff.1 hl1
            by_cases hx0 : x = [110]
            · refine .inl ⟨hn1, by rw [hx, hx0], Decidable.byContradiction fun h => hgo ⟨by rw [hx, hx0], h⟩⟩
            · exact .inr (.inl ⟨x, hn1, hx, hx0⟩)
        clear hgo
        rcases hways with ⟨hn1, hl1, hc1⟩ | ⟨x, hn1, hl1, hx0⟩ | hn1
        case' inr.inr.inl =>
          have c0 := HC0.out _ hl1
          have e1 : ((str x).toList == [110]) = false := by rw [str_toList]; exact beq_eq_false_iff_ne.2 hx0
          have e4 : ((n : Int) == 1) = true := by rw [hn1]; rfl
          generalize str x = X at *
          clear hl1 hx0 hn1
          go_wp2_with fail
        case' inr.inr.inr =>
          have e4 : ((n : Int) == 1) = false := beq_eq_false_iff_ne.2 (by omega)
          have e5 : ¬ ((n : Int) = 1) := by omega
          go_wp2_with fail
        case' inr.inl =>
          have c0 := HC0.out _ hl1
          have e1 : str [110] = { data := #[110] } := rfl
          rw [e1] at c0
          have d6 := atI_yes hc1
          have e4 : ((n : Int) == 1) = true := by rw [hn1]; rfl
          generalize atI L 110 = I at HAn d6
          clear e1 hc1 hl1 hn1
          go_wp2_with fail
          with_reducible refine (HAn.out _).mono ?_
          rintro e w' ⟨rfl, rfl⟩
          go_wp2_with fail
        all_goals
          go_loopw [8, 9] (fun b i wr => ∃ k : Nat, i = .int .i64 k ∧ k ≤ n ∧ b = .int .i64 (((l.take k).map (bitT L)).sum : Nat) ∧ (∀ p ∈ l.take k, isLet L p) ∧ wr = w3) (fun _ i _ => n - (intOf i).toNat)
          case atStart => exact ⟨0, rfl, Nat.zero_le _, rfl, fun p hp => by simp at hp, rfl⟩
          case round =>
            obtain ⟨k, rfl, hk, rfl, hlet, rfl⟩ := hrel
            have HLet := Lib.hid hlet
            have hsum := sum_le HO.out.2.1 _ hlet
            have hlt2 : (l.take k).length * 32768 ≤ 4096 * 32768 := Nat.mul_le_mul (by rw [List.length_take]; omega) (Nat.le_refl _)
            obtain ⟨u, hu⟩ : ∃ u, ((l.take k).map (bitT L)).sum = u := ⟨_, rfl⟩
            rw [hu] at hsum ⊢
            have hu2 : u ≤ 4096 * 32768 := by omega
            have HU := Lib.hid hu
            clear hlet hsum hlt2 hu
            rcases Nat.lt_or_ge k n with hlt | hge
            · have q0 : (0 : Int) ≤ k := by omega
              have q1 : (k : Int) < n := by omega
              have hkl : k < l.length := by rw [HO.out.2.2.1]; exact hlt
              have hkm : k < (l.map txC).length := by rw [List.length_map]; exact hkl
              obtain ⟨ad', hA, c0⟩ := HV.out.2.2.at_ hkm
              injection hA with hA
              subst hA
              rw [List.getElem_map] at c0
              change wr.cell? (ad.add k) = some (.string (str l[k])) at c0
              by_cases h1 : l[k].length = 1
              · obtain ⟨x, hx⟩ := List.length_eq_one_iff.1 h1
                rw [hx] at c0
                have HAx := Lib.hid (fun W => HAt.out x W)
                obtain ⟨X, hX⟩ : ∃ X, str [x] = X := ⟨_, rfl⟩
                have hXs : X.size = 1 := by rw [← hX]; rfl
                have h0 : 0 < X.size := by rw [hXs]; decide
                have hat : X[0]'h0 = x := by subst hX; rfl
                rw [hX] at c0
                by_cases hm : x ∈ L
                · have hlx : isLet L [x] := ⟨x, hm, rfl⟩
                  have hpl := idx_lt hm
                  have hp16 := HO.out.2.1
                  have e9 : atI L x = (idxT L x : Int) := if_pos hm
                  rw [e9] at HAx
                  have HNx : Hid (((l.take (k + 1)).map (bitT L)).sum = u + 2 ^ idxT L x ∧ ∀ p ∈ l.take (k + 1), isLet L p) := by
                    unfold Hid
                    rw [List.take_succ_eq_append_getElem hkl, hx, List.map_append, List.sum_append, HU.out]
                    refine ⟨by simp [bitT], fun p hp => ?_⟩
                    rcases List.mem_append.1 hp with h | h
                    · exact HLet.out p h
                    · rw [List.mem_singleton.1 h]; exact hlx
                  obtain ⟨p, hp⟩ : ∃ p, idxT L x = p := ⟨_, rfl⟩
                  rw [hp] at hpl HAx HNx
                  have hp15 : p ≤ 15 := by omega
                  have hp0 : ¬ ((p : Int) < 0) := by omega
                  clear hx h1 hm hX hkl hkm hlx hpl hp16 e9 hp
                  go_wp2_with fail
                  with_reducible refine (HAx.out _).mono ?_
                  rintro e w' ⟨rfl, rfl⟩
                  go_wp2_with fail
                  go_loopw [10, 11] (fun kv jv wi => ∃ j : Nat, jv = .int .i64 j ∧ j ≤ p ∧ kv = .int .i64 ((2 ^ j : Nat) : Int) ∧ wi = wr) (fun _ jv _ => p - (intOf jv).toNat)
                  case atStart => exact ⟨0, rfl, Nat.zero_le _, rfl, rfl⟩
                  case round =>
                    obtain ⟨j, rfl, hj, rfl, rfl⟩ := hrel
                    have hp2 : 2 ^ j ≤ 32768 := Nat.le_trans (Nat.pow_le_pow_right (by decide) (show j ≤ 15 by omega)) (by decide)
                    have hpn : 2 ^ (j + 1) = 2 * 2 ^ j := by rw [Nat.pow_succ]; omega
                    have HPn := Lib.hid hpn
                    clear hpn
                    rcases Nat.lt_or_ge j p with hjl | hjg
                    · have q5 : (j : Int) < p := by omega
                      generalize 2 ^ j = P at *
                      go_wp2_with fail
                      with_reducible refine (HAx.out _).mono ?_
                      rintro e w' ⟨rfl, rfl⟩
                      go_wp2_with fail
                      exact ⟨⟨j + 1, by go_num, hjl, by rw [HPn.out]; go_num, trivial⟩, by simp [intOf]; omega⟩
                    · obtain rfl : j = p := by omega
                      have q5 : ¬ ((j : Int) < j) := by omega
                      clear HPn
                      generalize 2 ^ j = P at *
                      go_wp2_with fail
                      with_reducible refine (HAx.out _).mono ?_
                      rintro e w' ⟨rfl, rfl⟩
                      go_wp2_with fail
                      first
                        | exact ⟨⟨k + 1, by go_num, hlt, by rw [HNx.out.1]; go_num, HNx.out.2, trivial⟩, by simp [intOf]; omega⟩
                        | (refine ⟨⟨_, _, _, _, _, _, _, _, _, _, _, _, _, _, _, _, _, _, _, _, _, _, _, _, _, _, _, _, _, _, _, _, _, _, _, _, _, _, _, _, _, _, _, _, ?rel, rfl⟩, ?mea⟩
                           case rel => exact ⟨k + 1, by go_num, hlt, by rw [HNx.out.1]; go_num, HNx.out.2, by trivial⟩
                           case mea => simp [intOf]; omega)
                · have HR : Hid (R = (0, 3)) := by unfold Hid; rw [HRR.out, if_pos (odd_at hkl (by rw [hx]; exact odd_let hm))]
                  rw [atI_no hm] at HAx
                  clear hx h1 hm hX hkl hkm
                  go_wp2_with fail
                  with_reducible refine (HAx.out _).mono ?_
                  rintro e w' ⟨rfl, rfl⟩
                  go_wp2_with fail
                  go_ret2
                  exact roE_of HR.out rfl rfl HB3.out
              · have HR : Hid (R = (0, 3)) := by unfold Hid; rw [HRR.out, if_pos (odd_at hkl (odd_len h1))]
                have hss : (str l[k]).size = l[k].length := str_size _
                have hxl := HO.out.2.2.2 l[k] (List.getElem_mem hkl)
                generalize str l[k] = X at *
                generalize l[k].length = m at *
                have e6 : ((m : Int) == 1) = false := beq_eq_false_iff_ne.2 (by omega)
                clear hkl hkm
                go_wp2_with fail
                go_ret2
                exact roE_of HR.out rfl rfl HB3.out
            · obtain rfl : k = n := by omega
              have q1 : ¬ ((k : Int) < k) := by omega
              have hfull : l.take k = l := List.take_of_length_le (by rw [HO.out.2.2.1]; exact Nat.le_refl _)
              have HR : Hid (R = (u, 0)) := by
                unfold Hid
                rw [HRR.out, ← HU.out, hfull]
                have hl2 := HLet.out
                rw [hfull] at hl2
                rw [if_neg]
                intro h
                obtain ⟨p, hp, h2⟩ := List.any_eq_true.1 h
                rw [odd_let_no (hl2 p hp)] at h2
                cases h2
              clear hfull hge
              go_wp2_with fail
              go_ret2
              exact roE_of HR.out rfl rfl HB3.out
    · rw [if_pos hk] at hRR
      have HR := Lib.hid hRR
      have e1 : ((k : Int) == 0) = false := beq_eq_false_iff_ne.2 (by omega)
      have e2 : ¬ ((k : Int) = 0) := by omega
      generalize str L = T at *
      generalize str s = S at *
      clear hR hm hs hL hl hRR hk
      go_enter Tryz.func22, Tryz.ntmps22
      go_wp2_with fail
      with_reducible refine HA.out.mono ?_
      rintro e w2 ⟨rfl, rfl⟩
      go_wp2_with fail
      with_reducible refine (HLs.out _).mono ?_
      rintro e w3 ⟨v, rfl, _, hb⟩
      have HB3 := Lib.hid hb
      clear hb
      go_wp2_with fail
      go_ret2
      exact roE_of HR.out rfl rfl HB3.out
end Go.Proofs.YtencapplbedcmaaGreatDoor

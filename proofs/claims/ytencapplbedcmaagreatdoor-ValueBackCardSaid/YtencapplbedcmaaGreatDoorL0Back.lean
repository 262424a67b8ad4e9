/- ValueBack's walk. -/
import Derived.Test.YtencapplbedcmaaGreatDoorVaTx
import Derived.Test.YtencapplbedcmaaGreatDoorVaLr
namespace Go.Proofs.YtencapplbedcmaaGreatDoor
open Go.RowKit

theorem wide_snoc : ∀ (l : List Tx) (x : Tx), l ≠ [] → wideT (l ++ [x]) = wideT l ++ [32, 44, 9] ++ x
  | [], _, h => absurd rfl h
  | [p], x, _ => rfl
  | p :: q :: r, x, _ => by
    have ih := wide_snoc (q :: r) x (by simp)
    show p ++ [32, 44, 9] ++ wideT ((q :: r) ++ [x]) = _
    rw [ih, wideT]
    simp only [List.append_assoc]
theorem wide_le (k : Nat) : ∀ l : List Tx, (∀ x ∈ l, x.length ≤ k) → (wideT l).length ≤ l.length * (k + 3)
  | [], _ => by simp [wideT]
  | [p], h => by
    have := h p (by simp)
    simp only [wideT, List.length_singleton]
    omega
  | p :: q :: r, h => by
    have ih := wide_le k (q :: r) fun x hx => h x (by simp [hx])
    have h1 := h p (by simp)
    have e : (p :: q :: r).length = (q :: r).length + 1 := rfl
    rw [wideT, e, Nat.succ_mul]
    simp only [List.length_append, List.length_cons, List.length_nil] at ih ⊢
    omega
theorem let_no {b : Int} {L t : Tx} {k : Nat} (h : letT b L = (t, k)) (hk : k ≠ 0) : t = [] ∧ k = 1 := by
  unfold letT at h
  split at h
  · cases h; exact ⟨rfl, rfl⟩
  · split at h
    · cases h; exact ⟨rfl, rfl⟩
    · split at h
      · cases h; exact absurd rfl hk
      · cases h; exact absurd rfl hk
theorem let_len {b : Int} {L t : Tx} {k : Nat} (h : letT b L = (t, k)) : t.length ≤ L.length * 2 + 1 := by
  unfold letT at h
  split at h
  · cases h; simp
  · split at h
    · cases h; simp
    · split at h
      · cases h; simp
      · cases h
        have h1 := join_le 1 (chosen b.toNat L) (fun x hx => by obtain ⟨c, _, rfl⟩ := chosen_mem L _ x hx; exact Nat.le_refl _)
        have h2 := chosen_len L b.toNat
        have h3 := Nat.mul_le_mul_right 2 h2
        omega
theorem str_wide (T X : ByteArray) (t x : Tx) (hT : str t = T) (hX : str x = X) : T ++ { data := #[32, 44, 9] } ++ X = str (t ++ [32, 44, 9] ++ x) := by
  subst hT
  subst hX
  rw [← str_append, ← str_append]
  rfl
theorem str_ends (T : ByteArray) (t : Tx) (hT : str t = T) : { data := #[32] } ++ T ++ { data := #[32] } = str ([32] ++ t ++ [32]) := by
  subst hT
  rw [← str_append, ← str_append]
  rfl
set_option maxHeartbeats 4000000 in
set_option maxRecDepth 100000 in
theorem valueBack_any (A : Option Addr) (c : Nat) (L : List Tx) (s : ByteArray) (b : Int) (w : World) (hg : ErrT w) (he : EsV w) (hr : RdS w A L) (hc : L.length ≤ c) (hcm : c ≤ maxLen) (hk : ∀ x ∈ L, x.length ≤ maxLen) (hs : s.size ≤ maxLen) (hb : -9223372036854775808 ≤ b ∧ b ≤ 9223372036854775807) :
    Calls Tryz.prog 6 #[.slice A L.length c, .string s, .int .i64 b] w fun e w' => e = .returned (.bool true) ∧ Below w.heap.size w w' := by
  obtain ⟨q, hq⟩ : ∃ q, s.size = q := ⟨_, rfl⟩
  obtain ⟨n, hn⟩ : ∃ n, L.length = n := ⟨_, rfl⟩
  rw [hn] at hc ⊢
  have hq63 : q ≤ 9223372036854775807 := by rw [← hq]; exact hs
  have hn63 : n ≤ 9223372036854775807 := Nat.le_trans hc hcm
  have HSu := Lib.hid (fun W h => sure_any W h)
  have HEs : Hid (∀ W, Below w.heap.size w W → ErrT W ∧ EsV W) := fun W hb => ⟨hg.below hb, he.below hb⟩
  have HR := Lib.hid (And.intro hr (And.intro hn (And.intro hk hc)))
  by_cases hbig : 60 < n ∨ 100 < q
  · have HSe := Lib.hid (HSu.out w (HEs.out w (Below.refl _ _)).2)
    clear hg he hr hc hcm hk hn hs hb
    by_cases h5 : 60 < n
    case' pos => have d1 : (60 : Int) < n := by omega
    case' neg =>
      have d1 : ¬ (60 : Int) < n := by omega
      have d2 : (100 : Int) < q := by omega
    all_goals
      clear hbig h5
      go_enter Tryz.func6, Tryz.ntmps6
      go_wp2_with fail
      with_reducible refine HSe.out.mono ?_
      rintro e w2 ⟨rfl, hb⟩
      have HB := Lib.hid hb
      clear hb
      go_wp2_with fail
      go_ret
      exact ret_trueV HB.out
  · have hq5 : q ≤ 100 := by omega
    have hn1 : n ≤ 60 := by omega
    obtain ⟨l, hl⟩ : ∃ l : Tx, l = s.data.toList := ⟨_, rfl⟩
    have hsl : s = str l := by rw [hl]; exact (str_of s).symm
    have hln : l.length ≤ 100 := by rw [hl, ← Lib.size_eq, hq]; exact hq5
    rcases hlt2 : letT b l with ⟨t2, k2⟩
    have HLt := Lib.hid (fun W => letters_any b l W (by omega) hb.1 hb.2)
    rw [hlt2, ← hsl] at HLt
    unfold JoE at HLt
    have HN2 := Lib.hid (fun W h => num_E k2 W h)
    have hno := fun hk => let_no hlt2 hk
    have hto : t2.length ≤ 900000 := by
      have := let_len hlt2
      omega
    have HOp := Lib.hid (fun W => options_any t2 l W hto (by omega))
    rw [← hsl] at HOp
    unfold OpE at HOp
    have HL0 : Hid (k2 = 0 → optT t2 l = (b.toNat, 0) ∧ 0 ≤ b) := fun h0 => by subst h0; exact opt_let hlt2
    have HNo := Lib.hid hno
    have d1 : ¬ (60 : Int) < n := by omega
    have d2 : ¬ (100 : Int) < q := by omega
    clear hg he hr hc hcm hk hn hs hbig hl hsl hln hb hlt2 hno hto
    go_enter Tryz.func6, Tryz.ntmps6
    go_wp2_with fail
    go_loopw [7] (fun v W => ∃ i : Nat, v = .int .i64 i ∧ i ≤ n ∧ Below w.heap.size w W ∧ ∀ x ∈ L.take i, x.length ≤ 100) (fun v _ => n - (intOf v).toNat)
    case atStart => exact ⟨0, rfl, Nat.zero_le _, Below.refl _ _, fun x hx => by simp at hx⟩
    case round =>
      obtain ⟨i, rfl, hi, hb, hsm⟩ := hrel
      have HB := Lib.hid (And.intro hb hsm)
      clear hb hsm
      rcases Nat.lt_or_ge i n with hlt | hge
      · have q1 : (i : Int) < n := by omega
        have hil : i < (L.map txC).length := by rw [List.length_map, HR.out.2.1]; exact hlt
        have hiL : i < L.length := by rw [HR.out.2.1]; exact hlt
        obtain ⟨ad, rfl, k0⟩ := (Rd.below HR.out.1 HB.out.1).at_ hil
        have hx : (L.map txC)[i] = .string (str L[i]) := by rw [List.getElem_map]; rfl
        rw [hx] at k0
        have hss : (str L[i]).size = L[i].length := str_size _
        have hlm := HR.out.2.2.1 L[i] (List.getElem_mem _)
        have HT : Hid (L[i].length ≤ 100 → ∀ x ∈ L.take (i + 1), x.length ≤ 100) := fun h x hx => by
          rw [List.take_succ_eq_append_getElem hiL] at hx
          rcases List.mem_append.1 hx with h1 | h1
          · exact HB.out.2 x h1
          · rw [List.mem_singleton.1 h1]; exact h
        generalize str L[i] = S at *
        generalize L[i].length = m at *
        have hm63 : m ≤ 9223372036854775807 := hlm
        clear hx hil hiL hlm
        by_cases h2 : 100 < m
        · have d3 : (100 : Int) < m := by omega
          clear h2
          go_wp2_with fail
          with_reducible refine (HSu.out _ (HEs.out _ HB.out.1).2).mono ?_
          rintro e w2 ⟨rfl, hb⟩
          have HB2 := Lib.hid (HB.out.1.trans (hb.mono HB.out.1.size))
          clear hb
          go_wp2_with fail
          go_ret
          exact ret_trueV HB2.out
        · have d3 : ¬ (100 : Int) < m := by omega
          have HT2 := Lib.hid (HT.out (by omega))
          clear h2 HT
          go_wp2_with fail
          exact ⟨⟨i + 1, by go_num, hlt, HB.out.1, HT2.out⟩, by simp [intOf]; omega⟩
      · obtain rfl : i = n := by omega
        have q1 : ¬ ((i : Int) < i) := by omega
        have hall : ∀ x ∈ L, x.length ≤ 100 := by
          have := HB.out.2
          rwa [List.take_of_length_le (by rw [HR.out.2.1]; exact Nat.le_refl _)] at this
        have hjl : (joinC L).length ≤ 900000 := by
          have h1 := join_le 100 L hall
          rw [HR.out.2.1] at h1
          have : i * (100 + 1) ≤ 60 * 101 := Nat.mul_le_mul hn1 (Nat.le_refl _)
          omega
        rcases hjt : joinedT L with ⟨t1, k1⟩
        have HJ := Lib.hid (fun W (h : RdS W A L) => joined_any A i c L W HR.out.2.1 (by omega) HR.out.2.2.2 (fun x hx => by have := hall x hx; omega) (by omega) h)
        rw [hjt] at HJ
        unfold JoE at HJ
        have HAll := Lib.hid hall
        have hwl := wide_le 100 L hall
        rw [HR.out.2.1] at hwl
        have hwl2 : i * (100 + 3) ≤ 60 * 103 := Nat.mul_le_mul hn1 (Nat.le_refl _)
        have hrd3 : RdS wr A L := Rd.below HR.out.1 HB.out.1
        by_cases hk1 : k1 = 0
        case' pos =>
          subst hk1
          obtain ⟨_, _, _, ht1⟩ := joined_facts hjt
          have HLs := Lib.hid (fun W => list_any t1 W (by rw [ht1]; exact hjl))
          have HLw := Lib.hid (fun W => list_any ([32] ++ wideT L ++ [32]) W (by simp only [List.length_append, List.length_cons, List.length_nil]; omega))
          rw [list_joined hjt] at HLs
          rw [list_wide hjt] at HLw
          unfold LsE at HLs HLw
          dsimp only at HLs HLw
          rw [errE_zero] at HLs HLw HJ
          clear hjl hall hge hi hjt ht1
          generalize str t1 = SJ at *
          go_wp2_with fail
          with_reducible refine (HJ.out _ hrd3).mono ?_
          rintro e w2 ⟨rfl, hb⟩
          have HB2 := Lib.hid (HB.out.1.trans (hb.mono HB.out.1.size))
          clear hb hrd3
          go_wp2_with fail
          with_reducible refine (HLs.out _).mono ?_
          rintro e w3 ⟨v3, rfl, hrow, hb⟩
          have HB3 := Lib.hid (HB2.out.trans (hb.mono HB2.out.size))
          obtain ⟨A3, c3, hv3, _, _, hr3⟩ := hrow
          rw [HR.out.2.1] at hv3
          subst hv3
          have HR3 := Lib.hid hr3
          clear hb hr3
          go_wp2_with fail
          go_loopw [12, 13] (fun t v W => ∃ (j : Nat) (T : ByteArray), v = .int .i64 j ∧ j ≤ i ∧ t = .string T ∧ str (wideT (L.take j)) = T ∧ Below w3.heap.size w3 W) (fun _ v _ => i - (intOf v).toNat)
          case atStart => exact ⟨0, _, rfl, Nat.zero_le _, rfl, rfl, Below.refl _ _⟩
          case' round =>
            obtain ⟨j, T, rfl, hj, rfl, hT, hb⟩ := hrel
            have HT := Lib.hid (And.intro hT hb)
            have hTs : T.size = (wideT (L.take j)).length := by rw [← hT, str_size]
            have hTl := wide_le 100 (L.take j) (fun x hx => HAll.out x (List.mem_of_mem_take hx))
            have hTl2 : (L.take j).length * (100 + 3) ≤ 60 * 103 := Nat.mul_le_mul (by rw [List.length_take]; omega) (Nat.le_refl _)
            have hTm : T.size ≤ 60 * 103 := by omega
            clear hb hT hTs hTl hTl2
            rcases Nat.lt_or_ge j i with hlt | hge
            · have q1 : (j : Int) < i := by omega
              have hil : j < (L.map txC).length := by rw [List.length_map, HR.out.2.1]; exact hlt
              have hiL : j < L.length := by rw [HR.out.2.1]; exact hlt
              obtain ⟨ad, rfl, k0⟩ := (Rd.below HR.out.1 (HB3.out.trans (HT.out.2.mono HB3.out.size))).at_ hil
              have hx : (L.map txC)[j] = .string (str L[j]) := by rw [List.getElem_map]; rfl
              rw [hx] at k0
              have hss : (str L[j]).size = L[j].length := str_size _
              have hlm := HAll.out L[j] (List.getElem_mem _)
              rw [← hss] at hlm
              have htk : L.take (j + 1) = L.take j ++ [L[j]] := List.take_succ_eq_append_getElem hiL
              have HX := Lib.hid htk
              obtain ⟨X, hX⟩ : ∃ X, str L[j] = X := ⟨_, rfl⟩
              have HXX := Lib.hid hX
              rw [hX] at k0 hlm
              clear hx hil hss htk hX q1
              by_cases hj0 : j = 0
              · subst hj0
                obtain rfl : T = { data := #[] } := HT.out.1.symm
                have q1 : (0 : Int) < i := by omega
                have ha0 : ad.add 0 = ad := by unfold Addr.add; rw [if_pos rfl]
                rw [ha0] at k0
                clear hlt hj ha0
                go_wp2_with fail
                refine ⟨⟨1, _, rfl, by omega, rfl, ?_, HT.out.2⟩, by simp [intOf]; omega⟩
                rw [HX.out]
                show str L[0] = str [] ++ X
                rw [← HXX.out, str_append]
                rfl
              · have d4 : (0 : Int) < j := by omega
                have q1 : (j : Int) < i := by omega
                go_wp2_with fail
                refine ⟨⟨j + 1, _, by go_num, hlt, rfl, ?_, HT.out.2⟩, by simp [intOf]; omega⟩
                rw [HX.out, wide_snoc _ _ (fun h => by have h1 := congrArg List.length h; rw [List.length_take, List.length_nil] at h1; omega)]
                exact (str_wide T X _ _ HT.out.1 HXX.out).symm
            obtain rfl : j = i := by omega
            have q1 : ¬ ((j : Int) < j) := by omega
            have hTw : str (wideT L) = T := by
              rw [← HT.out.1, List.take_of_length_le (by rw [HR.out.2.1]; exact Nat.le_refl _)]
            rw [← str_ends T _ hTw] at HLw
            have HT2 := Lib.hid (HB3.out.trans (HT.out.2.mono HB3.out.size))
            clear hTw hge hj
            go_wp2_with fail
            with_reducible refine (HLw.out _).mono ?_
            rintro e w4 ⟨v4, rfl, ⟨A4, c4, hv4, _, _, hr4⟩, hb⟩
            rw [HR.out.2.1] at hv4
            subst hv4
            have HB4 := Lib.hid (HT2.out.trans (hb.mono HT2.out.size))
            have hrA4 : RdS w4 A L := Rd.below HR.out.1 HB4.out
            have hr34 : RdS w4 A3 L := Rd.below HR3.out (HT.out.2.trans (hb.mono HT.out.2.size))
            have HTx1 := Lib.hid (texts_any A3 A c3 c j L w4 HR.out.2.1 (by omega) hr34 hrA4)
            have HTx2 := Lib.hid (fun W (h : Below w4.heap.size w4 W) => texts_any A4 A c4 c j L W HR.out.2.1 (by omega) (Rd.below hr4 h) (Rd.below hrA4 h))
            clear hb hrA4 hr34 hr4
            go_wp2_with fail
            with_reducible refine HTx1.out.mono ?_
            rintro e w4' ⟨rfl, hb⟩
            have HB4' := Lib.hid hb
            clear hb
            go_wp2_with fail
            with_reducible refine (HTx2.out _ HB4'.out).mono ?_
            rintro e wz ⟨rfl, hb⟩
            have hbb := HB4'.out.trans (hb.mono HB4'.out.size)
            have HBz := Lib.hid (HB4.out.trans (hbb.mono HB4.out.size))
            clear hb hbb
            go_wp2_with fail
        case' neg =>
          have e1 : errE k1 = errK k1 := if_neg hk1
          rw [e1] at HJ
          unfold errK at HJ
          clear hk1 e1 hjt hjl hall hge hi
          generalize str t1 = SJ at *
          go_wp2_with fail
          with_reducible refine (HJ.out _ hrd3).mono ?_
          rintro e wz ⟨rfl, hb⟩
          have HBz := Lib.hid (HB.out.1.trans (hb.mono HB.out.1.size))
          clear hb hrd3
          go_wp2_with fail
        all_goals
          with_reducible refine (HLt.out _).mono ?_
          rintro e w5 ⟨rfl, hb⟩
          have HB5 := Lib.hid (HBz.out.trans (hb.mono HBz.out.size))
          clear hb
          by_cases hk2 : k2 = 0
          · obtain ⟨ho, h0⟩ := HL0.out hk2
            subst hk2
            rw [ho] at HOp
            obtain ⟨B, rfl⟩ := Int.eq_ofNat_of_zero_le h0
            rw [Int.toNat_natCast] at HOp
            rw [errE_zero] at HOp ⊢
            generalize str t2 = S2 at *
            clear ho h0
            go_wp2_with fail
            with_reducible refine (HOp.out _).mono ?_
            rintro e w6 ⟨rfl, hb⟩
            have HB6 := Lib.hid (HB5.out.trans (hb.mono HB5.out.size))
            clear hb
            go_wp2_with fail
            with_reducible refine (HSu.out _ (HEs.out _ HB6.out).2).mono ?_
            rintro e w7 ⟨rfl, hb⟩
            have HB7 := Lib.hid (HB6.out.trans (hb.mono HB6.out.size))
            clear hb
            go_wp2_with fail
            go_ret
            exact ret_trueV HB7.out
          · obtain ⟨rfl, rfl⟩ := HNo.out hk2
            have e1 : errE 1 = errK 1 := rfl
            have e2 : str ([] : Tx) = { data := #[] } := rfl
            rw [e1] at HN2
            rw [e1, e2]
            unfold errK at HN2 ⊢
            clear e1 e2 hk2
            go_wp2_with fail
            with_reducible refine (HN2.out _ (HEs.out _ HB5.out).1).mono ?_
            rintro e w6 ⟨rfl, hb⟩
            have HB6 := Lib.hid (HB5.out.trans (hb.mono HB5.out.size))
            clear hb
            go_wp2_with fail
            with_reducible refine (HSu.out _ (HEs.out _ HB6.out).2).mono ?_
            rintro e w7 ⟨rfl, hb⟩
            have HB7 := Lib.hid (HB6.out.trans (hb.mono HB6.out.size))
            clear hb
            go_wp2_with fail
            go_ret
            exact ret_trueV HB7.out
end Go.Proofs.YtencapplbedcmaaGreatDoor

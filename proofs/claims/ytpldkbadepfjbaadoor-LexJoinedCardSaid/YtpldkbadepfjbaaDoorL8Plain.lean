/- LexPlain's walk. -/
import Derived.Test.YtpldkbadepfjbaaDoorL8Sure
import Derived.Test.YtpldkbadepfjbaaDoorL8Math
namespace Go.Proofs.YtpldkbadepfjbaaDoor
open Go.RowKit

/-- Two strings together, by a name of their own. -/
theorem add_named (a b : ByteArray) (h : a.size ≤ 1000000) (h2 : b.size ≤ 1000000) : ∃ z : ByteArray, (∀ W, (Op.stringOp .add a b).run Tryd.prog W = .ok (.string z) W) ∧ z = a ++ b ∧ z.size = a.size + b.size :=
  ⟨a ++ b, fun W => run_string_add_sum W a b (by omega), rfl, by simp⟩
theorem lay_len : ∀ (l : List Tx) (b : Nat), (∀ p ∈ l, p.length ≤ b) → (lay l).length ≤ l.length * (b + 1)
  | [], _, _ => by simp [lay]
  | p :: l, b, h => by
    have e : lay (p :: l) = p ++ [10] ++ lay l := by simp [lay]
    have h1 := lay_len l b fun q hq => h q (by simp [hq])
    have h2 := h p (by simp)
    rw [e, List.length_append, List.length_append, List.length_cons, List.length_cons, Nat.add_mul]
    simp only [List.length_nil]
    omega
theorem lay_take (l : List Tx) (j : Nat) (hj : j < l.length) : lay (l.take (j + 1)) = lay (l.take j) ++ l[j] ++ [10] := by
  rw [List.take_succ_eq_append_getElem hj, lay_append, lay_one, List.append_assoc]
theorem deck_take (l : List Tx) (j : Nat) (hj : j < l.length) : lay ((l.take (j + 1)).flatMap deck) = lay ((l.take j).flatMap deck) ++ [32, 9] ++ l[j] ++ [32, 13, 59] ++ l[j] ++ [10, 32, 10, 35, 32, 120, 10] := by
  rw [List.take_succ_eq_append_getElem hj, List.flatMap_append, lay_append]
  simp [lay, deck]
/-- A line that is part of no longer one. -/
def Ok8 (x : Tx) : Prop := 10 ∉ x ∧ 92 ∉ x ∧ x.length ≤ 100
theorem deck_len : ∀ (l : List Tx), (∀ p ∈ l, p.length ≤ 100) → (lay (l.flatMap deck)).length ≤ l.length * 212
  | [], _ => by simp [lay]
  | p :: l, h => by
    have h1 := deck_len l fun q hq => h q (by simp [hq])
    have h2 := h p (by simp)
    have e : lay ((p :: l).flatMap deck) = [32, 9] ++ p ++ [32, 13, 59] ++ p ++ [10, 32, 10, 35, 32, 120, 10] ++ lay (l.flatMap deck) := by simp [lay, deck]
    rw [e]
    simp only [List.length_append, List.length_cons, List.length_nil, Nat.add_mul] at h1 ⊢
    omega
set_option maxHeartbeats 2000000 in
set_option maxRecDepth 100000 in
theorem lexPlain_any (A : Option Addr) (c : Nat) (l : List Tx) (w : World) (hm : Mx w) (hr : RdS w A l) (hc : l.length ≤ c) (hcm : c ≤ maxLen) (hx : ∀ x ∈ l, x.length ≤ maxLen) :
    Calls Tryd.prog 6 #[.slice A l.length c] w fun e w' => e = .returned (.bool true) ∧ Below w.heap.size w w' := by
  obtain ⟨n, hn⟩ : ∃ n, l.length = n := ⟨_, rfl⟩
  rw [hn] at hc ⊢
  have hc63 : c ≤ 9223372036854775807 := hcm
  have HSu := Lib.hid (fun W h => sure_any W h)
  have HM := Lib.hid hm
  have HL := Lib.hid (And.intro hn (And.intro hr hx))
  clear hm hr hx hn hcm
  by_cases h40 : 40 < n
  · have d1 : (40 : Int) < n := by omega
    go_enter Tryd.func6, Tryd.ntmps6
    go_wp2_with fail
    refine (HSu.out _ HM.out).mono ?_
    rintro e w' ⟨rfl, hb⟩
    have HB := Lib.hid hb
    clear hb
    go_wp2_with fail
    go_ret
    exact ret_true8 HB.out
  · have d1 : ¬ ((40 : Int) < n) := by omega
    have hn40 : n ≤ 40 := by omega
    clear h40
    go_enter Tryd.func6, Tryd.ntmps6
    go_wp2_with fail
    go_loopw [3, 4, 5] (fun s t i wr => ∃ j : Nat, i = .int .i64 j ∧ j ≤ n ∧ s = .string (str (lay (l.take j))) ∧ t = .string (str (lay ((l.take j).flatMap deck))) ∧ Below w.heap.size w wr ∧ ∀ x ∈ l.take j, Ok8 x) (fun _ _ i _ => n - (intOf i).toNat)
    case atStart => exact ⟨0, rfl, Nat.zero_le _, rfl, rfl, Below.refl _ _, fun x hx => by simp at hx⟩
    case round =>
      obtain ⟨j, rfl, hj, rfl, rfl, hb, hok⟩ := hrel
      have HB := Lib.hid (And.intro hb hok)
      have hs1 : (lay (l.take j)).length ≤ 4040 := by
        have h1 := lay_len (l.take j) 100 fun p hp => (hok p hp).2.2
        have h2 : (l.take j).length ≤ 40 := by rw [List.length_take]; omega
        omega
      have hs2 : (lay ((l.take j).flatMap deck)).length ≤ 8480 := by
        have h1 := deck_len (l.take j) fun p hp => (hok p hp).2.2
        have h2 : (l.take j).length ≤ 40 := by rw [List.length_take]; omega
        omega
      clear hb hok
      rcases Nat.lt_or_ge j n with hlt | hge
      · have hjl : j < l.length := by rw [HL.out.1]; exact hlt
        obtain ⟨ad, rfl, k0⟩ := (Rd.below HL.out.2.1 HB.out.1).at_ (k := j) (by rw [List.length_map]; exact hjl)
        rw [List.getElem_map] at k0
        have q0 : (0 : Int) ≤ j := by omega
        have q1 : (j : Int) < n := by omega
        obtain ⟨x, hx⟩ : ∃ x, l[j] = x := ⟨_, rfl⟩
        have hxm : x.length ≤ 9223372036854775807 := HL.out.2.2 x (by rw [← hx]; exact List.getElem_mem hjl)
        rw [hx] at k0
        have k0' : wr.cell? (ad.add j) = some (.string (str x)) := k0
        obtain ⟨m, hmx⟩ : ∃ m, x.length = m := ⟨_, rfl⟩
        have hsx : (str x).size = m := hmx
        rw [hmx] at hxm
        have HX := Lib.hid (And.intro hx hmx)
        obtain ⟨X, hX⟩ : ∃ X, str x = X := ⟨_, rfl⟩
        have HXe := Lib.hid hX
        rw [hX] at k0' hsx
        clear hx hmx hX k0
        obtain ⟨S, hS⟩ : ∃ S, str (lay (l.take j)) = S := ⟨_, rfl⟩
        obtain ⟨T, hT⟩ : ∃ T, str (lay ((l.take j).flatMap deck)) = T := ⟨_, rfl⟩
        have hSs : S.size ≤ 4040 := by rw [← hS]; exact hs1
        have hTs : T.size ≤ 8480 := by rw [← hT]; exact hs2
        have HST := Lib.hid (And.intro hS hT)
        rw [hS, hT]
        clear hS hT hs1 hs2
        by_cases h100 : 100 < m
        · have q2 : (100 : Int) < m := by omega
          go_wp2_with fail
          refine (HSu.out _ (HM.out.below HB.out.1)).mono ?_
          rintro e w' ⟨rfl, hb⟩
          have HB2 := Lib.hid (HB.out.1.trans (hb.mono HB.out.1.size))
          clear hb
          go_wp2_with fail
          go_ret
          exact ret_true8 HB2.out
        · have q2 : ¬ ((100 : Int) < m) := by omega
          go_wp2_with fail
          go_loop [6] (fun v => ∃ q : Nat, v = .int .i64 q ∧ q ≤ m ∧ ∀ c ∈ x.take q, c ≠ 10 ∧ c ≠ 92) (fun v => m - (intOf v).toNat)
          case atStart => exact ⟨0, rfl, Nat.zero_le _, fun c hc => by simp at hc⟩
          case round =>
            obtain ⟨q, rfl, hq, hno⟩ := hrel
            have HNo := Lib.hid hno
            clear hno
            rcases Nat.lt_or_ge q m with hlt2 | hge2
            · obtain ⟨b, r, e1, e2, S', e3, hs', hxq, _⟩ := at_facts x m q HX.out.2 hlt2
              obtain rfl : S' = X := e3.symm.trans HXe.out
              have g1 : (q : Int) < m := by omega
              have g0 : (0 : Int) ≤ q := by omega
              have HE := Lib.hid (And.intro e1 e2)
              clear e1 e2 e3
              by_cases hb10 : b = 10
              · have hbI : (b.toNat : Int) = 10 := by rw [hb10]; rfl
                clear hb10
                go_wp2_with fail
                refine (HSu.out _ (HM.out.below HB.out.1)).mono ?_
                rintro e w' ⟨rfl, hb⟩
                have HB2 := Lib.hid (HB.out.1.trans (hb.mono HB.out.1.size))
                clear hb
                go_wp2_with fail
                go_ret
                exact ret_true8 HB2.out
              · have hbn : ¬ ((b.toNat : Int) = 10) := fun h => hb10 (UInt8.toNat_inj.1 (by have : (10 : UInt8).toNat = 10 := rfl; omega))
                have hbb : (((b.toNat : Int)) == 10) = false := by simpa using hbn
                by_cases hb92 : b = 92
                · have hbI : (((b.toNat : Int)) == 92) = true := by rw [hb92]; rfl
                  clear hb92 hb10
                  go_wp2_with fail
                  refine (HSu.out _ (HM.out.below HB.out.1)).mono ?_
                  rintro e w' ⟨rfl, hb⟩
                  have HB2 := Lib.hid (HB.out.1.trans (hb.mono HB.out.1.size))
                  clear hb
                  go_wp2_with fail
                  go_ret
                  exact ret_true8 HB2.out
                · have hbI : (((b.toNat : Int)) == 92) = false := by
                    rw [beq_eq_false_iff_ne]
                    exact fun h => hb92 (UInt8.toNat_inj.1 (by have : (92 : UInt8).toNat = 92 := rfl; omega))
                  have HN := Lib.hid (And.intro hb10 hb92)
                  clear hb92 hb10
                  go_wp2_with fail
                  go_round
                  case rel =>
                    refine ⟨q + 1, by go_num, hlt2, fun c hc => ?_⟩
                    have hqx : q < x.length := by rw [HX.out.2]; exact hlt2
                    rw [List.take_succ_eq_append_getElem hqx] at hc
                    have h1 := HE.out.1
                    rw [List.drop_eq_getElem_cons hqx] at h1
                    injection h1 with h1 _
                    rcases List.mem_append.1 hc with hc | hc
                    · exact HNo.out c hc
                    · rw [List.mem_singleton.1 hc, h1]
                      exact HN.out
                  case measure => simp [intOf]; omega
            · have hqm : q = m := by omega
              subst hqm
              have g1 : ¬ ((q : Int) < q) := by omega
              have HOk : Hid (Ok8 x) := by
                have h1 := HNo.out
                rw [List.take_of_length_le (by rw [HX.out.2]; exact Nat.le_refl _)] at h1
                exact ⟨fun h => (h1 _ h).1 rfl, fun h => (h1 _ h).2 rfl, by rw [HX.out.2]; omega⟩
              have L2 : ({ data := #[32, 9] } : ByteArray).size = 2 := rfl
              have L3 : ({ data := #[32, 13, 59] } : ByteArray).size = 3 := rfl
              have L7 : ({ data := #[10, 32, 10, 35, 32, 120, 10] } : ByteArray).size = 7 := rfl
              have L1 : ({ data := #[10] } : ByteArray).size = 1 := rfl
              obtain ⟨z1, r1, f1, y1⟩ := add_named T { data := #[32, 9] } (by omega) (by omega)
              obtain ⟨z2, r2, f2, y2⟩ := add_named z1 X (by omega) (by omega)
              obtain ⟨z3, r3, f3, y3⟩ := add_named z2 { data := #[32, 13, 59] } (by omega) (by omega)
              obtain ⟨z4, r4, f4, y4⟩ := add_named z3 X (by omega) (by omega)
              obtain ⟨z5, r5, f5, y5⟩ := add_named z4 { data := #[10, 32, 10, 35, 32, 120, 10] } (by omega) (by omega)
              obtain ⟨z6, r6, f6, y6⟩ := add_named S X (by omega) (by omega)
              obtain ⟨z7, r7, f7, y7⟩ := add_named z6 { data := #[10] } (by omega) (by omega)
              have HZ : Hid (z5 = str (lay ((l.take (j + 1)).flatMap deck)) ∧ z7 = str (lay (l.take (j + 1)))) := by
                constructor
                · rw [f5, f4, f3, f2, f1, ← HST.out.2, ← HXe.out, deck_take l j hjl, HX.out.1]
                  show str _ ++ str [32, 9] ++ str _ ++ str [32, 13, 59] ++ str _ ++ str [10, 32, 10, 35, 32, 120, 10] = _
                  simp only [str_append]
                · rw [f7, f6, ← HST.out.1, ← HXe.out, lay_take l j hjl, HX.out.1]
                  show str _ ++ str _ ++ str [10] = _
                  simp only [str_append]
              clear f1 f2 f3 f4 f5 f6 f7 y1 y2 y3 y4 y5 y6 y7 L1 L2 L3 L7
              go_wp2_with fail
              go_quiet (fail)
              go_wp2_with fail
              refine ⟨⟨j + 1, by go_num, hlt, congrArg Value.string HZ.out.2, congrArg Value.string HZ.out.1, HB.out.1.trans (below_dr _ _), fun y hy => ?_⟩, by simp [intOf]; omega⟩
              rw [List.take_succ_eq_append_getElem hjl] at hy
              rcases List.mem_append.1 hy with hy | hy
              · exact HB.out.2 y hy
              · rw [List.mem_singleton.1 hy, HX.out.1]
                exact HOk.out
      · obtain rfl : j = n := by omega
        have q1 : ¬ ((j : Int) < j) := by omega
        have hok := HB.out.2
        have htk : l.take j = l := List.take_of_length_le (by rw [HL.out.1]; exact Nat.le_refl _)
        rw [htk] at hok hs1 hs2
        simp only [htk]
        obtain ⟨L, a1, a2, a3⟩ := plain_ans l (by rw [HL.out.1]; exact hn40) (fun x hx => hok x hx) (by omega) (by omega)
        have H1 := Lib.hid (fun W h => lines_any (lay l) W (by omega) h)
        have H2 := Lib.hid (fun W h => lines_any (lay (l.flatMap deck)) W (by omega) h)
        have hp := ans_len (lay l)
        rw [a1] at H1 hp
        rw [a2] at H2
        obtain ⟨p, hpe⟩ : ∃ p, L.length = p := ⟨_, rfl⟩
        have hp6 : p ≤ 1000000 := by rw [← hpe]; exact hp
        have hpm : (L.map plF).length = p := by rw [List.length_map, hpe]
        have HP := Lib.hid (And.intro hpe (And.intro hpm a3))
        have hE0 := errE_zero
        generalize str (lay (l.flatMap deck)) = T at *
        generalize str (lay l) = S at *
        clear hok htk hs1 hs2 a1 a2 a3 hp hpe hpm
        go_wp2_with fail
        refine (H1.out _ (HM.out.below HB.out.1)).mono ?_
        rintro e w1 ⟨v, rfl, ⟨A1, c1, rfl, hc1, hc2, hrd⟩, hb1⟩
        have HH1 := Lib.hid (And.intro hrd (And.intro (HB.out.1.trans (hb1.mono HB.out.1.size)) ((HM.out.below HB.out.1).below hb1)))
        simp only [HP.out.1, hE0] at hc1 ⊢
        clear hrd hb1
        go_wp2_with fail
        refine (H2.out _ HH1.out.2.2).mono ?_
        rintro e w2 ⟨v, rfl, ⟨A2, c2, rfl, hd1, hd2, hrd⟩, hb2⟩
        have HH2 := Lib.hid (And.intro (HH1.out.1.below hb2) (And.intro hrd (And.intro (HH1.out.2.1.trans (hb2.mono HH1.out.2.1.size)) (HH1.out.2.2.below hb2))))
        simp only [HP.out.2.1, hE0] at hd1 ⊢
        clear hrd hb2 hE0
        go_wp2_with fail
        go_loopw [13] (fun v wr => ∃ i : Nat, v = .int .i64 i ∧ i ≤ p ∧ Below w2.heap.size w2 wr) (fun v _ => p - (intOf v).toNat)
        case atStart => exact ⟨0, rfl, Nat.zero_le _, Below.refl _ _⟩
        case round =>
          obtain ⟨i, rfl, hi, hb3⟩ := hrel
          have HB3 := Lib.hid hb3
          clear hb3
          rcases Nat.lt_or_ge i p with hlt3 | hge3
          · have g0 : (0 : Int) ≤ i := by omega
            have g1 : (i : Int) < p := by omega
            have hiL : i < L.length := by rw [HP.out.1]; exact hlt3
            obtain ⟨ad, X, rfl, hX, k0, k1⟩ := (HH2.out.1.below HB3.out).two i hiL
            obtain ⟨ad', X', rfl, hX', k2, k3⟩ := (HH2.out.2.1.below HB3.out).two i (by rw [HP.out.2.1]; exact hlt3)
            rw [List.getElem_map] at k2 k3
            have hbd := HP.out.2.2 _ (List.getElem_mem hiL)
            obtain ⟨a, ha⟩ : ∃ a, L[i].1 = a := ⟨_, rfl⟩
            obtain ⟨b, hb⟩ : ∃ b, (plF L[i]).1 = b := ⟨_, rfl⟩
            have hab : 3 * (a : Int) - 2 = b := by
              have : 3 * L[i].1 - 2 = b := hb
              rw [ha] at this hbd
              omega
            rw [ha] at k0 hbd
            rw [hb] at k2
            have k3' : wr.cell? { block := X'.block, off := X'.off + 1 } = some (.string (str L[i].2)) := k3
            obtain ⟨Y, hY⟩ : ∃ Y, str L[i].2 = Y := ⟨_, rfl⟩
            rw [hY] at k1 k3'
            have hw1 : IntKind.i64.wrap (3 * (a : Int)) = 3 * (a : Int) := by unfold IntKind.wrap; simp [IntKind.signed, IntKind.bits]; omega
            have hw2 : IntKind.i64.wrap (3 * (a : Int) - 2) = b := by rw [hab]; unfold IntKind.wrap; simp [IntKind.signed, IntKind.bits]; omega
            have t1 : (Y.toList == Y.toList) = true := beq_self_eq_true _
            clear k3 ha hb hY hiL
            go_wp2_with fail
            go_quiet (fail)
            go_wp2_with fail
            refine ⟨⟨i + 1, by go_num, hlt3, HB3.out.trans (below_dr _ _)⟩, by simp [intOf]; omega⟩
          · have g1 : ¬ ((i : Int) < p) := by omega
            have hbz := HH2.out.2.2.1.trans (HB3.out.mono HH2.out.2.2.1.size)
            have HZ := Lib.hid (And.intro hbz (HH2.out.2.2.2.below HB3.out))
            clear hbz
            go_wp2_with fail
            refine (HSu.out _ HZ.out.2).mono ?_
            rintro e w4 ⟨rfl, hb4⟩
            have H5 := Lib.hid (HZ.out.1.trans (hb4.mono HZ.out.1.size))
            clear hb4
            go_wp2_with fail
            go_ret
            exact ret_true8 H5.out
end Go.Proofs.YtpldkbadepfjbaaDoor

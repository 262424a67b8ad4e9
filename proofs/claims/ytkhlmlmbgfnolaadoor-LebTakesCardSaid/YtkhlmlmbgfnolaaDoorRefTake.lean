/- The document's answers of layer 2: Take, Sign, by contracts. -/
import Derived.Test.YtkhlmlmbgfnolaaDoorLebE
import Derived.Deep.QuietTactic
import Derived.BigQuiet
namespace Go.Proofs.YtkhlmlmbgfnolaaDoor
open Go.RowKit

theorem below_drewN {B : Nat} {a w : World} (h : Below B a w) (n : Nat) : Below B a (w.drewN n) := ⟨h.os, h.tape, h.output, h.size, h.block⟩
/-- What is left of l, behind what was taken. -/
def left (l : List UInt8) : List UInt8 := if (tk l).1 = 0 then l.drop (tk l).2.2 else []
theorem val_down (m : List UInt8) (j : Nat) (h : j < m.length) : val (m.drop j) = m[j].toNat % 128 + 128 * val (m.drop (j + 1)) := by
  rw [List.drop_eq_getElem_cons h, val]

/-- The document's Take, of l. -/
def RefT (l : List UInt8) (w : World) (e : Ending) (w' : World) : Prop :=
  ∃ A' c', e = .returned (.tuple #[.int .u64 ((tk l).2.1 : Nat), .slice A' (left l).length c', .int .i64 ((tk l).1 : Nat)]) ∧ Rd w' A' (bs (left l)) ∧ (left l).length ≤ c' ∧ Below w.heap.size w w'
theorem RefT.err {l : List UInt8} {w w' : World} {k : Nat} {z : Int} (ht : tk l = (k, 0, 0)) (hk : 0 < k) (hz : z = k) (hb : Below w.heap.size w w') : RefT l w (.returned (.tuple #[.int .u64 0, .slice none 0 0, .int .i64 z])) w' := by
  have hle : left l = [] := by unfold left; rw [ht, if_neg (by simp; omega)]
  subst hz
  refine ⟨none, 0, ?_, ?_, ?_, hb⟩
  · rw [hle, ht]; rfl
  · rw [hle]; exact Rd.nil
  · rw [hle]; exact Nat.le_refl _
theorem RefT.ok {l : List UInt8} {w w' : World} {v j q c' : Nat} {z : Int} {A' : Option Addr} (ht : tk l = (0, v, j)) (hz : z = v) (hq : (l.drop j).length = q) (hr : Rd w' A' (bs (l.drop j))) (hc : q ≤ c') (hb : Below w.heap.size w w') :
    RefT l w (.returned (.tuple #[.int .u64 z, .slice A' q c', .int .i64 0])) w' := by
  have hle : left l = l.drop j := by unfold left; rw [ht]; exact if_pos rfl
  subst hz
  subst hq
  refine ⟨A', c', ?_, ?_, ?_, hb⟩
  · rw [hle, ht]; rfl
  · rw [hle]; exact hr
  · rw [hle]; exact hc
theorem horner (u y : Nat) : IntKind.u64.wrap (IntKind.u64.wrap (128 * (u : Int)) + (y : Int) % 128) = (((y % 128 + 128 * u) % 18446744073709551616 : Nat) : Int) := by
  simp only [IntKind.wrap, IntKind.bits, IntKind.signed]
  simp
  omega

set_option maxRecDepth 100000 in
set_option maxHeartbeats 2000000 in
theorem reftake_n (A : Option Addr) (n c : Nat) (l : List UInt8) (w : World) (hn : l.length = n) (hr : Rd w A (bs l)) (hc : n ≤ c) (hl : n ≤ 1000000) :
    Calls Tryd.prog 8 #[.slice A n c] w (RefT l w) := by
  have HR := Lib.hid hr
  have HN := Lib.hid hn
  have h10 : (l.take 10).length = min n 10 := by rw [List.length_take, hn]; omega
  have H10 := Lib.hid h10
  clear hr hn h10
  go_enter Tryd.func8, Tryd.ntmps8
  go_wp2_with fail
  go_loop [5] (fun i => ∃ k : Nat, k ≤ n ∧ k ≤ 10 ∧ k ≤ cnt (l.take 10) ∧ i = .int .i64 k) (fun i => n - (intOf i).toNat)
  case atStart => exact ⟨0, Nat.zero_le _, Nat.zero_le _, Nat.zero_le _, rfl⟩
  case round =>
    obtain ⟨k, hkn, hk10, hkc, rfl⟩ := hrel
    have HC := Lib.hid hkc
    clear hkc
    rcases Nat.eq_or_lt_of_le hkn with rfl | hlt
    · have ht := tk_none l (by rw [H10.out]; have := HC.out; omega)
      rw [HN.out] at ht
      rcases Nat.eq_or_lt_of_le hk10 with rfl | hlt10
      · have HT := Lib.hid ht
        clear ht
        go_wp2_with fail
        go_ret3
        exact RefT.err (k := 3) HT.out (by omega) rfl (Below.refl _ _)
      · rw [if_pos hlt10] at ht
        have HT := Lib.hid ht
        have i1 : (k : Int) < 10 := by omega
        have i2 : ¬ (k : Int) = 10 := by omega
        clear ht
        go_wp2_with fail
        go_ret3
        exact RefT.err (k := 4) HT.out (by omega) rfl (Below.refl _ _)
    have i0 : (k : Int) < (n : Int) := by omega
    rcases Nat.eq_or_lt_of_le hk10 with rfl | hlt10
    · have ht := tk_none l (by rw [H10.out]; have := HC.out; omega)
      rw [HN.out, if_neg (by omega)] at ht
      have HT := Lib.hid ht
      clear ht
      go_wp2_with fail
      go_ret3
      exact RefT.err (k := 3) HT.out (by omega) rfl (Below.refl _ _)
    have i1 : (k : Int) < 10 := by omega
    have i2 : ¬ (k : Int) = 10 := by omega
    obtain ⟨ad, rfl, hcell⟩ := HR.out.byte (k := k) (by rw [HN.out]; exact hlt)
    have hkl : k < l.length := by rw [HN.out]; exact hlt
    have hkt : k < (l.take 10).length := by rw [H10.out]; omega
    have hget : (l.take 10)[k] = l[k] := by rw [List.getElem_take]
    have hb : l[k].toNat < 256 := l[k].toNat_lt
    by_cases hx : 128 ≤ l[k].toNat
    · have HS : Hid (k + 1 ≤ cnt (l.take 10)) := cnt_succ _ k HC.out hkt (by rw [hget]; exact hx)
      clear hget
      generalize l[k].toNat = x at *
      have hx' : (128 : Int) ≤ (x : Int) := by omega
      go_wp2_with fail
      exact ⟨⟨k + 1, by omega, by omega, HS.out, by go_num⟩, by simp [intOf]; omega⟩
    · have HS : Hid (cnt (l.take 10) = k) := cnt_eq _ k HC.out hkt (by rw [hget]; omega)
      clear hget
      generalize l[k].toNat = x at *
      have hx' : ¬ (128 : Int) ≤ (x : Int) := by omega
      have HT : Hid (tk l = if dig (val (l.take (k + 1)) % 18446744073709551616) = l.take (k + 1) then (0, val (l.take (k + 1)) % 18446744073709551616, k + 1) else (3, 0, 0)) := tk_at l k HS.out hkt
      have hk1 : (l.take (k + 1)).length = k + 1 := by rw [List.length_take]; omega
      have HR1 : Hid (Rd w (some ad) (bs (l.take (k + 1)))) := by unfold Hid; rw [← bs_take]; exact HR.out.take
      generalize hm : l.take (k + 1) = m at *
      have HM := Lib.hid hm
      have HK1 := Lib.hid hk1
      clear hm hk1 HC hkt hx hkl
      go_wp2_with fail
      clear hx' hcell hb
      go_loop [6, 7] (fun vv i => ∃ (j u : Nat), j ≤ k + 1 ∧ i = .int .i64 ((j : Int) - 1) ∧ vv = .int .u64 u ∧ u = val (m.drop j) % 18446744073709551616) (fun _ i => (intOf i + 1).toNat)
      case atStart => exact ⟨k + 1, 0, Nat.le_refl _, by go_num, rfl, by rw [List.drop_of_length_le (by rw [HK1.out]; exact Nat.le_refl _)]; rfl⟩
      case round =>
        obtain ⟨j, u, hj, rfl, rfl, hu⟩ := hrel
        have hul : u < 18446744073709551616 := by rw [hu]; exact Nat.mod_lt _ (by omega)
        have HU := Lib.hid hu
        clear hu
        rcases Nat.eq_zero_or_pos j with rfl | hj0
        · have hu0 : u = val m % 18446744073709551616 := by rw [HU.out, List.drop_zero]
          have ht := HT.out
          rw [← hu0] at ht
          clear hu0 HU HT hj
          have HT := Lib.hid ht
          obtain ⟨d, hd⟩ : ∃ d, (dig u).length = d := ⟨_, rfl⟩
          have hd10 : d ≤ 10 := by rw [← hd]; exact dig_len10 hul
          have HD := Lib.hid hd
          clear ht hd
          go_wp2_with fail
          refine (number_n u w hul).mono ?_
          rintro e w1 ⟨x1, rfl, hown1, hb1⟩
          rw [HD.out] at hown1
          obtain ⟨A1, c1, rfl, hc1, _, _, hR1, _⟩ := owns_form hown1
          have HB1 := Lib.hid hb1
          have HX1 := Lib.hid hR1
          have HM1 := Lib.hid (HR1.out.below hb1)
          clear hown1 hb1 hR1
          by_cases hdk : d = k + 1
          · have hdk' : (d : Int) = (k : Int) + 1 := by omega
            go_wp2_with fail
            have HLl := Lib.hid (HR.out.below HB1.out)
            generalize hxs : dig u = xs at *
            have HXS := Lib.hid hxs
            clear hxs
            go_loopw [9] (fun i wr => ∃ q : Nat, q ≤ k + 1 ∧ i = .int .i64 q ∧ xs.take q = m.take q ∧ Rd wr A1 (bs xs) ∧ Rd wr (some ad) (bs m) ∧ Rd wr (some ad) (bs l) ∧ Below w.heap.size w wr) (fun i _ => k + 1 - (intOf i).toNat)
            case atStart => exact ⟨0, by omega, rfl, rfl, HX1.out, HM1.out, HLl.out, HB1.out⟩
            case round =>
              obtain ⟨q, hq, rfl, hEq, hX, hM, hLl, hBw⟩ := hrel
              have HEQ := Lib.hid hEq
              clear HX1 HM1 HLl HB1
              have HX1 := Lib.hid hX
              have HM1 := Lib.hid hM
              have HLl := Lib.hid hLl
              have HB1 := Lib.hid hBw
              clear hEq hX hM hLl hBw
              rcases Nat.lt_or_ge q (k + 1) with hqk | hqk
              · have hqx : q < xs.length := by rw [HD.out]; omega
                have hqm : q < m.length := by rw [HK1.out]; omega
                obtain ⟨ax, rfl, cx1⟩ := HX1.out.byte hqx
                obtain ⟨am, eam, cm1⟩ := HM1.out.byte hqm
                injection eam with eam
                subst eam
                have hqk' : (q : Int) ≤ (k : Int) := by omega
                have hqn : (q : Int) < (n : Int) := by omega
                have hqd : (q : Int) < (d : Int) := by omega
                by_cases hb : xs[q] = m[q]
                · have HNX : Hid (xs.take (q + 1) = m.take (q + 1)) := by
                    unfold Hid
                    rw [List.take_succ_eq_append_getElem hqx, List.take_succ_eq_append_getElem hqm, HEQ.out, hb]
                  rw [hb] at cx1
                  have hq' : ((m[q].toNat : Int) != (m[q].toNat : Int)) = false := by simp
                  clear hb
                  generalize m[q].toNat = y at *
                  go_wp2_with fail
                  go_quiet (fail)
                  go_wp2_with fail
                  go_roundw
                  case rel => exact ⟨q + 1, by omega, by go_num, HNX.out, HX1.out.drewN _, HM1.out.drewN _, HLl.out.drewN _, below_drewN HB1.out _⟩
                  case measure => simp [intOf]; omega
                · have hq' : ((xs[q].toNat : Int) != (m[q].toNat : Int)) = true := by
                    rw [bne_iff_ne]
                    intro h
                    exact hb (UInt8.toNat_inj.1 (by omega))
                  have HTE : Hid (tk l = (3, 0, 0)) := by
                    unfold Hid
                    rw [HT.out, if_neg]
                    intro h
                    apply hb
                    congr 1
                  clear hb
                  generalize xs[q].toNat = y at *
                  generalize m[q].toNat = z at *
                  go_wp2_with fail
                  go_quiet (fail)
                  go_wp2_with fail
                  go_ret3
                  exact RefT.err (k := 3) HTE.out (by omega) rfl (below_drewN HB1.out _)
              · obtain rfl : q = k + 1 := by omega
                have HTE : Hid (tk l = (0, u, k + 1)) := by
                  unfold Hid
                  rw [HT.out, if_pos]
                  have h := HEQ.out
                  rw [List.take_of_length_le (by rw [HD.out]; omega), List.take_of_length_le (by rw [HK1.out]; exact Nat.le_refl _)] at h
                  exact h
                have i3 : (k : Int) + 1 ≤ (n : Int) := by omega
                have i4 : (k : Int) + 1 ≤ (c : Int) := by omega
                have i5 : (n : Int) ≤ (c : Int) := by omega
                have hw : IntKind.i64.wrap ((k : Int) + 1) = (k : Int) + 1 := by
                  simp only [IntKind.wrap, IntKind.bits, IntKind.signed]
                  simp
                  omega
                by_cases hck : c = k + 1
                · obtain rfl : n = k + 1 := by omega
                  have hd0 : l.drop (k + 1) = [] := by rw [← HN.out, List.drop_length]
                  go_wp2_with fail
                  go_quiet (fail)
                  go_wp2_with fail
                  go_ret3
                  exact RefT.ok HTE.out rfl (by rw [hd0]; rfl) (by rw [hd0]; exact Rd.nil) (by omega) (below_drewN HB1.out _)
                · have hRd : Rd wr (some (ad.add (k + 1))) (bs (l.drop (k + 1))) := by
                    have h := HLl.out.cut (k := k + 1) (cap := c) (by rw [bs_length]; exact HN.out) hc
                    rw [if_neg hck, bs_drop] at h
                    exact h
                  have HRD := Lib.hid hRd
                  clear hRd
                  go_wp2_with fail
                  go_quiet (fail)
                  go_wp2_with fail
                  go_ret3
                  exact RefT.ok HTE.out rfl (by rw [List.length_drop, HN.out]) (HRD.out.drewN _) (by omega) (below_drewN HB1.out _)
          · have HTE : Hid (tk l = (3, 0, 0)) := by
              unfold Hid
              rw [HT.out, if_neg]
              intro h
              rw [← HK1.out, ← h] at hdk
              exact hdk HD.out.symm
            have hdk' : ¬ (d : Int) = (k : Int) + 1 := by omega
            go_wp2_with fail
            go_ret3
            exact RefT.err (k := 3) HTE.out (by omega) rfl HB1.out
        · obtain ⟨j, rfl⟩ : ∃ i, j = i + 1 := ⟨j - 1, by omega⟩
          have hjm : j < m.length := by rw [HK1.out]; omega
          obtain ⟨ad', e, hcell⟩ := HR1.out.byte (k := j) hjm
          injection e with e
          subst e
          have hb : m[j].toNat < 256 := m[j].toNat_lt
          have HV := Lib.hid (val_down m j hjm)
          generalize m[j].toNat = y at *
          have hs : ((j + 1 : Nat) : Int) - 1 = (j : Int) := by omega
          rw [hs]
          go_wp2_with fail
          refine ⟨⟨j, (y % 128 + 128 * u) % 18446744073709551616, by omega, rfl, ?_, ?_⟩, by simp [intOf]⟩
          · rw [horner]
          · rw [HV.out, HU.out]
            omega
set_option maxHeartbeats 400000 in
theorem sign_n (v : Nat) (w : World) (hv : v < 18446744073709551616) :
    Calls Tryd.prog 11 #[.int .u64 v] w fun e w' => e = .returned (.int .i64 (dec v)) ∧ w = w' := by
  have hD : Hid (dec v = if v % 2 = 1 then -((v / 2 : Nat) : Int) - 1 else ((v / 2 : Nat) : Int)) := rfl
  by_cases h2 : v % 2 = 1
  · have h3 : ¬ (v : Int) % 2 = 0 := by omega
    go_enter Tryd.func11, Tryd.ntmps11
    go_wp2_with fail
    go_ret
    refine ⟨?_, rfl⟩
    rw [hD.out, if_pos h2]
    rfl
  · have h3 : (v : Int) % 2 = 0 := by omega
    go_enter Tryd.func11, Tryd.ntmps11
    go_wp2_with fail
    go_ret
    refine ⟨?_, rfl⟩
    rw [hD.out, if_neg h2]
    rfl
end Go.Proofs.YtkhlmlmbgfnolaaDoor

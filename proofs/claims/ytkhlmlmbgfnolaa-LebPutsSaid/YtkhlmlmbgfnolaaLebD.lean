/- leb's ahead, by contracts. -/
import Derived.Test.YtkhlmlmbgfnolaaLebC
namespace Go.Proofs.Ytkhlmlmbgfnolaa
open Go.RowKit
def errV (k : Nat) : Value := if k = 0 then .nilIface else .iface 47 (.int .i64 (k : Int))
theorem errV0 : errV 0 = .nilIface := rfl
theorem errV3 : errV 3 = .iface 47 (.int .i64 3) := rfl
theorem errV4 : errV 4 = .iface 47 (.int .i64 4) := rfl
def aheadV (x : Nat × Nat × Nat) : Value := .tuple #[.int .u64 (x.2.1 : Int), .int .i64 (x.2.2 : Int), errV x.1]

set_option maxRecDepth 100000 in
set_option maxHeartbeats 1000000 in
theorem ahead_none (A : Option Addr) (n c : Nat) (l : List UInt8) (w : World) (hn : l.length = n) (hr : Rd w A (bs l)) (hc : n ≤ c) (hl : n ≤ 1000000) (hx : ¬ cnt (l.take 10) < (l.take 10).length) :
    Calls Try.prog 17 #[.slice A n c] w fun e w' => e = .returned (aheadV (tk l)) ∧ w = w' := by
  have ht := tk_none l hx
  have hix : ix (l.take 10) = -1 := by unfold ix; rw [if_neg hx]
  rw [hn] at ht
  have hml : (l.take 10).length = min n 10 := by rw [List.length_take, hn]; omega
  have HR := Lib.hid (show Rd w A (bs (l.take 10)) by rw [← bs_take]; exact hr.take)
  have HM := Lib.hid hml
  have HI := Lib.hid hix
  clear hr hn hx hml hix
  have i0 : (0 : Int) ≤ (n : Int) := by omega
  have i1 : (n : Int) ≤ (c : Int) := by omega
  have i2 : n ≤ c := hc
  rcases Nat.lt_or_ge n 10 with h | h
  · rw [if_pos h] at ht
    rw [ht, aheadV, errV4]
    clear ht
    have e1 : min n 10 = n := by omega
    rw [e1] at HM
    have h1 : (n : Int) < 10 := by omega
    have h2 : (n : Int) ≤ 10 := by omega
    clear h e1
    go_enter Try.func17, Try.ntmps17
    go_wp2_with fail
    refine (index_n A n c (l.take 10) w HM.out HR.out hl).mono ?_
    rintro e w' ⟨he, rfl⟩
    rw [HI.out] at he
    subst he
    go_wp2_with fail
    go_ret3
    exact ⟨rfl, rfl⟩
  · rw [if_neg (by omega)] at ht
    rw [ht, aheadV, errV3]
    clear ht
    have e1 : min n 10 = 10 := by omega
    have h2 : ¬ (n : Int) < 10 := by omega
    rcases Nat.lt_or_ge 10 n with h3 | h3
    · rw [e1] at HM
      have h4 : (10 : Int) < (n : Int) := by omega
      have h5 : ¬ (n : Int) ≤ 10 := by omega
      have h6 : (10 : Int) ≤ (c : Int) := by omega
      clear h e1
      go_enter Try.func17, Try.ntmps17
      go_wp2_with fail
      refine (index_n A 10 c (l.take 10) w HM.out HR.out (by omega)).mono ?_
      rintro e w' ⟨he, rfl⟩
      rw [HI.out] at he
      subst he
      go_wp2_with fail
      go_ret3
      exact ⟨rfl, rfl⟩
    · rw [show min n 10 = n by omega] at HM
      have h4 : (n : Int) ≤ 10 := by omega
      clear h e1
      go_enter Try.func17, Try.ntmps17
      go_wp2_with fail
      refine (index_n A n c (l.take 10) w HM.out HR.out hl).mono ?_
      rintro e w' ⟨he, rfl⟩
      rw [HI.out] at he
      subst he
      go_wp2_with fail
      go_ret3
      exact ⟨rfl, rfl⟩

theorem shl_or (u x j : Nat) (hu : u < 18446744073709551616) : bits BinOp.or IntKind.u64 (u : Int) (IntKind.u64.wrap ((x : Int) % 128 * 2 ^ (7 * j))) = ((u ||| (x % 128 * 2 ^ (7 * j) % 18446744073709551616) : Nat) : Int) := by
  have e : IntKind.u64.wrap ((x : Int) % 128 * 2 ^ (7 * j)) = ((x % 128 * 2 ^ (7 * j) % 18446744073709551616 : Nat) : Int) := by
    simp [IntKind.wrap, IntKind.bits, IntKind.signed]
  rw [e, u64_or_nat _ _ hu (Nat.mod_lt _ (by omega))]
set_option maxRecDepth 100000 in
set_option maxHeartbeats 2000000 in
theorem ahead_found (ad : Addr) (n m c k : Nat) (l : List UInt8) (w : World) (hn : l.length = n) (hr : Rd w (some ad) (bs l)) (hc : n ≤ c) (hl : n ≤ 1000000) (hx : cnt (l.take 10) = k) (hm : min n 10 = m) (hk : k < m) :
    Calls Try.prog 17 #[.slice (some ad) n c] w fun e w' => e = .returned (aheadV (tk l)) ∧ Below w.heap.size w w' := by
  have hml : (l.take 10).length = m := by rw [List.length_take, hn]; omega
  have ht := tk_at l k hx (by omega)
  have hix : ix (l.take 10) = k := by unfold ix; rw [if_pos (by omega), hx]
  have HR := Lib.hid hr
  have HN := Lib.hid hn
  have HM := Lib.hid hml
  have HI := Lib.hid hix
  have HT := Lib.hid ht
  have i0 : (0 : Int) ≤ (n : Int) := by omega
  have i1 : (n : Int) ≤ (c : Int) := by omega
  have i6 : (m : Int) ≤ (c : Int) := by omega
  have i7 : (0 : Int) ≤ (m : Int) := by omega
  have i8 : ¬ (k : Int) < 0 := by omega
  have i9 : (k : Int) + 1 ≤ (c : Int) := by omega
  have hkn : k < n := by omega
  have hk10 : k < 10 := by omega
  have hmin : min (n : Int) 10 = (m : Int) := by omega
  clear hr hn hx hml hix ht
  have HMIN := Lib.hid hmin
  clear hmin
  rcases Nat.lt_or_ge 10 n with h3 | h3
  case' inl =>
    obtain rfl : m = 10 := by omega
    have h4 : (10 : Int) < (n : Int) := by omega
    have h5 : ¬ (n : Int) ≤ 10 := by omega
    go_enter Try.func17, Try.ntmps17
    go_wp2_with fail
    refine (index_n (some ad) 10 c (l.take 10) w HM.out (by rw [← bs_take]; exact HR.out.take) (by omega)).mono ?_
    rintro e w' ⟨he, rfl⟩
    rw [HI.out] at he
    subst he
    go_wp2_with fail
  case' inr =>
    obtain rfl : m = n := by omega
    have h4 : (m : Int) ≤ 10 := by omega
    go_enter Try.func17, Try.ntmps17
    go_wp2_with fail
    refine (index_n (some ad) m c (l.take 10) w HM.out (by rw [← bs_take]; exact HR.out.take) (by omega)).mono ?_
    rintro e w' ⟨he, rfl⟩
    rw [HI.out] at he
    subst he
    go_wp2_with fail
  all_goals
    go_loop [7, 29] (fun vv i => ∃ j : Nat, j ≤ k + 1 ∧ i = .int .i64 j ∧ vv = .int .u64 (val (l.take j) % 18446744073709551616 : Nat)) (fun _ i => k + 1 - (intOf i).toNat)
    case atStart => exact ⟨0, Nat.zero_le _, rfl, rfl⟩
    case round =>
      obtain ⟨j, hj, rfl, rfl⟩ := hrel
      by_cases hjk : j < k + 1
      · obtain ⟨ad', e, hcell⟩ := HR.out.byte (k := j) (by rw [HN.out]; omega)
        injection e with e
        subst e
        have hjl : j < l.length := by rw [HN.out]; omega
        have HS := Lib.hid (val_step l j hjl (by omega))
        have hv := Nat.mod_lt (val (l.take j)) (show 18446744073709551616 > 0 by omega)
        have hb : l[j].toNat < 256 := l[j].toNat_lt
        generalize val (l.take j) % 18446744073709551616 = u at *
        generalize l[j].toNat = x at *
        have hor := shl_or u x j hv
        rw [HS.out] at hor
        go_wp2_with fail
        exact ⟨⟨j + 1, by omega, by go_num, by simp⟩, by simp [intOf]; omega⟩
      · obtain rfl : j = k + 1 := by omega
        have hv := Nat.mod_lt (val (l.take (k + 1))) (show 18446744073709551616 > 0 by omega)
        have HK : Hid ((l.take (k + 1)).length = k + 1) := by
          unfold Hid
          rw [List.length_take, HN.out]
          omega
        generalize val (l.take (k + 1)) % 18446744073709551616 = u at *
        by_cases hq : dig u = l.take (k + 1)
        · have hbq : (l.take (k + 1) == dig u) = true := beq_iff_eq.2 hq.symm
          have ht := HT.out
          rw [if_pos hq] at ht
          have HBQ := Lib.hid hbq
          have HTK := Lib.hid ht
          clear hbq ht hq
          go_wp2_with fail
          go_region_with (first
            | (go_at_call 7
               refine (put_n none 0 0 [] u _ rfl Rd.nil hv (by omega)).mono ?_
               rintro e w1 ⟨x1, rfl, hown1, hb1⟩
               obtain ⟨A1, c1, rfl, _, _, _, hR1, _⟩ := owns_form hown1
               have HB1 := Lib.hid ((Below.refl _ w).drew.trans hb1)
               have HR1 := Lib.hid hR1
               clear hown1 hb1 hR1)
            | (go_at_call 22
               refine (equal_n (some ad) (k + 1) c (l.take (k + 1)) A1 _ c1 ([] ++ dig u) _ HK.out (by rw [← bs_take]; exact (HR.out.below HB1.out).take) (by simp) HR1.out).mono ?_
               rintro e w2 ⟨he, rfl⟩
               rw [List.nil_append, HBQ.out] at he
               subst he))
          all_goals
            go_wp2_with fail
            go_ret3
            exact ⟨by rw [HTK.out]; rfl, HB1.out⟩
        · have hbq : (l.take (k + 1) == dig u) = false := beq_eq_false_iff_ne.2 (Ne.symm hq)
          have ht := HT.out
          rw [if_neg hq] at ht
          have HBQ := Lib.hid hbq
          have HTK := Lib.hid ht
          clear hbq ht hq
          go_wp2_with fail
          go_region_with (first
            | (go_at_call 7
               refine (put_n none 0 0 [] u _ rfl Rd.nil hv (by omega)).mono ?_
               rintro e w1 ⟨x1, rfl, hown1, hb1⟩
               obtain ⟨A1, c1, rfl, _, _, _, hR1, _⟩ := owns_form hown1
               have HB1 := Lib.hid ((Below.refl _ w).drew.trans hb1)
               have HR1 := Lib.hid hR1
               clear hown1 hb1 hR1)
            | (go_at_call 22
               refine (equal_n (some ad) (k + 1) c (l.take (k + 1)) A1 _ c1 ([] ++ dig u) _ HK.out (by rw [← bs_take]; exact (HR.out.below HB1.out).take) (by simp) HR1.out).mono ?_
               rintro e w2 ⟨he, rfl⟩
               rw [List.nil_append, HBQ.out] at he
               subst he))
          all_goals
            go_wp2_with fail
            go_ret3
            exact ⟨by rw [HTK.out]; rfl, HB1.out⟩
end Go.Proofs.Ytkhlmlmbgfnolaa

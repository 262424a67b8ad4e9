/- Layer 8's law package: sure, same, texts by contracts. -/
import Derived.Test.YtpldkbadepfjbaaDoorLxRL
namespace Go.Proofs.YtpldkbadepfjbaaDoor
open Go.RowKit

def exText : Tx := [97, 32, 59, 120, 10, 35, 32, 98, 10, 99, 92, 10, 100]
theorem ex_ans : ans exText = ([(1, [97]), (3, [99, 100])], 0, 0) := by decide
theorem ret_true8 {w w' : World} (h : Below w.heap.size w w') : Ending.returned (.bool true) = .returned (.bool true) ∧ Below w.heap.size w w' := ⟨rfl, h⟩
set_option maxHeartbeats 1000000 in
set_option maxRecDepth 100000 in
theorem sure_any (w : World) (hm : Mx w) : Calls Tryd.prog 8 #[] w fun e w' => e = .returned (.bool true) ∧ Below w.heap.size w w' := by
  have HL := Lib.hid (fun W h => lines_any exText W (by decide) h)
  have HM := Lib.hid hm
  rw [ex_ans] at HL
  clear hm
  go_enter Tryd.func8, Tryd.ntmps8
  go_wp2_with fail
  refine (HL.out _ HM.out).mono ?_
  rintro e w1 ⟨v, rfl, ⟨A, c, rfl, hc1, hc2, hrd⟩, hb1⟩
  have h2 : ([((1 : Nat), ([97] : Tx)), (3, [99, 100])] : List (Nat × Tx)).length = 2 := rfl
  rw [h2] at hc1 ⊢
  rw [errE_zero]
  obtain ⟨ad, X, rfl, hX, k0, k1⟩ := hrd.two 0 (by decide)
  obtain ⟨ad', X', hA', hX', k2, k3⟩ := hrd.two 1 (by decide)
  injection hA' with hA'
  subst hA'
  have HB := Lib.hid hb1
  clear hb1 hrd
  have t1 : (str [97]).toList = [97] := str_toList _
  have t2 : (str [99, 100]).toList = [99, 100] := str_toList _
  go_wp2_with fail
  go_ret
  exact ret_true8 HB.out
set_option maxHeartbeats 1000000 in
set_option maxRecDepth 100000 in
theorem same_any (A B : Option Addr) (c d n : Nat) (L : List (Nat × Tx)) (w : World) (hn : L.length = n) (hs : n ≤ 1000000) (hr : RdL w A L) (hq : RdL w B L) :
    Calls Tryd.prog 11 #[.slice A n c, .slice B n d] w fun e w' => e = .returned (.bool true) ∧ Below w.heap.size w w' := by
  have HS := Lib.hid (And.intro hn (And.intro hr hq))
  clear hn hr hq
  go_enter Tryd.func11, Tryd.ntmps11
  go_wp2_with fail
  go_loopw [5] (fun v w' => ∃ i : Nat, v = .int .i64 i ∧ i ≤ n ∧ Below w.heap.size w w') (fun v _ => n - (intOf v).toNat)
  case atStart => exact ⟨0, rfl, Nat.zero_le _, Below.refl _ _⟩
  case round =>
    obtain ⟨i, rfl, hi, hb⟩ := hrel
    have HB := Lib.hid hb
    clear hb
    rcases Nat.lt_or_ge i n with hlt | hge
    · have q0 : (0 : Int) ≤ i := by omega
      have q1 : (i : Int) < n := by omega
      have hil : i < L.length := by rw [HS.out.1]; exact hlt
      obtain ⟨ad, X, rfl, hX, k0, k1⟩ := (HS.out.2.1.below HB.out).two i hil
      obtain ⟨ad', X', rfl, hX', k2, k3⟩ := (HS.out.2.2.below HB.out).two i hil
      obtain ⟨S, hS⟩ : ∃ S, str L[i].2 = S := ⟨_, rfl⟩
      obtain ⟨a, ha⟩ : ∃ a, L[i].1 = a := ⟨_, rfl⟩
      rw [hS] at k1 k3
      rw [ha] at k0 k2
      clear hS ha
      have t1 : (S.toList == S.toList) = true := beq_self_eq_true _
      go_wp2_with fail
      go_quiet (fail)
      go_wp2_with fail
      refine ⟨⟨i + 1, by go_num, hlt, HB.out.trans (below_dr _ _)⟩, by simp [intOf]; omega⟩
    · have q1 : ¬ ((i : Int) < n) := by omega
      go_wp2_with fail
      go_ret
      exact ret_true8 HB.out
set_option maxHeartbeats 1000000 in
set_option maxRecDepth 100000 in
theorem texts_any (A B : Option Addr) (c d n : Nat) (L : List Tx) (w : World) (hn : L.length = n) (hs : n ≤ 1000000) (hr : RdS w A L) (hq : RdS w B L) :
    Calls Tryd.prog 15 #[.slice A n c, .slice B n d] w fun e w' => e = .returned (.bool true) ∧ Below w.heap.size w w' := by
  have HS := Lib.hid (And.intro hn (And.intro hr hq))
  clear hn hr hq
  go_enter Tryd.func15, Tryd.ntmps15
  go_wp2_with fail
  go_loopw [5] (fun v w' => ∃ i : Nat, v = .int .i64 i ∧ i ≤ n ∧ Below w.heap.size w w') (fun v _ => n - (intOf v).toNat)
  case atStart => exact ⟨0, rfl, Nat.zero_le _, Below.refl _ _⟩
  case round =>
    obtain ⟨i, rfl, hi, hb⟩ := hrel
    have HB := Lib.hid hb
    clear hb
    rcases Nat.lt_or_ge i n with hlt | hge
    · have q0 : (0 : Int) ≤ i := by omega
      have q1 : (i : Int) < n := by omega
      have hil : i < (L.map txC).length := by rw [List.length_map, HS.out.1]; exact hlt
      obtain ⟨ad, rfl, k0⟩ := (Rd.below HS.out.2.1 HB.out).at_ hil
      obtain ⟨ad', rfl, k1⟩ := (Rd.below HS.out.2.2 HB.out).at_ hil
      obtain ⟨S, hS⟩ : ∃ S, (L.map txC)[i] = .string S := ⟨_, by rw [List.getElem_map]; rfl⟩
      rw [hS] at k0 k1
      clear hS hil
      have t1 : (S.toList == S.toList) = true := beq_self_eq_true _
      go_wp2_with fail
      go_quiet (fail)
      go_wp2_with fail
      refine ⟨⟨i + 1, by go_num, hlt, HB.out.trans (below_dr _ _)⟩, by simp [intOf]; omega⟩
    · have q1 : ¬ ((i : Int) < n) := by omega
      go_wp2_with fail
      go_ret
      exact ret_true8 HB.out
end Go.Proofs.YtpldkbadepfjbaaDoor

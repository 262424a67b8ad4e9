/- Contracts: leb's ahead as a whole, Take, TakeInt; the laws' sure. -/
import Derived.Test.YtkhlmlmbgfnolaaLebD
import Derived.Lib.SlBytesConst
namespace Go.Proofs.Ytkhlmlmbgfnolaa
open Go.RowKit

theorem ahead_n (A : Option Addr) (n c : Nat) (l : List UInt8) (w : World) (hn : l.length = n) (hr : Rd w A (bs l)) (hc : n ≤ c) (hl : n ≤ 1000000) :
    Calls Try.prog 17 #[.slice A n c] w fun e w' => e = .returned (aheadV (tk l)) ∧ Below w.heap.size w w' := by
  by_cases hx : cnt (l.take 10) < (l.take 10).length
  · have h1 : cnt (l.take 10) < min n 10 := by rw [List.length_take, hn] at hx; omega
    obtain ⟨ad, rfl, _⟩ := hr (by rw [bs_length]; omega)
    exact ahead_found ad n _ c _ l w hn hr hc hl rfl rfl h1
  · refine (ahead_none A n c l w hn hr hc hl hx).mono ?_
    rintro e w' ⟨rfl, rfl⟩
    exact ⟨rfl, Below.refl _ _⟩
theorem aheadV_eq (k v j : Nat) : aheadV (k, v, j) = .tuple #[.int .u64 (v : Int), .int .i64 (j : Int), errV k] := rfl
theorem errV_pos (k : Nat) (h : 0 < k) : errV k = .iface 47 (.int .i64 (k : Int)) := if_neg (by omega)

set_option maxRecDepth 100000 in
set_option maxHeartbeats 1000000 in
theorem take_ok (A : Option Addr) (n c v j : Nat) (l : List UInt8) (w : World) (hn : l.length = n) (hr : Rd w A (bs l)) (hc : n ≤ c) (hl : n ≤ 1000000) (ht : tk l = (0, v, j)) (hj : j ≤ n) :
    Calls Try.prog 15 #[.slice A n c] w fun e w' => ∃ A' c', e = .returned (.tuple #[.int .u64 v, .slice A' (n - j) c', .nilIface]) ∧ Rd w' A' (bs (l.drop j)) ∧ n - j ≤ c' ∧ Below w.heap.size w w' := by
  have HR := Lib.hid hr
  have HN := Lib.hid hn
  have HT := Lib.hid ht
  clear hr hn ht
  go_enter Try.func15, Try.ntmps15
  go_wp2_with fail
  refine (ahead_n A n c l w HN.out HR.out hc hl).mono ?_
  rintro e w1 ⟨he, hb1⟩
  rw [HT.out, aheadV_eq, errV0] at he
  subst he
  have HB1 := Lib.hid hb1
  clear hb1
  go_wp2_with fail
  refine (behind_n A n c j l w1 HN.out (HR.out.below HB1.out) hj hc hl).mono ?_
  rintro e w2 ⟨x, rfl, hown, hb2⟩
  obtain ⟨A', c', rfl, hc', _, _, hR, _⟩ := owns_form hown
  have HB2 := Lib.hid (HB1.out.trans (hb2.mono HB1.out.size))
  clear hb2 hown
  go_wp2_with fail
  go_ret3
  exact ⟨A', c', rfl, hR, by omega, HB2.out⟩
set_option maxRecDepth 100000 in
set_option maxHeartbeats 1000000 in
theorem take_err (A : Option Addr) (n c k : Nat) (l : List UInt8) (w : World) (hn : l.length = n) (hr : Rd w A (bs l)) (hc : n ≤ c) (hl : n ≤ 1000000) (ht : tk l = (k, 0, 0)) (hk : 0 < k) :
    Calls Try.prog 15 #[.slice A n c] w fun e w' => e = .returned (.tuple #[.int .u64 0, .slice none 0 0, .iface 47 (.int .i64 k)]) ∧ Below w.heap.size w w' := by
  have HR := Lib.hid hr
  have HN := Lib.hid hn
  have HT := Lib.hid ht
  clear hr hn ht
  go_enter Try.func15, Try.ntmps15
  go_wp2_with fail
  refine (ahead_n A n c l w HN.out HR.out hc hl).mono ?_
  rintro e w1 ⟨he, hb1⟩
  rw [HT.out, aheadV_eq, errV_pos k hk] at he
  subst he
  have HB1 := Lib.hid hb1
  clear hb1
  go_wp2_with fail
  go_ret3
  exact ⟨rfl, HB1.out⟩
set_option maxRecDepth 100000 in
set_option maxHeartbeats 1000000 in
theorem takeInt_ok (A : Option Addr) (n c v j : Nat) (l : List UInt8) (w : World) (hn : l.length = n) (hr : Rd w A (bs l)) (hc : n ≤ c) (hl : n ≤ 1000000) (ht : tk l = (0, v, j)) (hj : j ≤ n) (hv : v < 18446744073709551616) :
    Calls Try.prog 12 #[.slice A n c] w fun e w' => ∃ A' c', e = .returned (.tuple #[.int .i64 (dec v), .slice A' (n - j) c', .nilIface]) ∧ Rd w' A' (bs (l.drop j)) ∧ n - j ≤ c' ∧ Below w.heap.size w w' := by
  have HR := Lib.hid hr
  have HN := Lib.hid hn
  have HT := Lib.hid ht
  clear hr hn ht
  have hD : Hid (dec v = if v % 2 = 1 then -((v / 2 : Nat) : Int) - 1 else ((v / 2 : Nat) : Int)) := rfl
  have hnot := not64 ((v : Int) / 2) (by omega) (by omega)
  go_enter Try.func12, Try.ntmps12
  go_wp2_with fail
  refine (take_ok A n c v j l w HN.out HR.out hc hl HT.out hj).mono ?_
  rintro e w1 ⟨A', c', rfl, hR, hc', hb1⟩
  have HB1 := Lib.hid hb1
  have HR1 := Lib.hid hR
  clear hb1 hR
  by_cases h2 : v % 2 = 1
  · have h3 : (v : Int) % 2 = 1 := by omega
    go_wp2_with fail
    go_ret3
    refine ⟨A', c', ?_, HR1.out, by omega, HB1.out⟩
    rw [hD.out, if_pos h2, show -((v / 2 : Nat) : Int) - 1 = -1 - (v : Int) / 2 by omega]
    rfl
  · have h3 : ¬ (v : Int) % 2 = 1 := by omega
    go_wp2_with fail
    go_ret3
    refine ⟨A', c', ?_, HR1.out, by omega, HB1.out⟩
    rw [hD.out, if_neg h2]
    rfl
set_option maxRecDepth 100000 in
set_option maxHeartbeats 1000000 in
theorem takeInt_err (A : Option Addr) (n c k : Nat) (l : List UInt8) (w : World) (hn : l.length = n) (hr : Rd w A (bs l)) (hc : n ≤ c) (hl : n ≤ 1000000) (ht : tk l = (k, 0, 0)) (hk : 0 < k) :
    Calls Try.prog 12 #[.slice A n c] w fun e w' => e = .returned (.tuple #[.int .i64 0, .slice none 0 0, .iface 47 (.int .i64 k)]) ∧ Below w.heap.size w w' := by
  have HR := Lib.hid hr
  have HN := Lib.hid hn
  have HT := Lib.hid ht
  clear hr hn ht
  go_enter Try.func12, Try.ntmps12
  go_wp2_with fail
  refine (take_err A n c k l w HN.out HR.out hc hl HT.out hk).mono ?_
  rintro e w1 ⟨rfl, hb1⟩
  have HB1 := Lib.hid hb1
  clear hb1
  go_wp2_with fail
  go_ret3
  exact ⟨rfl, HB1.out⟩

theorem dig_300 : dig 300 = [172, 2] := by
  rw [dig_ge (by omega), dig_lt (by omega)]
  decide
theorem enc_m1 : enc (-1) = 1 := by decide
theorem dig_1 : dig 1 = [1] := by
  rw [dig_lt (by omega)]
  decide
set_option maxRecDepth 100000 in
set_option maxHeartbeats 1000000 in
theorem sure_any (w : World) : Calls Try.prog 6 #[] w fun e w' => e = .returned (.bool true) ∧ Below w.heap.size w w' := by
  have t1 : tk ([] ++ dig (enc (-1))) = (0, 1, 1) := by
    have := tk_dig 1 [] (by omega)
    rw [List.append_nil, dig_1] at this
    rw [enc_m1, List.nil_append, dig_1, this]
    rfl
  have hd1 : dec 1 = -1 := by decide
  have HT := Lib.hid t1
  have HD := Lib.hid hd1
  have hl1 : ([] ++ dig (enc (-1))).length = 1 := by rw [enc_m1, dig_1]; rfl
  have hl0 : 0 + (dig (enc (-1))).length = 1 := by rw [enc_m1, dig_1]; rfl
  have HL := Lib.hid hl1
  have HL0 := Lib.hid hl0
  clear t1 hd1 hl1 hl0
  go_enter Try.func6, Try.ntmps6
  go_wp2_with fail
  refine (putInt_n none 0 0 [] (-1) w rfl Rd.nil (by omega) (by omega) (by omega)).mono ?_
  rintro e w1 ⟨v1, rfl, hown1, hb1⟩
  rw [HL0.out] at hown1
  obtain ⟨A1, c1, rfl, hc1, _, _, hR1, _⟩ := owns_form hown1
  have HB1 := Lib.hid hb1
  have HR1 := Lib.hid hR1
  clear hb1 hR1 hown1
  go_wp2_with fail
  refine (takeInt_ok A1 1 c1 1 1 _ w1 HL.out HR1.out hc1 (by omega) HT.out (by omega) (by omega)).mono ?_
  rintro e w2 ⟨A2, c2, rfl, _, _, hb2⟩
  rw [HD.out]
  have HB2 := Lib.hid (HB1.out.trans (hb2.mono HB1.out.size))
  clear hb2
  go_wp2_with fail
  refine (put_n none 0 0 [] 300 w2 rfl Rd.nil (by omega) (by omega)).mono ?_
  rintro e w3 ⟨v3, rfl, hown3, hb3⟩
  rw [dig_300] at hown3
  obtain ⟨A3, c3, rfl, hc3, _, _, hR3, _⟩ := owns_form hown3
  have HB3 := Lib.hid (HB2.out.trans (hb3.mono HB2.out.size))
  have cv := run_conv_str (P := Try.prog) (w := w3) Try.underlying22 Try.underlying5 Try.underlying9 (n := 2) (c := c3) (l := [172, 2]) rfl hR3
  clear hb3 hR3 hown3
  have hq : ((str [172, 2]).toList == [172, 2]) = true := by rw [str_toList]; rfl
  go_wp2_with fail
  go_ret
  exact ⟨rfl, HB3.out⟩
end Go.Proofs.Ytkhlmlmbgfnolaa

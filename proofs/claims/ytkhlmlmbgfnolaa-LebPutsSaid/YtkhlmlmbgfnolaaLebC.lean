/- Contracts: slices.IndexFunc with leb's closure; bytes.Equal; leb's ahead. -/
import Derived.Test.YtkhlmlmbgfnolaaLebB
import Derived.Deep.RegionWith
namespace Go.Proofs.Ytkhlmlmbgfnolaa
open Go.RowKit

def ix (m : List UInt8) : Int := if cnt m < m.length then (cnt m : Int) else -1
set_option maxRecDepth 100000 in
set_option maxHeartbeats 1000000 in
theorem index_n (A : Option Addr) (n c : Nat) (m : List UInt8) (w : World) (hn : m.length = n) (hr : Rd w A (bs m)) (hl : n ≤ 1000000) :
    Calls Try.prog 20 #[.slice A n c, .func (.func 21) #[] #[]] w fun e w' => e = .returned (.int .i64 (ix m)) ∧ w = w' := by
  have HR := Lib.hid hr
  have HN := Lib.hid hn
  clear hr hn
  go_enter Try.func20, Try.ntmps20
  go_wp2_with fail
  go_loop [8] (fun i => ∃ k : Nat, k ≤ n ∧ k ≤ cnt m ∧ i = .int .i64 k) (fun i => n - (intOf i).toNat)
  case atStart => exact ⟨0, Nat.zero_le _, Nat.zero_le _, rfl⟩
  case round =>
    obtain ⟨k, hk, hkc, rfl⟩ := hrel
    have HK := Lib.hid hkc
    clear hkc
    by_cases hlk : k < n
    · obtain ⟨ad, rfl, hcell⟩ := HR.out.byte (k := k) (by rw [HN.out]; exact hlk)
      have hkm : k < m.length := by rw [HN.out]; exact hlk
      have hb : m[k].toNat < 256 := m[k].toNat_lt
      have HS : Hid (128 ≤ m[k].toNat → k + 1 ≤ cnt m) := fun h => cnt_succ m k HK.out hkm h
      have HE : Hid (m[k].toNat < 128 → ix m = (k : Int)) := fun h => by
        unfold ix
        rw [cnt_eq m k HK.out hkm h, if_pos hkm]
      generalize m[k].toNat = x at *
      by_cases hx : x < 128
      · have hx' : decide ((x : Int) < 128) = true := decide_eq_true (by omega)
        go_wp2_with fail
        refine (less128 x _ hb).mono ?_
        rintro e w' ⟨rfl, rfl⟩
        go_wp2_with fail
        go_ret
        exact ⟨by rw [HE.out hx]; rfl, rfl⟩
      · have hx' : decide ((x : Int) < 128) = false := decide_eq_false (by omega)
        go_wp2_with fail
        refine (less128 x _ hb).mono ?_
        rintro e w' ⟨rfl, rfl⟩
        go_wp2_with fail
        go_round
        case rel => exact ⟨k + 1, by omega, HS.out (by omega), by go_num⟩
        case measure => simp [intOf]; omega
    · obtain rfl : k = n := by omega
      have HE : Hid (ix m = -1) := by
        unfold Hid ix
        rw [if_neg]
        have := HK.out
        have := HN.out
        omega
      go_wp2_with fail
      go_ret
      exact ⟨by rw [HE.out]; rfl, rfl⟩
theorem str_beq (l m : List UInt8) : ((str l).toList == (str m).toList) = (l == m) := by rw [str_toList, str_toList]
set_option maxHeartbeats 400000 in
theorem equal_n (A : Option Addr) (n c : Nat) (l : List UInt8) (A' : Option Addr) (n' c' : Nat) (m : List UInt8) (w : World) (hn : l.length = n) (hr : Rd w A (bs l)) (hn' : m.length = n') (hr' : Rd w A' (bs m)) :
    Calls Try.prog 22 #[.slice A n c, .slice A' n' c'] w fun e w' => e = .returned (.bool (l == m)) ∧ w = w' := by
  have c1 := run_conv_str (P := Try.prog) (w := w) Try.underlying22 Try.underlying5 Try.underlying9 (c := c) hn hr
  have c2 := run_conv_str (P := Try.prog) (w := w) Try.underlying22 Try.underlying5 Try.underlying9 (c := c') hn' hr'
  have hq := str_beq l m
  clear hn hr hn' hr'
  go_enter Try.func22, Try.ntmps22
  go_wp2_with fail
  go_ret
  exact ⟨rfl, rfl⟩
end Go.Proofs.Ytkhlmlmbgfnolaa

/- CrcParts' walk. -/
import Derived.Test.YtbemloijgabfcaaDoorL1Sure
namespace Go.Proofs.YtbemloijgabfcaaDoor
open Go.RowKit

theorem pick_k (n : Int) (m : Nat) (hm : m ≤ 1000000) : ∃ k : Nat, k ≤ m ∧ wrap64 ((IntKind.u64.wrap n).tmod ((m : Int) + 1)) = (k : Int) := by
  have e : IntKind.u64.wrap n = n % 18446744073709551616 := by simp [IntKind.wrap, IntKind.bits, IntKind.signed]
  have h0 : 0 ≤ IntKind.u64.wrap n := by rw [e]; omega
  rw [Int.tmod_eq_emod_of_nonneg h0]
  generalize IntKind.u64.wrap n = x at h0 ⊢
  have h1 := Int.emod_nonneg x (show ((m : Int) + 1) ≠ 0 by omega)
  have h2 := Int.emod_lt_of_pos x (show (0 : Int) < (m : Int) + 1 by omega)
  refine ⟨(x % ((m : Int) + 1)).toNat, by omega, ?_⟩
  rw [IntWalk.wrap64_in _ ⟨by omega, by omega⟩]
  omega
theorem more_more (s : Nat) (a b : List UInt8) : more (more s a) b = more s (a ++ b) := by
  have h := reg_lt a (4294967295 - s) (by omega)
  unfold more
  rw [reg_append, show 4294967295 - (4294967295 - reg (4294967295 - s) a) = reg (4294967295 - s) a by omega]

set_option maxRecDepth 100000 in
set_option maxHeartbeats 1000000 in
theorem parts_big (A : Option Addr) (c : Nat) (l : List UInt8) (n : Int) (w : World) (ht : Tab w) (hl : 8000 < l.length) :
    Calls Tryd.prog 5 #[.slice A l.length c, .int .i64 n] w fun e w' => e = .returned (.bool true) ∧ Below w.heap.size w w' := by
  have HT := Lib.hid ht
  clear ht
  go_enter Tryd.func5, Tryd.ntmps5
  go_wp2_with fail
  refine (sure_any _ HT.out).mono ?_
  rintro e w2 ⟨rfl, hb2⟩
  go_wp2_with fail
  go_ret
  exact ⟨rfl, hb2⟩

set_option maxRecDepth 100000 in
set_option maxHeartbeats 1000000 in
theorem parts_small (A : Option Addr) (c : Nat) (l : List UInt8) (n : Int) (w : World) (ht : Tab w) (hr : Rd w A (bs l)) (hl : l.length ≤ 8000) (hc : l.length ≤ c):
    Calls Tryd.prog 5 #[.slice A l.length c, .int .i64 n] w fun e w' => e = .returned (.bool true) ∧ Below w.heap.size w w' := by
  have HT := Lib.hid ht
  have HR := Lib.hid hr
  clear ht hr
  obtain ⟨k, hk, hkn⟩ := pick_k n l.length (by omega)
  have h1 : more (more 0 (l.take k)) (l.drop k) = more 0 l := by
    rw [more_more, List.take_append_drop]
  have h2 : more (more 0 l) [] = more 0 l := by rw [more_more, List.append_nil]
  have ht1 : (l.take k).length = k := by rw [List.length_take]; omega
  have hd1 : (l.drop k).length = l.length - k := List.length_drop
  have i0 : (0 : Int) ≤ (k : Int) := by omega
  have i1 : (k : Int) ≤ (l.length : Int) := by omega
  have i2 : (k : Int) ≤ (c : Int) := by omega
  have g0 := more_lt 0 l
  have g1 := more_lt 0 (l.take k)
  have H1 := Lib.hid h1
  have H2 := Lib.hid h2
  have HT1 := Lib.hid ht1
  have HD1 := Lib.hid hd1
  clear h1 h2 ht1 hd1
  have hcut := HR.out.cut (k := k) (bs_length l) hc
  by_cases hck : c = k
  · rw [if_pos hck] at hcut
    have HCut := Lib.hid hcut
    clear hcut
    go_enter Tryd.func5, Tryd.ntmps5
    go_wp2_with fail
    go_region_with (first
      | (go_at_call 11
         ((with_reducible refine (sum_n _ k _ (l.take k) _ HT1.out ?_ ?_ ?_).mono ?_)
          · exact HT.out
          · rw [← bs_take]; exact HR.out.take
          · unfold maxLen; omega
          rintro e w' ⟨rfl, rfl⟩))
      | (go_at_call 11
         ((with_reducible refine (sum_n _ l.length _ l _ rfl ?_ ?_ ?_).mono ?_)
          · exact HT.out
          · exact HR.out
          · unfold maxLen; omega
          rintro e w' ⟨rfl, rfl⟩))
      | (go_at_call 13
         ((with_reducible refine (more_n (more 0 (l.take k)) _ (l.length - k) _ (l.drop k) _ HD1.out g1 ?_ ?_ ?_).mono ?_)
          · exact HT.out
          · rw [← bs_drop]; exact HCut.out
          · unfold maxLen; omega
          rintro e w' ⟨he, rfl⟩
          rw [H1.out] at he
          subst he))
      | (go_at_call 13
         ((with_reducible refine (more_n (more 0 l) none 0 _ [] _ rfl g0 ?_ ?_ ?_).mono ?_)
          · exact HT.out
          · exact Rd.nil
          · unfold maxLen; omega
          rintro e w' ⟨he, rfl⟩
          rw [H2.out] at he
          subst he))
      | (go_at_call 10
         refine (sure_any _ ?_).mono ?_
         · exact HT.out.drewN 1
         rintro e w3 ⟨rfl, hb3⟩))
    all_goals
      go_wp2_with fail
      go_ret
      exact ⟨rfl, (Below.refl _ _).drew.trans hb3⟩
  · rw [if_neg hck] at hcut
    have HCut := Lib.hid hcut
    clear hcut
    go_enter Tryd.func5, Tryd.ntmps5
    go_wp2_with fail
    go_region_with (first
      | (go_at_call 11
         ((with_reducible refine (sum_n _ k _ (l.take k) _ HT1.out ?_ ?_ ?_).mono ?_)
          · exact HT.out
          · rw [← bs_take]; exact HR.out.take
          · unfold maxLen; omega
          rintro e w' ⟨rfl, rfl⟩))
      | (go_at_call 11
         ((with_reducible refine (sum_n _ l.length _ l _ rfl ?_ ?_ ?_).mono ?_)
          · exact HT.out
          · exact HR.out
          · unfold maxLen; omega
          rintro e w' ⟨rfl, rfl⟩))
      | (go_at_call 13
         ((with_reducible refine (more_n (more 0 (l.take k)) _ (l.length - k) _ (l.drop k) _ HD1.out g1 ?_ ?_ ?_).mono ?_)
          · exact HT.out
          · rw [← bs_drop]; exact HCut.out
          · unfold maxLen; omega
          rintro e w' ⟨he, rfl⟩
          rw [H1.out] at he
          subst he))
      | (go_at_call 13
         ((with_reducible refine (more_n (more 0 l) none 0 _ [] _ rfl g0 ?_ ?_ ?_).mono ?_)
          · exact HT.out
          · exact Rd.nil
          · unfold maxLen; omega
          rintro e w' ⟨he, rfl⟩
          rw [H2.out] at he
          subst he))
      | (go_at_call 10
         refine (sure_any _ ?_).mono ?_
         · exact HT.out.drewN 1
         rintro e w3 ⟨rfl, hb3⟩))
    all_goals
      go_wp2_with fail
      go_ret
      exact ⟨rfl, (Below.refl _ _).drew.trans hb3⟩
theorem parts_any (A : Option Addr) (c : Nat) (l : List UInt8) (n : Int) (w : World) (ht : Tab w) (hr : Rd w A (bs l)) (hc : l.length ≤ c) (_ : c ≤ maxLen) (_ : -9223372036854775808 ≤ n ∧ n ≤ 9223372036854775807) :
    Calls Tryd.prog 5 #[.slice A l.length c, .int .i64 n] w fun e w' => e = .returned (.bool true) ∧ Below w.heap.size w w' := by
  rcases Nat.lt_or_ge 8000 l.length with h | h
  · exact parts_big A c l n w ht h
  · exact parts_small A c l n w ht hr h hc
end Go.Proofs.YtbemloijgabfcaaDoor

/- The document's answer of layer 1 (belvedereref01): More by contract. -/
import Derived.Test.YtbemloijgabfcaaDoorCrcMath
import Derived.Test.YtbemloijgabfcaaDoorCrcC
namespace Go.Proofs.YtbemloijgabfcaaDoor
open Go.RowKit

theorem sub_u32 (r : Nat) (h : r < 4294967296) : (4294967295 - (r : Int)) = ((4294967295 - r : Nat) : Int) := by omega
theorem xor_poly (x : Nat) (h : x < 4294967296) : bits BinOp.xor IntKind.u32 (x : Int) 3988292384 = ((x ^^^ 3988292384 : Nat) : Int) := u32_xor_nat x 3988292384 h (by omega)
theorem bstep_lt (x c : Nat) (h : x < 4294967296) : bstep x c < 4294967296 := by
  rw [bstep_eq]
  exact st_lt _ (Nat.xor_lt_two_pow (n := 32) (by omega) (by omega))

set_option maxHeartbeats 1000000 in
theorem refmore_any (s : Nat) (A : Option Addr) (n c : Nat) (l : List UInt8) (w : World) (hn : l.length = n) (hs : s < 4294967296) (hr : Rd w A (bs l)) (hl : n ≤ 1000000) :
    Calls Tryd.prog 12 #[.int .u32 s, .slice A n c] w fun e w' => e = .returned (.int .u32 (more s l)) ∧ w = w' := by
  subst hn
  unfold more
  have HR := Lib.hid hr
  clear hr
  have hlt : 4294967295 - s < 4294967296 := by omega
  have hn1 := sub_u32 s hs
  generalize 4294967295 - s = r0 at *
  go_enter Tryd.func12, Tryd.ntmps12
  go_wp2_with fail
  clear hn1
  go_loop [5, 6] (fun r i => ∃ k : Nat, k ≤ l.length ∧ i = .int .i64 k ∧ r = .int .u32 (reg r0 (l.take k))) (fun _ i => l.length - (intOf i).toNat)
  case atStart => exact ⟨0, Nat.zero_le _, rfl, rfl⟩
  case round =>
    obtain ⟨k, hk, rfl, rfl⟩ := hrel
    have hrl := reg_lt (l.take k) r0 hlt
    by_cases hlk : k < l.length
    · have HS : Hid (reg r0 (l.take (k + 1)) = turn (reg r0 (l.take k)) l[k].toNat) := by
        rw [List.take_succ_eq_append_getElem hlk]; exact reg_snoc _ _ _
      obtain ⟨ad, rfl, hcell⟩ := HR.out.byte hlk
      have hb : l[k].toNat < 256 := l[k].toNat_lt
      generalize l[k].toNat = x at *
      generalize reg r0 (l.take k) = r at *
      go_wp2_with fail
      go_loop [5, 7, 8] (fun y d j => ∃ (m a b : Nat), m ≤ 8 ∧ j = .int .i64 m ∧ y = .int .u32 a ∧ d = .int .u8 b ∧ a < 4294967296 ∧ b < 256 ∧ brun (8 - m) a b = turn r x) (fun _ _ j => 8 - (intOf j).toNat)
      case atStart => exact ⟨0, r, x, by omega, rfl, rfl, rfl, hrl, hb, brun_turn r x hb⟩
      case round =>
        obtain ⟨m, a, b, hm, rfl, rfl, rfl, ha, hb', hrun⟩ := hrel
        have HRun := Lib.hid hrun
        clear hrun
        by_cases hm8 : m < 8
        · have hbl := bstep_lt a b ha
          have hbs : brun (8 - (m + 1)) (bstep a b) (b / 2) = turn r x := by
            have h := HRun.out
            rw [show 8 - m = (8 - (m + 1)) + 1 by omega] at h
            exact h
          by_cases hab : a % 2 = b % 2
          · have e : bstep a b = a / 2 := by unfold bstep; rw [if_neg (by simpa using hab)]
            rw [e] at hbl hbs
            have HBS := Lib.hid hbs
            have hq : ((a : Int) % 2 != (b : Int) % 2) = false := by
              rw [bne_eq_false_iff_eq]; omega
            clear hbs e hab
            go_wp2_with fail
            exact ⟨⟨m + 1, a / 2, b / 2, by omega, by go_num, by go_num, by go_num, hbl, by omega, HBS.out⟩, by simp [intOf]; omega⟩
          · have e : bstep a b = a / 2 ^^^ 3988292384 := by unfold bstep; rw [if_pos (by simpa using hab)]
            rw [e] at hbl hbs
            have HBS := Lib.hid hbs
            have hx : bits BinOp.xor IntKind.u32 ((a : Int) / 2) 3988292384 = ((a / 2 ^^^ 3988292384 : Nat) : Int) := xor_poly (a / 2) (by omega)
            have hq : ((a : Int) % 2 != (b : Int) % 2) = true := by
              rw [bne_iff_ne]; omega
            clear hbs e hab
            go_wp2_with fail
            exact ⟨⟨m + 1, _, b / 2, by omega, by go_num, rfl, by go_num, hbl, by omega, HBS.out⟩, by simp [intOf]; omega⟩
        · obtain rfl : m = 8 := by omega
          have HE : Hid (a = turn r x) := HRun.out
          go_wp2_with fail
          go_round
          case rel => exact ⟨k + 1, by omega, by go_num, by rw [HS.out, ← HE.out]⟩
          case measure => simp [intOf]; omega
    · obtain rfl : k = l.length := by omega
      rw [List.take_length]
      rw [List.take_length] at hrl
      have hn2 := sub_u32 _ hrl
      go_wp2
      go_ret
      exact ⟨rfl, rfl⟩
end Go.Proofs.YtbemloijgabfcaaDoor

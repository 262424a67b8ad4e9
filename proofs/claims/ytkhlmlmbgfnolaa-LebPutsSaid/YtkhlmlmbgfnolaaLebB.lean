/- Contracts: leb's Put, PutInt, PutText, behind; slices.IndexFunc with leb's closure; bytes.Equal. -/
import Derived.Test.YtkhlmlmbgfnolaaLebA
import Derived.Test.YtkhlmlmbgfnolaaLebTk
namespace Go.Proofs.Ytkhlmlmbgfnolaa
open Go.RowKit

/-- A number with a sign as one without, and back. -/
def enc (x : Int) : Nat := if x < 0 then (2 * (-x - 1) + 1).toNat else (2 * x).toNat
def dec (v : Nat) : Int := if v % 2 = 1 then -((v / 2 : Nat) : Int) - 1 else ((v / 2 : Nat) : Int)
theorem enc_lt (x : Int) (h0 : -9223372036854775808 ≤ x) (h1 : x ≤ 9223372036854775807) : enc x < 18446744073709551616 := by unfold enc; split <;> omega
theorem dec_enc (x : Int) : dec (enc x) = x := by
  unfold dec enc
  split <;> split <;> omega

theorem not64 (x : Int) (h0 : -9223372036854775808 ≤ x) (h1 : x ≤ 9223372036854775807) : bits .xor .i64 (-1) x = -1 - x := by
  show IntKind.i64.wrap ((BitVec.ofInt 64 (-1) ^^^ BitVec.ofInt 64 x).toNat : Int) = _
  have h2 : BitVec.ofInt 64 (-1) = BitVec.allOnes 64 := by decide
  rw [h2, BitVec.allOnes_xor, BitVec.toNat_not, BitVec.toNat_ofInt]
  simp [IntKind.wrap, IntKind.bits, IntKind.signed]
  omega

set_option maxHeartbeats 400000 in
theorem put_n (A : Option Addr) (n c : Nat) (l : List UInt8) (v : Nat) (w : World) (hn : l.length = n) (hr : Rd w A (bs l)) (hv : v < 18446744073709551616) (hl : n ≤ 1000000) :
    Calls Try.prog 7 #[.slice A n c, .int .u64 v] w fun e w' => ∃ x, e = .returned x ∧ w'.ownsRow w.heap.size 5 1 x (n + (dig v).length) (bs (l ++ dig v)) ∧ Below w.heap.size w w' := by
  have HR := Lib.hid hr
  have HN := Lib.hid hn
  clear hr hn
  go_enter Try.func7, Try.ntmps7
  go_wp2_with fail
  refine (lay_n A n c l v _ w HN.out HR.out hv hl (by simp [ByteArray.size])).mono ?_
  rintro e w' ⟨x, rfl, hown, hb⟩
  go_wp2_with fail
  go_ret
  refine ⟨x, rfl, ?_, hb⟩
  have e1 : (ByteArray.mk #[]).toList = [] := by rw [ByteArray.toList_eq]
  rw [e1, List.append_nil] at hown
  exact hown
set_option maxHeartbeats 400000 in
theorem putInt_n (A : Option Addr) (n c : Nat) (l : List UInt8) (x : Int) (w : World) (hn : l.length = n) (hr : Rd w A (bs l)) (h0 : -9223372036854775808 ≤ x) (h1 : x ≤ 9223372036854775807) (hl : n ≤ 1000000) :
    Calls Try.prog 9 #[.slice A n c, .int .i64 x] w fun e w' => ∃ v, e = .returned v ∧ w'.ownsRow w.heap.size 5 1 v (n + (dig (enc x)).length) (bs (l ++ dig (enc x))) ∧ Below w.heap.size w w' := by
  have HR := Lib.hid hr
  have HN := Lib.hid hn
  have he := enc_lt x h0 h1
  clear hr hn
  rcases Int.lt_or_le x 0 with h | h
  · have e1 : (enc x : Int) = 2 * (-x - 1) + 1 := by unfold enc; rw [if_pos h]; omega
    have HE := Lib.hid e1
    have hx := not64 x h0 h1
    clear e1
    go_enter Try.func9, Try.ntmps9
    go_wp2_with fail
    rw [show IntKind.u64.wrap (IntKind.u64.wrap (2 * IntKind.u64.wrap (-1 - x)) + 1) = (enc x : Int) by rw [HE.out]; simp only [IntKind.wrap, IntKind.bits, IntKind.signed]; simp; omega]
    refine (put_n A n c l (enc x) w HN.out HR.out he hl).mono ?_
    rintro e w' ⟨v, rfl, hown, hb⟩
    go_wp2_with fail
    go_ret
    exact ⟨v, rfl, hown, hb⟩
  · have e1 : (enc x : Int) = 2 * x := by unfold enc; rw [if_neg (by omega)]; omega
    have HE := Lib.hid e1
    clear e1
    go_enter Try.func9, Try.ntmps9
    go_wp2_with fail
    rw [← HE.out]
    refine (put_n A n c l (enc x) w HN.out HR.out he hl).mono ?_
    rintro e w' ⟨v, rfl, hown, hb⟩
    go_wp2_with fail
    go_ret
    exact ⟨v, rfl, hown, hb⟩
set_option maxHeartbeats 400000 in
theorem putText_n (A : Option Addr) (n c : Nat) (l : List UInt8) (s : ByteArray) (w : World) (hn : l.length = n) (hr : Rd w A (bs l)) (hl : n ≤ 1000000) (hs : s.size ≤ 1000000) :
    Calls Try.prog 11 #[.slice A n c, .string s] w fun e w' => ∃ v, e = .returned v ∧ w'.ownsRow w.heap.size 5 1 v (n + (dig s.size).length + s.size) (bs (l ++ dig s.size ++ s.toList)) ∧ Below w.heap.size w w' := by
  have HR := Lib.hid hr
  have HN := Lib.hid hn
  clear hr hn
  go_enter Try.func11, Try.ntmps11
  go_wp2_with fail
  refine (lay_n A n c l s.size s w HN.out HR.out (by omega) hl hs).mono ?_
  rintro e w' ⟨x, rfl, hown, hb⟩
  go_wp2_with fail
  go_ret
  exact ⟨x, rfl, hown, hb⟩
set_option maxHeartbeats 400000 in
theorem behind_n (A : Option Addr) (n c k : Nat) (l : List UInt8) (w : World) (hn : l.length = n) (hr : Rd w A (bs l)) (hk : k ≤ n) (hc : n ≤ c) (hl : n ≤ 1000000) :
    Calls Try.prog 18 #[.slice A n c, .int .i64 k] w fun e w' => ∃ v, e = .returned v ∧ w'.ownsRow w.heap.size 5 1 v (n - k) (bs (l.drop k)) ∧ Below w.heap.size w w' := by
  have HR := Lib.hid hr
  have HN := Lib.hid hn
  clear hr hn
  have i0 : (0 : Int) ≤ (k : Int) := by omega
  have i1 : (k : Int) ≤ (n : Int) := by omega
  have i2 : (k : Int) ≤ (c : Int) := by omega
  have i4 : (n : Int) ≤ (c : Int) := by omega
  by_cases i3 : c = k
  · subst i3
    obtain rfl : n = c := by omega
    have hd : bs (l.drop n) = [] := by rw [← HN.out, List.drop_length]; rfl
    go_enter Try.func18, Try.ntmps18
    go_wp2_with (first
      | (at_builtin
         refine wpList_app rfl (.const (.slice none 0 0)) (.tmp 7) _ rfl elU8 w.heap.size (.slice none 0 0) 0 [] rfl (World.ownsRow_nil _ _ _ _) A 0 0 [] ?val rfl Rd.nil (fun _ h => by cases h) (by unfold maxLen; omega) (by omega) (Nat.le_refl _) ?_
         case val => first | rfl | simp
         intro v2 w2 hown2 hg2 hat2
         have hb2 := (Below.refl w.heap.size w).grown hg2 (Nat.le_refl _) (fun k hk => by simp [Value.ownBlock] at hk)))
    go_ret
    refine ⟨v2, rfl, ?_, hb2⟩
    rw [hd, Nat.sub_self]
    exact hown2
  · have hr' : Rd w (A.map (·.add k)) (bs (l.drop k)) := by
      have h := HR.out.cut (k := k) (cap := c) (by rw [bs_length]; exact HN.out) hc
      rw [if_neg i3, bs_drop] at h
      exact h
    go_enter Try.func18, Try.ntmps18
    go_wp2_with (first
      | (at_builtin
         refine wpList_app rfl (.const (.slice none 0 0)) (.tmp 7) _ rfl elU8 w.heap.size (.slice none 0 0) 0 [] rfl (World.ownsRow_nil _ _ _ _) (A.map (·.add k)) (n - k) (c - k) (bs (l.drop k)) ?val (by rw [bs_length, List.length_drop, HN.out]) hr' (bs_one _) (by unfold maxLen; omega) (by omega) (Nat.le_refl _) ?_
         case val => first | rfl | simp
         intro v2 w2 hown2 hg2 hat2
         have hb2 := (Below.refl w.heap.size w).grown hg2 (Nat.le_refl _) (fun k hk => by simp [Value.ownBlock] at hk)))
    go_ret
    refine ⟨v2, rfl, ?_, hb2⟩
    simpa using hown2
theorem less128 (x : Nat) (w : World) (_ : x < 256) : Calls Try.prog 21 #[.int .u8 x] w fun e w' => e = .returned (.bool (decide ((x : Int) < 128))) ∧ w = w' := by
  go_enter Try.func21, Try.ntmps21
  go_wp2_with fail
  go_ret
  exact ⟨rfl, rfl⟩
end Go.Proofs.Ytkhlmlmbgfnolaa

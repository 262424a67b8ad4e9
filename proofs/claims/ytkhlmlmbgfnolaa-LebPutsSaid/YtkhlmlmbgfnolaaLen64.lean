/- math/bits.Len64 by contract: how many bits a number has. -/
import Derived.Test.YtkhlmlmbgfnolaaLebMath
import Derived.Lib.BitFns
namespace Go.Proofs.Ytkhlmlmbgfnolaa
open Go.RowKit

theorem l8_size : (Lib.len8tab.size : Int) = 256 := by
  have := Lib.len8tab_size
  omega
theorem l8_get (y : Int) (h : y.toNat < Lib.len8tab.size) (h0 : 0 ≤ y) (h1 : y ≤ 255) : ((Lib.len8tab[y.toNat]'h).toNat : Int) = (Lib.bitLen y.toNat : Int) := by
  have := Lib.len8_of y h0 h1
  unfold Lib.len8 at this
  rw [getElem?_pos Lib.len8tab y.toNat h] at this
  exact this
theorem l8_le (y : Int) (h0 : 0 ≤ y) (h1 : y ≤ 255) : (Lib.bitLen y.toNat : Int) ≤ 8 := by
  have := Lib.bitLen_le8' y h0 h1
  omega
theorem l64_56 (x : Int) (h0 : 72057594037927936 ≤ x) (h1 : x / 4294967296 / 65536 / 256 ≤ 255) (h2 : x ≤ 18446744073709551615) (h : (x / 4294967296 / 65536 / 256).toNat < Lib.len8tab.size) : wrap64 (56 + wrap64 ((Lib.len8tab[(x / 4294967296 / 65536 / 256).toNat]'h).toNat : Int)) = (Lib.bitLen x.toNat : Int) := by
  rw [l8_get _ h (by omega) h1]
  have l := l8_le (x / 4294967296 / 65536 / 256) (by omega) h1
  have s := Lib.bitLen_shift56 x.toNat (by omega) (by omega)
  have e : (x / 4294967296 / 65536 / 256).toNat = x.toNat / 72057594037927936 := by omega
  rw [e] at l ⊢
  rw [s]
  generalize Lib.bitLen (x.toNat / 72057594037927936) = b at *
  clear s e h h0 h1 h2
  unfold wrap64
  omega
theorem l64_48 (x : Int) (h0 : 281474976710656 ≤ x) (h1 : x / 4294967296 / 65536 ≤ 255) (h2 : x ≤ 18446744073709551615) (h : (x / 4294967296 / 65536).toNat < Lib.len8tab.size) : wrap64 (48 + wrap64 ((Lib.len8tab[(x / 4294967296 / 65536).toNat]'h).toNat : Int)) = (Lib.bitLen x.toNat : Int) := by
  rw [l8_get _ h (by omega) h1]
  have l := l8_le (x / 4294967296 / 65536) (by omega) h1
  have s := Lib.bitLen_shift48 x.toNat (by omega) (by omega)
  have e : (x / 4294967296 / 65536).toNat = x.toNat / 281474976710656 := by omega
  rw [e] at l ⊢
  rw [s]
  generalize Lib.bitLen (x.toNat / 281474976710656) = b at *
  clear s e h h0 h1 h2
  unfold wrap64
  omega
theorem l64_40 (x : Int) (h0 : 1099511627776 ≤ x) (h1 : x / 4294967296 / 256 ≤ 255) (h2 : x ≤ 18446744073709551615) (h : (x / 4294967296 / 256).toNat < Lib.len8tab.size) : wrap64 (40 + wrap64 ((Lib.len8tab[(x / 4294967296 / 256).toNat]'h).toNat : Int)) = (Lib.bitLen x.toNat : Int) := by
  rw [l8_get _ h (by omega) h1]
  have l := l8_le (x / 4294967296 / 256) (by omega) h1
  have s := Lib.bitLen_shift40 x.toNat (by omega) (by omega)
  have e : (x / 4294967296 / 256).toNat = x.toNat / 1099511627776 := by omega
  rw [e] at l ⊢
  rw [s]
  generalize Lib.bitLen (x.toNat / 1099511627776) = b at *
  clear s e h h0 h1 h2
  unfold wrap64
  omega
theorem l64_32 (x : Int) (h0 : 4294967296 ≤ x) (h1 : x / 4294967296 ≤ 255) (h2 : x ≤ 18446744073709551615) (h : (x / 4294967296).toNat < Lib.len8tab.size) : wrap64 (32 + wrap64 ((Lib.len8tab[(x / 4294967296).toNat]'h).toNat : Int)) = (Lib.bitLen x.toNat : Int) := by
  rw [l8_get _ h (by omega) h1]
  have l := l8_le (x / 4294967296) (by omega) h1
  have s := Lib.bitLen_shift32 x.toNat (by omega) (by omega)
  have e : (x / 4294967296).toNat = x.toNat / 4294967296 := by omega
  rw [e] at l ⊢
  rw [s]
  generalize Lib.bitLen (x.toNat / 4294967296) = b at *
  clear s e h h0 h1 h2
  unfold wrap64
  omega
theorem l64_24 (x : Int) (h0 : 16777216 ≤ x) (h1 : x / 65536 / 256 ≤ 255) (h2 : x ≤ 18446744073709551615) (h : (x / 65536 / 256).toNat < Lib.len8tab.size) : wrap64 (24 + wrap64 ((Lib.len8tab[(x / 65536 / 256).toNat]'h).toNat : Int)) = (Lib.bitLen x.toNat : Int) := by
  rw [l8_get _ h (by omega) h1]
  have l := l8_le (x / 65536 / 256) (by omega) h1
  have s := Lib.bitLen_shift24 x.toNat (by omega) (by omega)
  have e : (x / 65536 / 256).toNat = x.toNat / 16777216 := by omega
  rw [e] at l ⊢
  rw [s]
  generalize Lib.bitLen (x.toNat / 16777216) = b at *
  clear s e h h0 h1 h2
  unfold wrap64
  omega
theorem l64_16 (x : Int) (h0 : 65536 ≤ x) (h1 : x / 65536 ≤ 255) (h2 : x ≤ 18446744073709551615) (h : (x / 65536).toNat < Lib.len8tab.size) : wrap64 (16 + wrap64 ((Lib.len8tab[(x / 65536).toNat]'h).toNat : Int)) = (Lib.bitLen x.toNat : Int) := by
  rw [l8_get _ h (by omega) h1]
  have l := l8_le (x / 65536) (by omega) h1
  have s := Lib.bitLen_shift16 x.toNat (by omega) (by omega)
  have e : (x / 65536).toNat = x.toNat / 65536 := by omega
  rw [e] at l ⊢
  rw [s]
  generalize Lib.bitLen (x.toNat / 65536) = b at *
  clear s e h h0 h1 h2
  unfold wrap64
  omega
theorem l64_8 (x : Int) (h0 : 256 ≤ x) (h1 : x / 256 ≤ 255) (h2 : x ≤ 18446744073709551615) (h : (x / 256).toNat < Lib.len8tab.size) : wrap64 (8 + wrap64 ((Lib.len8tab[(x / 256).toNat]'h).toNat : Int)) = (Lib.bitLen x.toNat : Int) := by
  rw [l8_get _ h (by omega) h1]
  have l := l8_le (x / 256) (by omega) h1
  have s := Lib.bitLen_shift8 x.toNat (by omega) (by omega)
  have e : (x / 256).toNat = x.toNat / 256 := by omega
  rw [e] at l ⊢
  rw [s]
  generalize Lib.bitLen (x.toNat / 256) = b at *
  clear s e h h0 h1 h2
  unfold wrap64
  omega
theorem l64_0 (x : Int) (h0 : 0 ≤ x) (h1 : x ≤ 255) (h : x.toNat < Lib.len8tab.size) : wrap64 (wrap64 ((Lib.len8tab[x.toNat]'h).toNat : Int)) = (Lib.bitLen x.toNat : Int) := by
  rw [l8_get _ h h0 h1]
  have l := l8_le x h0 h1
  unfold wrap64
  omega

set_option maxRecDepth 1000000 in
set_option maxHeartbeats 4000000 in
theorem len64_int (x : Int) (w : World) (h0 : 0 ≤ x) (h1 : x ≤ 18446744073709551615) : Calls Try.prog 19 #[.int .u64 x] w fun e w' => e = .returned (.int .i64 (Lib.bitLen x.toNat)) ∧ w = w' := by
  go_enter Try.func19, Try.ntmps19
  go_wp2_with fail
  all_goals first
    | (go_ret; refine ⟨congrArg Ending.returned (congrArg (Value.int IntKind.i64) ?_), rfl⟩)
    | (exfalso
       have hs := l8_size
       omega)
  all_goals first
    | exact l64_56 x (by omega) (by omega) h1 _
    | exact l64_48 x (by omega) (by omega) h1 _
    | exact l64_40 x (by omega) (by omega) h1 _
    | exact l64_32 x (by omega) (by omega) h1 _
    | exact l64_24 x (by omega) (by omega) h1 _
    | exact l64_16 x (by omega) (by omega) h1 _
    | exact l64_8 x (by omega) (by omega) h1 _
    | exact l64_0 x h0 (by omega) _

theorem bitLenAux_log2 : ∀ (f x : Nat), 0 < x → x < 2 ^ f → Lib.bitLenAux f x = x.log2 + 1
  | 0, x, h0, h => by
    exfalso
    rw [Nat.pow_zero] at h
    omega
  | f + 1, x, h0, h => by
    rw [Lib.bitLenAux, if_neg (by omega)]
    rcases Nat.lt_or_ge x 2 with h1 | h1
    · obtain rfl : x = 1 := by omega
      cases f <;> simp [Lib.bitLenAux, Nat.log2_def]
    · rw [bitLenAux_log2 f (x / 2) (by omega) (by rw [Nat.pow_succ] at h; omega)]
      have : x.log2 = (x / 2).log2 + 1 := by rw [Nat.log2_def, if_pos h1]
      omega
theorem bitLen_dig (v : Nat) (h : v < 18446744073709551616) : (Lib.bitLen (v ||| 1) + 6) / 7 = (dig v).length := by
  have h1 : v ||| 1 < 2 ^ 64 := Nat.or_lt_two_pow h (by omega)
  have h0 : 0 < v ||| 1 := Nat.lt_of_lt_of_le (by omega) (Nat.right_le_or (n := v) (m := 1))
  rw [dig_log2, Lib.bitLen, bitLenAux_log2 64 _ h0 h1]
  omega
set_option maxHeartbeats 400000 in
theorem size_n (v : Nat) (w : World) (h : v < 18446744073709551616) : Calls Try.prog 16 #[.int .u64 v] w fun e w' => e = .returned (.int .i64 ((dig v).length : Nat)) ∧ w = w' := by
  have ho : bits BinOp.or IntKind.u64 (v : Int) 1 = ((v ||| 1 : Nat) : Int) := u64_or_nat v 1 h (by omega)
  have hl : v ||| 1 < 18446744073709551616 := Nat.or_lt_two_pow (n := 64) h (by omega)
  have hb := bitLen_dig v h
  have h10 := dig_len10 h
  generalize v ||| 1 = u at *
  generalize (dig v).length = d at *
  have HB := Lib.hid hb
  clear hb
  go_enter Try.func16, Try.ntmps16
  go_wp2_with fail
  refine (len64_int (u : Int) w (by omega) (by omega)).mono ?_
  rintro e w' ⟨rfl, rfl⟩
  have hb := HB.out
  rw [Int.toNat_natCast]
  generalize Lib.bitLen u = q at *
  have hq : q ≤ 70 := by omega
  clear HB
  go_wp2_with fail
  go_ret
  refine ⟨congrArg Ending.returned (congrArg (Value.int IntKind.i64) ?_), rfl⟩
  omega
end Go.Proofs.Ytkhlmlmbgfnolaa

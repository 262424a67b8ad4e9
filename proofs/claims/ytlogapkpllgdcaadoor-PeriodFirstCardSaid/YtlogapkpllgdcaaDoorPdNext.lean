/- Contracts: TrailingZeros64; the next second. -/
import Derived.Test.YtlogapkpllgdcaaDoorPdCk
import Derived.Test.YtlogapkpllgdcaaDoorPdBits
import Derived.Laws.Bits64b
namespace Go.Proofs.YtlogapkpllgdcaaDoor
open Go.RowKit

def u64L (l : List Nat) : List Value := l.map fun (x : Nat) => .int .u64 (x : Int)
theorem u64L_get (L : List Nat) (k : Nat) (hk : k < L.length) : (u64L L).toArray[k]? = some (.int .u64 (L.getD k 0 : Nat)) := by
  unfold u64L
  rw [List.getElem?_toArray, List.getElem?_map, getD_some hk 0]
  rfl
theorem u64L_set (L : List Nat) (k x : Nat) : (u64L L).toArray.setIfInBounds k (.int .u64 x) = (u64L (L.set k x)).toArray := by
  unfold u64L
  simp [List.map_set]
/-- The table of trailing zeros. -/
def Tz (w : World) : Prop := ∀ j, j < 64 → w.cell? ⟨0, j, none⟩ = some (.int .u8 (Lib.deBruijn64tab.getD j 0 : Nat))
theorem Tz.below {w w' : World} (h : Tz w) (hb : Below w.heap.size w w') : Tz w' := fun j hj => cell_below (h j hj) hb
theorem tz_key (x a : Nat) (hx : x < 18446744073709551616) (hx0 : x ≠ 0) (hlow : x &&& (18446744073709551616 - x) = a) :
    IntKind.u64.wrap (bits BinOp.and IntKind.u64 (x : Int) (IntKind.u64.wrap (-(x : Int))) * 285870213051353865) / 288230376151711744 = ((a * 285870213051353865 % 18446744073709551616 / 288230376151711744 : Nat) : Int) := by
  have e1 : IntKind.u64.wrap (-(x : Int)) = ((18446744073709551616 - x : Nat) : Int) := by rw [IntKind.wrap_u64]; omega
  rw [e1, bits_and_u64_nat x _ hx (by omega), hlow, IntKind.wrap_u64]
  omega
set_option maxHeartbeats 1000000 in
theorem tz_core (x k idx : Nat) (w : World) (hx0 : ((x : Int) == 0) = false)
    (key : IntKind.u64.wrap (bits BinOp.and IntKind.u64 (x : Int) (IntKind.u64.wrap (-(x : Int))) * 285870213051353865) / 288230376151711744 = (idx : Int))
    (hi : idx < 64) (hk : k < 64) (hcell : w.cell? ⟨0, idx, none⟩ = some (.int .u8 k)) :
    Calls Tryd.prog 34 #[.int .u64 x] w fun e w' => e = .returned (.int .i64 k) ∧ w = w' := by
  go_enter Tryd.func34, Tryd.ntmps34
  go_wp2_with (simp only [key])
  go_ret
  exact ⟨rfl, rfl⟩
theorem tz_any (x : Nat) (w : World) (hx : x < 18446744073709551616) (hx0 : x ≠ 0) (hT : Tz w) :
    Calls Tryd.prog 34 #[.int .u64 x] w fun e w' => e = .returned (.int .i64 (Lib.ctz 64 x : Nat)) ∧ w = w' := by
  obtain ⟨hlow, hk⟩ := Lib.lowest_bit 64 x hx0 hx
  obtain ⟨hi, htab⟩ := Lib.deBruijn64_at _ hk
  have hcell := hT _ hi
  rw [htab] at hcell
  exact tz_core x _ _ w (by simp; omega) (tz_key x _ hx hx0 hlow) hi hk hcell
/-- The next second from k on that is there, or not. -/
def NextIs (f : Nat → Bool) (there : Bool) (k r : Nat) : Prop := k ≤ r ∧ r ≤ 86400 ∧ (∀ j, k ≤ j → j < r → f j = !there) ∧ (r < 86400 → f r = there)
/-- The word that is looked at: the bits that are there, or those that are not. -/
def look64 (there : Bool) (x : Nat) : Nat := if there = true then x else 18446744073709551615 - x
theorem look64_lt {there : Bool} {x : Nat} (hx : x < 18446744073709551616) : look64 there x < 18446744073709551616 := by unfold look64; split <;> omega
theorem look64_bit {there : Bool} {x i : Nat} (hx : x < 18446744073709551616) (hi : i < 64) : (look64 there x).testBit i = (x.testBit i == there) := by
  unfold look64
  cases there
  · rw [if_neg (by decide), tb_not hx hi]; cases x.testBit i <;> rfl
  · rw [if_pos rfl]; cases x.testBit i <;> rfl
theorem beq_not : ∀ a b : Bool, (a == b) = false → a = !b := by decide
theorem beq_yes : ∀ a b : Bool, (a == b) = true → a = b := by decide
theorem next_step {ws : List Nat} (hw : Words ws) (there : Bool) {q z : Nat} (hq : q < 86400) (hz : look64 there (ws.getD (q / 64) 0) / 2 ^ (q % 64) = z) :
    (z = 0 → ∀ j, q ≤ j → j < q + (64 - q % 64) → bit ws j = !there) ∧ (z ≠ 0 → NextIs (bit ws) there q (q + Lib.ctz 64 z) ∧ z < 18446744073709551616) := by
  have hx := hw.get (q / 64)
  have hbit : ∀ j, q ≤ j → j < q + (64 - q % 64) → z.testBit (j - q) = (bit ws j == there) := fun j h1 h2 => by
    have e1 : j / 64 = q / 64 := by omega
    have e2 : j - q + q % 64 = j % 64 := by omega
    rw [← hz, Nat.testBit_div_two_pow, e2, look64_bit hx (Nat.mod_lt _ (by decide))]
    unfold bit
    rw [e1]
  refine ⟨fun h0 j h1 h2 => ?_, fun h0 => ?_⟩
  · have := hbit j h1 h2
    rw [zero_bits h0] at this
    exact beq_not _ _ this.symm
  · have hlt : z < 18446744073709551616 := by rw [← hz]; exact Nat.lt_of_le_of_lt (Nat.div_le_self _ _) (look64_lt hx)
    obtain ⟨c1, c2, c3⟩ := ctz_low h0 hlt
    have hin : Lib.ctz 64 z + q % 64 < 64 := by
      rcases Nat.lt_or_ge (Lib.ctz 64 z + q % 64) 64 with h | h
      · exact h
      · rw [← hz, Nat.testBit_div_two_pow, hz, tb_big (look64_lt hx) h] at c2
        cases c2
    generalize Lib.ctz 64 z = r at *
    refine ⟨⟨by omega, by omega, fun j h1 h2 => ?_, fun _ => ?_⟩, hlt⟩
    · have h3 := hbit j h1 (by omega)
      rw [c3 (j - q) (by omega)] at h3
      exact beq_not _ _ h3.symm
    · have h3 := hbit (q + r) (by omega) (by omega)
      rw [show q + r - q = r by omega, c2] at h3
      exact beq_yes _ _ h3.symm
theorem xor_max (x : Nat) (hx : x < 18446744073709551616) : bits BinOp.xor IntKind.u64 IntKind.u64.max (x : Int) = ((18446744073709551615 - x : Nat) : Int) := by
  have h1 : BitVec.ofInt 64 IntKind.u64.max = BitVec.allOnes 64 := by decide
  have h2 : (BitVec.ofInt 64 (x : Int)).toNat = x := by
    rw [BitVec.ofInt_natCast, BitVec.toNat_ofNat]; exact Nat.mod_eq_of_lt (by omega)
  show IntKind.u64.wrap ((BitVec.ofInt 64 IntKind.u64.max ^^^ BitVec.ofInt 64 (x : Int)).toNat : Int) = _
  rw [h1, BitVec.allOnes_xor, BitVec.toNat_not, h2, IntKind.wrap_u64]
  omega
set_option maxRecDepth 100000 in
set_option maxHeartbeats 1000000 in
theorem next_any (b : Nat) (ws : List Nat) (there : Bool) (k : Nat) (w : World) (hT : Tz w) (hws : Words ws) (hb : w.heap[b]? = some (.cells (u64L ws).toArray 92 (0, 0))) (hk : k ≤ 86400) :
    Calls Tryd.prog 16 #[.slice (some ⟨b, 0, none⟩) 1350 1350, .int .i64 k, .bool there] w fun e w' => (∃ r : Nat, e = .returned (.int .i64 r) ∧ NextIs (bit ws) there k r) ∧ w = w' := by
  have HWS := Lib.hid hws
  have HB := Lib.hid hb
  have HT := Lib.hid hT
  clear hws hb hT
  cases there
  · go_enter Tryd.func16, Tryd.ntmps16
    go_wp2_with fail
    go_loop [1] (fun i => ∃ q : Nat, k ≤ q ∧ q ≤ 86400 ∧ i = .int .i64 q ∧ ∀ j, k ≤ j → j < q → bit ws j = !false) (fun i => 86400 - (intOf i).toNat)
    case atStart => exact ⟨k, Nat.le_refl _, hk, rfl, fun j h1 h2 => by omega⟩
    case round =>
      obtain ⟨q, hkq, hq, rfl, hsc⟩ := hrel
      have HSC := Lib.hid hsc
      clear hsc
      by_cases hlt : q < 86400
      · have hx := HWS.out.get (q / 64)
        have hc : w.cell? ⟨b, q / 64, none⟩ = some (.int .u64 (ws.getD (q / 64) 0 : Nat)) := cell_blk HB.out (q / 64) (u64L_get ws _ (by rw [HWS.out.1]; omega))
        have HST := Lib.hid (fun z hz => next_step HWS.out false (z := z) hlt hz)
        generalize ws.getD (q / 64) 0 = x at *
        obtain ⟨y, hy0⟩ : ∃ y, look64 false x = y := ⟨_, rfl⟩
        obtain ⟨z, hz0⟩ : ∃ z, y / 2 ^ (q % 64) = z := ⟨_, rfl⟩
        have HZ := Lib.hid (HST.out z (by rw [hy0, hz0]))
        have hy : bits BinOp.xor IntKind.u64 IntKind.u64.max (x : Int) = (y : Int) := by rw [xor_max x hx, ← hy0]; rfl
        have hy' : bits BinOp.xor IntKind.u64 (if IntKind.u64.signed = true then -1 else IntKind.u64.max) (x : Int) = (y : Int) := hy
        have hz : (y : Int) / 2 ^ (q % 64) = (z : Int) := by rw [← hz0]; simp
        clear hy0 hz0 hx HST
        by_cases h0 : z = 0
        · have ht : ((z : Int) != 0) = false := by subst h0; rfl
          go_wp2_with fail
          go_round
          case rel => exact ⟨q + (64 - q % 64), by omega, by omega, by go_num, fun j h1 h2 => by
            rcases Nat.lt_or_ge j q with h | h
            · exact HSC.out j h1 h
            · exact HZ.out.1 h0 j h h2⟩
          case measure => simp [intOf]; omega
        · have ht : ((z : Int) != 0) = true := by simp; omega
          obtain ⟨hn, hzl⟩ := HZ.out.2 h0
          have HN := Lib.hid hn
          have hr : q + Lib.ctz 64 z ≤ 86400 := hn.2.1
          clear hn
          go_wp2_with fail
          refine (tz_any z _ hzl h0 HT.out).mono ?_
          rintro e w' ⟨rfl, rfl⟩
          go_wp2_with fail
          go_ret
          exact ⟨⟨q + Lib.ctz 64 z, by go_num, Nat.le_trans hkq HN.out.1, hr, fun j h1 h2 => by
            rcases Nat.lt_or_ge j q with h | h
            · exact HSC.out j h1 h
            · exact HN.out.2.2.1 j h h2, HN.out.2.2.2⟩, rfl⟩
      · obtain rfl : q = 86400 := by omega
        go_wp2_with fail
        go_ret
        exact ⟨⟨86400, rfl, hk, Nat.le_refl _, HSC.out, fun h => by omega⟩, rfl⟩
  · go_enter Tryd.func16, Tryd.ntmps16
    go_wp2_with fail
    go_loop [1] (fun i => ∃ q : Nat, k ≤ q ∧ q ≤ 86400 ∧ i = .int .i64 q ∧ ∀ j, k ≤ j → j < q → bit ws j = !true) (fun i => 86400 - (intOf i).toNat)
    case atStart => exact ⟨k, Nat.le_refl _, hk, rfl, fun j h1 h2 => by omega⟩
    case round =>
      obtain ⟨q, hkq, hq, rfl, hsc⟩ := hrel
      have HSC := Lib.hid hsc
      clear hsc
      by_cases hlt : q < 86400
      · have hx := HWS.out.get (q / 64)
        have hc : w.cell? ⟨b, q / 64, none⟩ = some (.int .u64 (ws.getD (q / 64) 0 : Nat)) := cell_blk HB.out (q / 64) (u64L_get ws _ (by rw [HWS.out.1]; omega))
        have HST := Lib.hid (fun z hz => next_step HWS.out true (z := z) hlt hz)
        generalize ws.getD (q / 64) 0 = x at *
        obtain ⟨y, hy0⟩ : ∃ y, look64 true x = y := ⟨_, rfl⟩
        obtain ⟨z, hz0⟩ : ∃ z, y / 2 ^ (q % 64) = z := ⟨_, rfl⟩
        have HZ := Lib.hid (HST.out z (by rw [hy0, hz0]))
        have hy : x = y := hy0
        subst hy
        have hz : (x : Int) / 2 ^ (q % 64) = (z : Int) := by rw [← hz0]; simp
        clear hy0 hz0 hx HST
        by_cases h0 : z = 0
        · have ht : ((z : Int) != 0) = false := by subst h0; rfl
          go_wp2_with fail
          go_round
          case rel => exact ⟨q + (64 - q % 64), by omega, by omega, by go_num, fun j h1 h2 => by
            rcases Nat.lt_or_ge j q with h | h
            · exact HSC.out j h1 h
            · exact HZ.out.1 h0 j h h2⟩
          case measure => simp [intOf]; omega
        · have ht : ((z : Int) != 0) = true := by simp; omega
          obtain ⟨hn, hzl⟩ := HZ.out.2 h0
          have HN := Lib.hid hn
          have hr : q + Lib.ctz 64 z ≤ 86400 := hn.2.1
          clear hn
          go_wp2_with fail
          refine (tz_any z _ hzl h0 HT.out).mono ?_
          rintro e w' ⟨rfl, rfl⟩
          go_wp2_with fail
          go_ret
          exact ⟨⟨q + Lib.ctz 64 z, by go_num, Nat.le_trans hkq HN.out.1, hr, fun j h1 h2 => by
            rcases Nat.lt_or_ge j q with h | h
            · exact HSC.out j h1 h
            · exact HN.out.2.2.1 j h h2, HN.out.2.2.2⟩, rfl⟩
      · obtain rfl : q = 86400 := by omega
        go_wp2_with fail
        go_ret
        exact ⟨⟨86400, rfl, hk, Nat.le_refl _, HSC.out, fun h => by omega⟩, rfl⟩
end Go.Proofs.YtlogapkpllgdcaaDoor

/- Contracts of crc's turn, More, Sum. -/
import Derived.Test.YtbemloijgabfcaaDoorBase
namespace Go.Proofs.YtbemloijgabfcaaDoor
open Go.RowKit

def tbl (i : Nat) : Nat := [0, 498536548, 997073096, 651767980, 1994146192, 1802195444, 1303535960, 1342533948, 3988292384, 4027552580, 3604390888, 3412177804, 2607071920, 2262029012, 2685067896, 3183342108].getD i 0
theorem tbl_lt (i : Nat) (h : i < 16) : tbl i < 4294967296 := by
  have : ∀ i : Fin 16, tbl i < 4294967296 := by decide
  exact this ⟨i, h⟩
/-- crc's table is there. -/
def Tab (w : World) : Prop := ∀ i, i < 16 → w.cell? ⟨0, i, none⟩ = some (.int .u32 (tbl i))
theorem Tab.below {w w' : World} (h : Tab w) (hb : Below w.heap.size w w') : Tab w' := fun i hi =>
  (World.cell?_of_block (a := ⟨0, i, none⟩) (hb.block _ (World.block_lt_of_cell? w _ (h i hi)))).trans (h i hi)
theorem Tab.drewN {w : World} (h : Tab w) (n : Nat) : Tab (w.drewN n) := h
def half (r : Nat) : Nat := (r / 16) ^^^ tbl (r % 16)
theorem half_lt (r : Nat) (h : r < 4294967296) : half r < 4294967296 := Nat.xor_lt_two_pow (n := 32) (by omega) (tbl_lt _ (by omega))
theorem half_eq (r : Nat) (h : r < 4294967296) : bits BinOp.xor IntKind.u32 ((r : Int) / 16) (tbl (r % 16) : Int) = (half r : Int) := by
  have := u32_xor_nat (r / 16) (tbl (r % 16)) (by omega) (tbl_lt _ (by omega))
  simpa [half] using this
def turn (r x : Nat) : Nat := half (half (r ^^^ x))
theorem turn_lt (r x : Nat) (hr : r < 4294967296) (hx : x < 256) : turn r x < 4294967296 :=
  half_lt _ (half_lt _ (Nat.xor_lt_two_pow (n := 32) (by omega) (by omega)))
set_option maxHeartbeats 400000 in
theorem turn_any (r : Nat) (x : Nat) (w : World) (hr : r < 4294967296) (hx : x < 256) (ht : Tab w) :
    Calls Tryd.prog 19 #[.int .u32 r, .int .u8 x] w fun e w' => e = .returned (.int .u32 (turn r x)) ∧ w = w' := by
  unfold turn
  have hy : bits BinOp.xor IntKind.u32 (r : Int) (x : Int) = ((r ^^^ x : Nat) : Int) := u32_xor_nat r x (by omega) (by omega)
  have hyl : r ^^^ x < 4294967296 := Nat.xor_lt_two_pow (n := 32) (by omega) (by omega)
  generalize r ^^^ x = y at *
  have h1 := half_eq y hyl
  have hl1 := half_lt y hyl
  have h2 := half_eq (half y) hl1
  have hl2 := half_lt _ hl1
  have hc1 := ht (y % 16) (by omega)
  have hc2 := ht (half y % 16) (by omega)
  clear ht
  generalize half (half y) = z2 at *
  generalize half y = z1 at *
  go_enter Tryd.func19, Tryd.ntmps19
  go_wp2
  refine wp_loop_rounds 3 ?_
  rw [rounds_succ]
  go_wp2
  rw [rounds_succ]
  go_wp2
  rw [rounds_succ]
  go_wp2
  go_ret
  exact ⟨rfl, rfl⟩

/-- The register behind bytes. -/
def reg (r : Nat) (l : List UInt8) : Nat := l.foldl (fun r c => turn r c.toNat) r
theorem reg_lt (l : List UInt8) : ∀ r, r < 4294967296 → reg r l < 4294967296 := by
  induction l with
  | nil => intro r h; exact h
  | cons c l ih => intro r h; exact ih _ (turn_lt r _ h c.toNat_lt)
theorem reg_snoc (r : Nat) (l : List UInt8) (c : UInt8) : reg r (l ++ [c]) = turn (reg r l) c.toNat := by simp [reg]
theorem reg_append (r : Nat) (l m : List UInt8) : reg r (l ++ m) = reg (reg r l) m := by simp [reg]
def more (s : Nat) (l : List UInt8) : Nat := 4294967295 - reg (4294967295 - s) l
theorem more_lt (s : Nat) (l : List UInt8) : more s l < 4294967296 := by unfold more; omega

theorem not_u32 (s : Nat) (h : s < 4294967296) : bits BinOp.xor IntKind.u32 IntKind.u32.max (s : Int) = ((4294967295 - s : Nat) : Int) := by
  have e : (IntKind.u32.max : Int) = ((4294967295 : Nat) : Int) := by simp [IntKind.max, IntKind.bits, IntKind.signed]
  rw [e, u32_xor_nat _ _ (by omega) h]
  have := congrArg BitVec.toNat (BitVec.allOnes_xor (x := BitVec.ofNat 32 s))
  rw [BitVec.toNat_xor, BitVec.toNat_not, BitVec.toNat_allOnes, BitVec.toNat_ofNat, Nat.mod_eq_of_lt (by omega)] at this
  rw [this]

set_option maxHeartbeats 400000 in
theorem more_any (s : Nat) (A : Option Addr) (c : Nat) (l : List UInt8) (w : World) (hs : s < 4294967296) (ht : Tab w) (hr : Rd w A (bs l)) (hl : l.length ≤ maxLen) :
    Calls Tryd.prog 13 #[.int .u32 s, .slice A l.length c] w fun e w' => e = .returned (.int .u32 (more s l)) ∧ w = w' := by
  unfold maxLen at hl
  unfold more
  have HT := Lib.hid ht
  have HR := Lib.hid hr
  clear ht hr
  have hn1 := not_u32 s hs
  have hlt : 4294967295 - s < 4294967296 := by omega
  generalize 4294967295 - s = r0 at *
  go_enter Tryd.func13, Tryd.ntmps13
  go_wp2
  clear hn1
  go_loop [5, 12] (fun r i => ∃ k : Nat, k ≤ l.length ∧ i = .int .i64 k ∧ r = .int .u32 (reg r0 (l.take k))) (fun _ i => l.length - (intOf i).toNat)
  case atStart => exact ⟨0, Nat.zero_le _, rfl, rfl⟩
  case round =>
    obtain ⟨k, hk, rfl, rfl⟩ := hrel
    have hrl := reg_lt (l.take k) r0 hlt
    by_cases hlk : k < l.length
    · have HS : Hid (reg r0 (l.take (k + 1)) = turn (reg r0 (l.take k)) l[k].toNat) := by
        rw [List.take_succ_eq_append_getElem hlk]; exact reg_snoc _ _ _
      obtain ⟨ad, rfl, hcell⟩ := HR.out.byte hlk
      have hb : l[k].toNat < 256 := l[k].toNat_lt
      generalize l[k].toNat = x at *
      generalize reg r0 (l.take k) = r at *
      go_wp2_with fail
      refine (turn_any r x _ hrl hb HT.out).mono ?_
      rintro e w' ⟨rfl, rfl⟩
      go_wp2_with fail
      go_round
      case rel => exact ⟨k + 1, by omega, by go_num, by rw [HS.out]⟩
      case measure => simp [intOf]; omega
    · obtain rfl : k = l.length := by omega
      rw [List.take_length]
      rw [List.take_length] at hrl
      have hn2 := not_u32 _ hrl
      go_wp2
      go_ret
      exact ⟨rfl, rfl⟩

theorem sum_any (A : Option Addr) (c : Nat) (l : List UInt8) (w : World) (ht : Tab w) (hr : Rd w A (bs l)) (hl : l.length ≤ maxLen) :
    Calls Tryd.prog 11 #[.slice A l.length c] w fun e w' => e = .returned (.int .u32 (more 0 l)) ∧ w = w' := by
  have HT := Lib.hid ht
  have HR := Lib.hid hr
  clear ht hr
  go_enter Tryd.func11, Tryd.ntmps11
  go_wp2_with fail
  refine (more_any 0 A c l _ (by omega) HT.out HR.out hl).mono ?_
  rintro e w' ⟨rfl, rfl⟩
  go_wp2_with fail
  go_ret
  exact ⟨rfl, rfl⟩
end Go.Proofs.YtbemloijgabfcaaDoor

/- Contract: the document's Parse of a text of digits and colons. -/
import Derived.Test.YtgfibckahnjclaaDoorCkI
import Derived.IntWalk
namespace Go.Proofs.YtgfibckahnjclaaDoor
open Go.RowKit

/-- What comes of three numbers. -/
def refEnd (x y z : Int) : Int × Int := if 59 < y ∨ 59 < z ∨ 86400 < 3600 * x + 60 * y + z then (0, 3) else (3600 * x + 60 * y + z, 0)
def RTold (x y z : Int) (w : World) (e : Ending) (w' : World) : Prop := e = .returned (.tuple #[.int .i64 (refEnd x y z).1, .int .i64 (refEnd x y z).2]) ∧ Below w.heap.size w w'
theorem rtold_no {x y z : Int} {w w' : World} (h : 59 < y ∨ 59 < z ∨ 86400 < 3600 * x + 60 * y + z) (hb : Below w.heap.size w w') : RTold x y z w (.returned (.tuple #[.int .i64 0, .int .i64 3])) w' := ⟨by unfold refEnd; rw [if_pos h], hb⟩
theorem rtold_yes {x y z : Int} {w w' : World} (h : ¬ (59 < y ∨ 59 < z ∨ 86400 < 3600 * x + 60 * y + z)) (hb : Below w.heap.size w w') : RTold x y z w (.returned (.tuple #[.int .i64 (3600 * x + 60 * y + z), .int .i64 0])) w' := ⟨by unfold refEnd; rw [if_neg h], hb⟩
theorem rtold_yes0 {x y : Int} {w w' : World} (h : ¬ (59 < y ∨ 86400 < 3600 * x + 60 * y)) (hb : Below w.heap.size w w') : RTold x y 0 w (.returned (.tuple #[.int .i64 (3600 * x + 60 * y), .int .i64 0])) w' := by
  have := rtold_yes (x := x) (y := y) (z := 0) (by omega) hb
  rwa [Int.add_zero] at this
def row3 (x y z : Int) (k : Nat) : Array Value :=
  if k = 0 then #[.int .i64 0, .int .i64 0, .int .i64 0] else if k = 1 then #[.int .i64 x, .int .i64 0, .int .i64 0] else if k = 2 then #[.int .i64 x, .int .i64 y, .int .i64 0] else #[.int .i64 x, .int .i64 y, .int .i64 z]
set_option maxRecDepth 100000 in
set_option maxHeartbeats 4000000 in
theorem refParse_eight (s : ByteArray) (w : World) (hn : s.size = 8) (hok : ∀ k (h : k < s.size), chk s[k] k) (x y z : Int)
    (hx : 10 * (((s[0]'(by omega)).toNat : Int) - 48) + (((s[1]'(by omega)).toNat : Int) - 48) = x) (hy : 10 * (((s[3]'(by omega)).toNat : Int) - 48) + (((s[4]'(by omega)).toNat : Int) - 48) = y) (hz : 10 * (((s[6]'(by omega)).toNat : Int) - 48) + (((s[7]'(by omega)).toNat : Int) - 48) = z) :
    Calls Tryd.prog 22 #[.string s] w (RTold x y z w) := by
  obtain ⟨a0, ha0⟩ : ∃ c, s[0]'(by omega) = c := ⟨_, rfl⟩
  obtain ⟨b0, hb0⟩ : ∃ c, s[1]'(by omega) = c := ⟨_, rfl⟩
  have da0 := chk_digit (hok 0 (by omega)) (by omega)
  have db0 := chk_digit (hok 1 (by omega)) (by omega)
  rw [ha0] at da0
  rw [hb0] at db0
  obtain ⟨a1, ha1⟩ : ∃ c, s[3]'(by omega) = c := ⟨_, rfl⟩
  obtain ⟨b1, hb1⟩ : ∃ c, s[4]'(by omega) = c := ⟨_, rfl⟩
  have da1 := chk_digit (hok 3 (by omega)) (by omega)
  have db1 := chk_digit (hok 4 (by omega)) (by omega)
  rw [ha1] at da1
  rw [hb1] at db1
  obtain ⟨a2, ha2⟩ : ∃ c, s[6]'(by omega) = c := ⟨_, rfl⟩
  obtain ⟨b2, hb2⟩ : ∃ c, s[7]'(by omega) = c := ⟨_, rfl⟩
  have da2 := chk_digit (hok 6 (by omega)) (by omega)
  have db2 := chk_digit (hok 7 (by omega)) (by omega)
  rw [ha2] at da2
  rw [hb2] at db2
  rw [ha0, hb0] at hx
  have Hx := Lib.hid hx
  have rx1 : 0 ≤ x := by omega
  have rx2 : x ≤ 99 := by omega
  rw [ha1, hb1] at hy
  have Hy := Lib.hid hy
  have ry1 : 0 ≤ y := by omega
  have ry2 : y ≤ 99 := by omega
  rw [ha2, hb2] at hz
  have Hz := Lib.hid hz
  have rz1 : 0 ≤ z := by omega
  have rz2 : z ≤ 99 := by omega
  have HA0 := Lib.hid (And.intro ha0 hb0)
  have DD0 := Lib.hid (And.intro da0 db0)
  have HA1 := Lib.hid (And.intro ha1 hb1)
  have DD1 := Lib.hid (And.intro da1 db1)
  have HA2 := Lib.hid (And.intro ha2 hb2)
  have DD2 := Lib.hid (And.intro da2 db2)
  clear ha0 hb0 da0 db0 hx ha1 hb1 da1 db1 hy ha2 hb2 da2 db2 hz
  have HOK := Lib.hid hok
  clear hok
  go_enter Tryd.func22, Tryd.ntmps22
  go_wp2_with fail
  go_loop [4] (fun i => ∃ k : Nat, i = .int .i64 k ∧ k ≤ 8) (fun i => 8 - (intOf i).toNat)
  case atStart => exact ⟨0, rfl, Nat.zero_le _⟩
  case round =>
    obtain ⟨k, rfl, hk⟩ := hrel
    by_cases hlt : k < 8
    · have hks : k < s.size := by omega
      have HO := Lib.hid (HOK.out k hks)
      obtain ⟨c, hc⟩ : ∃ c, s[k] = c := ⟨_, rfl⟩
      rw [hc] at HO
      by_cases h3 : k % 3 = 2
      · have h58 := chk_colon HO.out h3
        have d3 : ((k : Int) % 3 == 2) = true := by simp; omega
        have d4 : ((k : Int) % 3 != 2) = false := by simp; omega
        clear h3 HO
        go_wp2_with fail
        go_round
        case rel => exact ⟨k + 1, by go_num, hlt⟩
        case measure => simp [intOf]; omega
      · obtain ⟨hd1, hd2⟩ := chk_digit HO.out h3
        have d3 : ((k : Int) % 3 == 2) = false := by rw [beq_eq_false_iff_ne]; omega
        have d4 : ((k : Int) % 3 != 2) = true := by simp [d3, bne]
        clear h3 HO
        go_wp2_with fail
        go_round
        case rel => exact ⟨k + 1, by go_num, hlt⟩
        case measure => simp [intOf]; omega
    · obtain rfl : k = 8 := by omega
      clear hlt
      go_wp2_with fail
      have HB0 := Lib.hid ((Below.refl w.heap.size w).alloc (Nat.le_refl _) (.cells #[.int .i64 0, .int .i64 0, .int .i64 0] 68))
      have G0 := Lib.hid (heap_alloc_new w (.cells #[.int .i64 0, .int .i64 0, .int .i64 0] 68))
      go_loopw [6] (fun i wr => ∃ k : Nat, i = .int .i64 k ∧ k ≤ 3 ∧ Below w.heap.size w wr ∧ wr.heap[w.heap.size]? = some (.cells (row3 x y z k) 68 (0, 0))) (fun i _ => 3 - (intOf i).toNat)
      case atStart => exact ⟨0, rfl, Nat.zero_le _, HB0.out, G0.out⟩
      case round =>
        obtain ⟨k, hi, hk2, hb, hg⟩ := hrel
        clear HB0 G0 hk
        have HB := Lib.hid hb
        clear hb
        rcases (show k = 0 ∨ k = 1 ∨ k = 2 ∨ k = 3 by omega) with rfl | rfl | rfl | rfl
        · have hi' := show _ = Value.int .i64 0 from hi
          subst hi'
          have fz := frz_blk (show wr.heap[w.heap.size]? = some (.cells (row3 x y z 0) 68 (0, 0)) from hg) 0
          have cc := cell_blk hg 0 (v := .int .i64 0) rfl
          have HG := Lib.hid hg
          obtain ⟨ha, hb⟩ := HA0.out
          obtain ⟨⟨da1, da2⟩, db1, db2⟩ := DD0.out
          obtain ⟨p, hp⟩ : ∃ p, (a0.toNat : Int) - 48 = p := ⟨_, rfl⟩
          obtain ⟨q, hq⟩ : ∃ q, (b0.toNat : Int) - 48 = q := ⟨_, rfl⟩
          have HV : Hid (10 * p + q = x) := by
            have := Hx.out
            rw [← hp, ← hq]
            exact this
          have p1 : 0 ≤ p ∧ p ≤ 9 := by omega
          have p2 : 0 ≤ q ∧ q ≤ 9 := by omega
          have t1 : IntKind.i64.wrap p = p := IntWalk.i64_in _ (by omega)
          have t2 : IntKind.i64.wrap (10 * p) = 10 * p := IntWalk.i64_in _ (by omega)
          have t3 : IntKind.i64.wrap q = q := IntWalk.i64_in _ (by omega)
          have t4 : IntKind.i64.wrap (10 * p + q) = x := (IntWalk.i64_in _ (by omega)).trans HV.out
          have t5 : IntKind.u8.wrap ((a0.toNat : Int) - 48) = p := (IntWalk.u8_in _ (by omega)).trans hp
          have t6 : IntKind.u8.wrap ((b0.toNat : Int) - 48) = q := (IntWalk.u8_in _ (by omega)).trans hq
          have t7 : IntKind.i64.wrap 0 = 0 := rfl
          have t8 : IntKind.i64.wrap 1 = 1 := rfl
          clear hg hi hp hq p1 p2
          go_wp2_with fail
          go_still_tail 17, (by kernel_rfl)
          change wpList _ _ _ _ _ wr.drew
          have cd : wr.drew.cell? ⟨w.heap.size, 0, none⟩ = some (.int .i64 0) := cc
          have fd : wr.drew.frozen? ⟨w.heap.size, 0, none⟩ = false := fz
          clear cc fz t1 t2 t3 t4 t5 t6 t7 t8 ha hb da1 da2 db1 db2 HV
          go_wp2_with fail
          go_roundw
          case rel => exact ⟨0 + 1, by go_num, by omega, (HB.out.setCell (p := ⟨w.heap.size, 0, none⟩) (Nat.le_refl _) _).drew, heap_setCell_same wr w.heap.size 0 _ _ _ HG.out⟩
          case measure => simp [intOf]
        · have hi' := show _ = Value.int .i64 1 from hi
          subst hi'
          have fz := frz_blk (show wr.heap[w.heap.size]? = some (.cells (row3 x y z 1) 68 (0, 0)) from hg) 1
          have cc := cell_blk hg 1 (v := .int .i64 0) rfl
          have HG := Lib.hid hg
          obtain ⟨ha, hb⟩ := HA1.out
          obtain ⟨⟨da1, da2⟩, db1, db2⟩ := DD1.out
          obtain ⟨p, hp⟩ : ∃ p, (a1.toNat : Int) - 48 = p := ⟨_, rfl⟩
          obtain ⟨q, hq⟩ : ∃ q, (b1.toNat : Int) - 48 = q := ⟨_, rfl⟩
          have HV : Hid (10 * p + q = y) := by
            have := Hy.out
            rw [← hp, ← hq]
            exact this
          have p1 : 0 ≤ p ∧ p ≤ 9 := by omega
          have p2 : 0 ≤ q ∧ q ≤ 9 := by omega
          have t1 : IntKind.i64.wrap p = p := IntWalk.i64_in _ (by omega)
          have t2 : IntKind.i64.wrap (10 * p) = 10 * p := IntWalk.i64_in _ (by omega)
          have t3 : IntKind.i64.wrap q = q := IntWalk.i64_in _ (by omega)
          have t4 : IntKind.i64.wrap (10 * p + q) = y := (IntWalk.i64_in _ (by omega)).trans HV.out
          have t5 : IntKind.u8.wrap ((a1.toNat : Int) - 48) = p := (IntWalk.u8_in _ (by omega)).trans hp
          have t6 : IntKind.u8.wrap ((b1.toNat : Int) - 48) = q := (IntWalk.u8_in _ (by omega)).trans hq
          have t7 : IntKind.i64.wrap 3 = 3 := rfl
          have t8 : IntKind.i64.wrap 4 = 4 := rfl
          clear hg hi hp hq p1 p2
          go_wp2_with fail
          go_still_tail 17, (by kernel_rfl)
          change wpList _ _ _ _ _ wr.drew
          have cd : wr.drew.cell? ⟨w.heap.size, 1, none⟩ = some (.int .i64 0) := cc
          have fd : wr.drew.frozen? ⟨w.heap.size, 1, none⟩ = false := fz
          clear cc fz t1 t2 t3 t4 t5 t6 t7 t8 ha hb da1 da2 db1 db2 HV
          go_wp2_with fail
          go_roundw
          case rel => exact ⟨1 + 1, by go_num, by omega, (HB.out.setCell (p := ⟨w.heap.size, 1, none⟩) (Nat.le_refl _) _).drew, heap_setCell_same wr w.heap.size 1 _ _ _ HG.out⟩
          case measure => simp [intOf]
        · have hi' := show _ = Value.int .i64 2 from hi
          subst hi'
          have fz := frz_blk (show wr.heap[w.heap.size]? = some (.cells (row3 x y z 2) 68 (0, 0)) from hg) 2
          have cc := cell_blk hg 2 (v := .int .i64 0) rfl
          have HG := Lib.hid hg
          obtain ⟨ha, hb⟩ := HA2.out
          obtain ⟨⟨da1, da2⟩, db1, db2⟩ := DD2.out
          obtain ⟨p, hp⟩ : ∃ p, (a2.toNat : Int) - 48 = p := ⟨_, rfl⟩
          obtain ⟨q, hq⟩ : ∃ q, (b2.toNat : Int) - 48 = q := ⟨_, rfl⟩
          have HV : Hid (10 * p + q = z) := by
            have := Hz.out
            rw [← hp, ← hq]
            exact this
          have p1 : 0 ≤ p ∧ p ≤ 9 := by omega
          have p2 : 0 ≤ q ∧ q ≤ 9 := by omega
          have t1 : IntKind.i64.wrap p = p := IntWalk.i64_in _ (by omega)
          have t2 : IntKind.i64.wrap (10 * p) = 10 * p := IntWalk.i64_in _ (by omega)
          have t3 : IntKind.i64.wrap q = q := IntWalk.i64_in _ (by omega)
          have t4 : IntKind.i64.wrap (10 * p + q) = z := (IntWalk.i64_in _ (by omega)).trans HV.out
          have t5 : IntKind.u8.wrap ((a2.toNat : Int) - 48) = p := (IntWalk.u8_in _ (by omega)).trans hp
          have t6 : IntKind.u8.wrap ((b2.toNat : Int) - 48) = q := (IntWalk.u8_in _ (by omega)).trans hq
          have t7 : IntKind.i64.wrap 6 = 6 := rfl
          have t8 : IntKind.i64.wrap 7 = 7 := rfl
          clear hg hi hp hq p1 p2
          go_wp2_with fail
          go_still_tail 17, (by kernel_rfl)
          change wpList _ _ _ _ _ wr.drew
          have cd : wr.drew.cell? ⟨w.heap.size, 2, none⟩ = some (.int .i64 0) := cc
          have fd : wr.drew.frozen? ⟨w.heap.size, 2, none⟩ = false := fz
          clear cc fz t1 t2 t3 t4 t5 t6 t7 t8 ha hb da1 da2 db1 db2 HV
          go_wp2_with fail
          go_roundw
          case rel => exact ⟨2 + 1, by go_num, by omega, (HB.out.setCell (p := ⟨w.heap.size, 2, none⟩) (Nat.le_refl _) _).drew, heap_setCell_same wr w.heap.size 2 _ _ _ HG.out⟩
          case measure => simp [intOf]
        · have HG := Lib.hid hg
          have c0 := cell_blk hg 0 (v := .int .i64 x) rfl
          have c1 := cell_blk hg 1 (v := .int .i64 y) rfl
          have c2 := cell_blk hg 2 (v := .int .i64 z) rfl
          have hi' := show _ = Value.int .i64 3 from hi
          subst hi'
          clear hg hi
          by_cases hy1 : 59 < y
          · go_wp2_with fail
            go_ret2
            exact rtold_no (.inl hy1) HB.out
          by_cases hz1 : 59 < z
          · go_wp2_with fail
            go_ret2
            exact rtold_no (.inr (.inl hz1)) HB.out
          by_cases hb : 86400 < 3600 * x + 60 * y + z
          · go_wp2_with fail
            go_ret2
            exact rtold_no (.inr (.inr hb)) HB.out
          · go_wp2_with fail
            go_ret2
            exact rtold_yes (by omega) HB.out
end Go.Proofs.YtgfibckahnjclaaDoor

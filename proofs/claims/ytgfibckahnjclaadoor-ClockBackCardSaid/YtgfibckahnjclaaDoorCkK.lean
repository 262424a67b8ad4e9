/- Contract: the document's Parse of a short text of digits and a colon. -/
import Derived.Test.YtgfibckahnjclaaDoorCkJ
namespace Go.Proofs.YtgfibckahnjclaaDoor
open Go.RowKit

set_option maxRecDepth 100000 in
set_option maxHeartbeats 4000000 in
theorem refParse_five (s : ByteArray) (w : World) (hn : s.size = 5) (hok : ∀ k (h : k < s.size), chk s[k] k) (x y : Int)
    (hx : 10 * (((s[0]'(by omega)).toNat : Int) - 48) + (((s[1]'(by omega)).toNat : Int) - 48) = x) (hy : 10 * (((s[3]'(by omega)).toNat : Int) - 48) + (((s[4]'(by omega)).toNat : Int) - 48) = y) :
    Calls Tryd.prog 22 #[.string s] w (RTold x y 0 w) := by
  obtain ⟨a0, ha0⟩ : ∃ c, s[0]'(by omega) = c := ⟨_, rfl⟩
  obtain ⟨b0, hb0⟩ : ∃ c, s[1]'(by omega) = c := ⟨_, rfl⟩
  have da0 := chk_digit (hok 0 (by omega)) (by omega)
  have db0 := chk_digit (hok 1 (by omega)) (by omega)
  rw [ha0] at da0
  rw [hb0] at db0
  obtain ⟨a1, ha1⟩ : ∃ c, s[3]'(by omega) = c := ⟨_, rfl⟩
  obtain ⟨b1, hb1⟩ : ∃ c, s[4]'(by omega) = c := ⟨_, rfl⟩
  have da1 := chk_digit (hok 3 (by omega)) (by omega)
  have db1 := chk_digit (hok 4 (by omega)) (by omega)
  rw [ha1] at da1
  rw [hb1] at db1
  rw [ha0, hb0] at hx
  have Hx := Lib.hid hx
  have rx1 : 0 ≤ x := by omega
  have rx2 : x ≤ 99 := by omega
  rw [ha1, hb1] at hy
  have Hy := Lib.hid hy
  have ry1 : 0 ≤ y := by omega
  have ry2 : y ≤ 99 := by omega
  have HA0 := Lib.hid (And.intro ha0 hb0)
  have DD0 := Lib.hid (And.intro da0 db0)
  have HA1 := Lib.hid (And.intro ha1 hb1)
  have DD1 := Lib.hid (And.intro da1 db1)
  clear ha0 hb0 da0 db0 hx ha1 hb1 da1 db1 hy
  have HOK := Lib.hid hok
  clear hok
  go_enter Tryd.func22, Tryd.ntmps22
  go_wp2_with fail
  go_loop [4] (fun i => ∃ k : Nat, i = .int .i64 k ∧ k ≤ 5) (fun i => 5 - (intOf i).toNat)
  case atStart => exact ⟨0, rfl, Nat.zero_le _⟩
  case round =>
    obtain ⟨k, rfl, hk⟩ := hrel
    by_cases hlt : k < 5
    · have hks : k < s.size := by omega
      have HO := Lib.hid (HOK.out k hks)
      obtain ⟨c, hc⟩ : ∃ c, s[k] = c := ⟨_, rfl⟩
      rw [hc] at HO
      by_cases h3 : k % 3 = 2
      · have h58 := chk_colon HO.out h3
        have d3 : ((k : Int) % 3 == 2) = true := by simp; omega
        have d4 : ((k : Int) % 3 != 2) = false := by simp; omega
        clear h3 HO
        go_wp2_with fail
        go_round
        case rel => exact ⟨k + 1, by go_num, hlt⟩
        case measure => simp [intOf]; omega
      · obtain ⟨hd1, hd2⟩ := chk_digit HO.out h3
        have d3 : ((k : Int) % 3 == 2) = false := by rw [beq_eq_false_iff_ne]; omega
        have d4 : ((k : Int) % 3 != 2) = true := by simp [d3, bne]
        clear h3 HO
        go_wp2_with fail
        go_round
        case rel => exact ⟨k + 1, by go_num, hlt⟩
        case measure => simp [intOf]; omega
    · obtain rfl : k = 5 := by omega
      clear hlt
      go_wp2_with fail
      have HB0 := Lib.hid ((Below.refl w.heap.size w).alloc (Nat.le_refl _) (.cells #[.int .i64 0, .int .i64 0, .int .i64 0] 68))
      have G0 := Lib.hid (heap_alloc_new w (.cells #[.int .i64 0, .int .i64 0, .int .i64 0] 68))
      go_loopw [6] (fun i wr => ∃ k : Nat, i = .int .i64 k ∧ k ≤ 2 ∧ Below w.heap.size w wr ∧ wr.heap[w.heap.size]? = some (.cells (row3 x y 0 k) 68 (0, 0))) (fun i _ => 2 - (intOf i).toNat)
      case atStart => exact ⟨0, rfl, Nat.zero_le _, HB0.out, G0.out⟩
      case round =>
        obtain ⟨k, hi, hk2, hb, hg⟩ := hrel
        clear HB0 G0 hk
        have HB := Lib.hid hb
        clear hb
        rcases (show k = 0 ∨ k = 1 ∨ k = 2 by omega) with rfl | rfl | rfl
        · have hi' := show _ = Value.int .i64 0 from hi
          subst hi'
          have fz := frz_blk (show wr.heap[w.heap.size]? = some (.cells (row3 x y 0 0) 68 (0, 0)) from hg) 0
          have cc := cell_blk hg 0 (v := .int .i64 0) rfl
          have HG := Lib.hid hg
          obtain ⟨ha, hb⟩ := HA0.out
          obtain ⟨⟨da1, da2⟩, db1, db2⟩ := DD0.out
          obtain ⟨p, hp⟩ : ∃ p, (a0.toNat : Int) - 48 = p := ⟨_, rfl⟩
          obtain ⟨q, hq⟩ : ∃ q, (b0.toNat : Int) - 48 = q := ⟨_, rfl⟩
          have HV : Hid (10 * p + q = x) := by
            have := Hx.out
            rw [← hp, ← hq]
            exact this
          have p1 : 0 ≤ p ∧ p ≤ 9 := by omega
          have p2 : 0 ≤ q ∧ q ≤ 9 := by omega
          have t1 : IntKind.i64.wrap p = p := IntWalk.i64_in _ (by omega)
          have t2 : IntKind.i64.wrap (10 * p) = 10 * p := IntWalk.i64_in _ (by omega)
          have t3 : IntKind.i64.wrap q = q := IntWalk.i64_in _ (by omega)
          have t4 : IntKind.i64.wrap (10 * p + q) = x := (IntWalk.i64_in _ (by omega)).trans HV.out
          have t5 : IntKind.u8.wrap ((a0.toNat : Int) - 48) = p := (IntWalk.u8_in _ (by omega)).trans hp
          have t6 : IntKind.u8.wrap ((b0.toNat : Int) - 48) = q := (IntWalk.u8_in _ (by omega)).trans hq
          have t7 : IntKind.i64.wrap 0 = 0 := rfl
          have t8 : IntKind.i64.wrap 1 = 1 := rfl
          clear hg hi hp hq p1 p2
          go_wp2_with fail
          go_still_tail 17, (by kernel_rfl)
          change wpList _ _ _ _ _ wr.drew
          have cd : wr.drew.cell? ⟨w.heap.size, 0, none⟩ = some (.int .i64 0) := cc
          have fd : wr.drew.frozen? ⟨w.heap.size, 0, none⟩ = false := fz
          clear cc fz t1 t2 t3 t4 t5 t6 t7 t8 ha hb da1 da2 db1 db2 HV
          go_wp2_with fail
          go_roundw
          case rel => exact ⟨0 + 1, by go_num, by omega, (HB.out.setCell (p := ⟨w.heap.size, 0, none⟩) (Nat.le_refl _) _).drew, heap_setCell_same wr w.heap.size 0 _ _ _ HG.out⟩
          case measure => simp [intOf]
        · have hi' := show _ = Value.int .i64 1 from hi
          subst hi'
          have fz := frz_blk (show wr.heap[w.heap.size]? = some (.cells (row3 x y 0 1) 68 (0, 0)) from hg) 1
          have cc := cell_blk hg 1 (v := .int .i64 0) rfl
          have HG := Lib.hid hg
          obtain ⟨ha, hb⟩ := HA1.out
          obtain ⟨⟨da1, da2⟩, db1, db2⟩ := DD1.out
          obtain ⟨p, hp⟩ : ∃ p, (a1.toNat : Int) - 48 = p := ⟨_, rfl⟩
          obtain ⟨q, hq⟩ : ∃ q, (b1.toNat : Int) - 48 = q := ⟨_, rfl⟩
          have HV : Hid (10 * p + q = y) := by
            have := Hy.out
            rw [← hp, ← hq]
            exact this
          have p1 : 0 ≤ p ∧ p ≤ 9 := by omega
          have p2 : 0 ≤ q ∧ q ≤ 9 := by omega
          have t1 : IntKind.i64.wrap p = p := IntWalk.i64_in _ (by omega)
          have t2 : IntKind.i64.wrap (10 * p) = 10 * p := IntWalk.i64_in _ (by omega)
          have t3 : IntKind.i64.wrap q = q := IntWalk.i64_in _ (by omega)
          have t4 : IntKind.i64.wrap (10 * p + q) = y := (IntWalk.i64_in _ (by omega)).trans HV.out
          have t5 : IntKind.u8.wrap ((a1.toNat : Int) - 48) = p := (IntWalk.u8_in _ (by omega)).trans hp
          have t6 : IntKind.u8.wrap ((b1.toNat : Int) - 48) = q := (IntWalk.u8_in _ (by omega)).trans hq
          have t7 : IntKind.i64.wrap 3 = 3 := rfl
          have t8 : IntKind.i64.wrap 4 = 4 := rfl
          clear hg hi hp hq p1 p2
          go_wp2_with fail
          go_still_tail 17, (by kernel_rfl)
          change wpList _ _ _ _ _ wr.drew
          have cd : wr.drew.cell? ⟨w.heap.size, 1, none⟩ = some (.int .i64 0) := cc
          have fd : wr.drew.frozen? ⟨w.heap.size, 1, none⟩ = false := fz
          clear cc fz t1 t2 t3 t4 t5 t6 t7 t8 ha hb da1 da2 db1 db2 HV
          go_wp2_with fail
          go_roundw
          case rel => exact ⟨1 + 1, by go_num, by omega, (HB.out.setCell (p := ⟨w.heap.size, 1, none⟩) (Nat.le_refl _) _).drew, heap_setCell_same wr w.heap.size 1 _ _ _ HG.out⟩
          case measure => simp [intOf]
        · have HG := Lib.hid hg
          have c0 := cell_blk hg 0 (v := .int .i64 x) rfl
          have c1 := cell_blk hg 1 (v := .int .i64 y) rfl
          have c2 := cell_blk hg 2 (v := .int .i64 0) rfl
          have hi' := show _ = Value.int .i64 2 from hi
          subst hi'
          clear hg hi
          by_cases hy1 : 59 < y
          · go_wp2_with fail
            go_ret2
            exact rtold_no (.inl hy1) HB.out
          by_cases hb : 86400 < 3600 * x + 60 * y + 0
          · go_wp2_with fail
            go_ret2
            exact rtold_no (.inr (.inr hb)) HB.out
          · go_wp2_with fail
            go_ret2
            exact rtold_yes0 (by omega) HB.out
end Go.Proofs.YtgfibckahnjclaaDoor

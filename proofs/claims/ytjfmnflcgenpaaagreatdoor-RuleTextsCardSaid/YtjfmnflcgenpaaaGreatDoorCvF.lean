/- Contract: the document's Days. -/
import Derived.Test.YtjfmnflcgenpaaaGreatDoorCvE
import Derived.Test.YtjfmnflcgenpaaaGreatDoorCvR
namespace Go.Proofs.YtjfmnflcgenpaaaGreatDoor
open Go.RowKit

theorem cell_blk {w : World} {g : Nat} {cs : Array Value} {t : TypeId} {fr : Nat × Nat} (h : w.heap[g]? = some (.cells cs t fr)) (k : Nat) {v : Value} (hv : cs[k]? = some v) : w.cell? ⟨g, k, none⟩ = some v := by
  simp [World.cell?, h, hv]
set_option maxRecDepth 100000 in
set_option maxHeartbeats 2000000 in
theorem refDays_any (y : Int) (m : Nat) (d : Int) (w : World) (hi : Is y m d) (hy1 : -274877906944 ≤ y) (hy2 : y ≤ 274877906944) :
    Calls Tryz.prog 23 #[dt y m d] w fun e w' => e = .returned (.int .i64 (nr y m d)) ∧ Below w.heap.size w w' := by
  have h1 := hi.m1
  have h2 := hi.m12
  have h3 := hi.d1
  have h4 := hi.dl
  have hl := mlen_le (y := y) h1 h2
  have hW := Lib.hid (whole_any (y - 1970) 400 (w.alloc (.cells #[.int .i64 y, .int .i64 m, .int .i64 d] 23)) (by omega) (by omega) (by omega) (by omega))
  obtain ⟨q, hq⟩ : ∃ q, (y - 1970) / 400 = q := ⟨_, rfl⟩
  obtain ⟨R, hR⟩ : ∃ R : Nat, (y - 1970) % 400 = R := ⟨((y - 1970) % 400).toNat, by omega⟩
  have hR4 : R < 400 := by omega
  have hyq : y = 1970 + R + 400 * q := by omega
  have hq1 : -1000000000 ≤ q := by omega
  have hq2 : q ≤ 1000000000 := by omega
  rw [hq, hR] at hW
  obtain ⟨k0, rfl⟩ : ∃ k, m = k + 1 := ⟨m - 1, by omega⟩
  have H : Hid (146097 * q + bgn (1970 + R) + cum (1970 + R) k0 + d - 1 = nr y (k0 + 1) d) := by
    unfold Hid nr
    rw [hyq, bgn_400, cum_400, Nat.add_sub_cancel]
    omega
  generalize nr y (k0 + 1) d = res at *
  have hml : d ≤ 31 := by omega
  clear h4 hl hi hyq hq hR
  unfold dt
  go_enter Tryz.func23, Tryz.ntmps23
  go_wp2_with fail
  refine hW.out.mono ?_
  rintro e w1 ⟨rfl, hb1⟩
  have g1 : w1.heap[w.heap.size]? = _ := (hb1.block w.heap.size (by simp)).trans (heap_alloc_new _ _)
  have HB1 := Lib.hid (((Below.refl w.heap.size w).alloc (Nat.le_refl _) (.cells #[.int .i64 y, .int .i64 ((k0 + 1 : Nat) : Int), .int .i64 d] 23)).trans (hb1.mono (by simp)))
  have G1 := Lib.hid g1
  clear hW hb1 g1
  go_wp2_with fail
  go_loop [5, 6] (fun n i => ∃ k : Nat, i = .int .i64 (1970 + k) ∧ k ≤ R ∧ n = .int .i64 (146097 * q + bgn (1970 + k))) (fun _ i => R + 1970 - (intOf i).toNat)
  case atStart => exact ⟨0, rfl, by omega, by simp [bgn_1970]⟩
  case round =>
    obtain ⟨k, rfl, hk, rfl⟩ := hrel
    have hb0 := bgn_hi (y := 1970 + k) (by omega)
    have hb00 := bgn_nat 1970 k
    rw [bgn_1970] at hb00
    by_cases hlt : k < R
    · have HS := Lib.hid (bgn_succ (1970 + k))
      have hl := refLeap_any (1970 + k) w1
      cases hL : leapB (1970 + k) with
      | true =>
        rw [leapN_true hL] at HS
        rw [hL] at hl
        have HL := Lib.hid hl
        clear hl hL
        generalize bgn (1970 + k) = b at *
        go_wp2_with fail
        refine HL.out.mono ?_
        rintro e w' ⟨rfl, rfl⟩
        go_wp2_with fail
        go_round
        case rel => exact ⟨k + 1, by go_num, by omega, by rw [show (1970 : Int) + ((k + 1 : Nat) : Int) = 1970 + k + 1 by omega, HS.out]; go_num⟩
        case measure => simp [intOf]; omega
      | false =>
        rw [leapN_false hL] at HS
        rw [hL] at hl
        have HL := Lib.hid hl
        clear hl hL
        generalize bgn (1970 + k) = b at *
        go_wp2_with fail
        refine HL.out.mono ?_
        rintro e w' ⟨rfl, rfl⟩
        go_wp2_with fail
        go_round
        case rel => exact ⟨k + 1, by go_num, by omega, by rw [show (1970 : Int) + ((k + 1 : Nat) : Int) = 1970 + k + 1 by omega, HS.out]; go_num⟩
        case measure => simp [intOf]; omega
    · obtain rfl : k = R := by omega
      generalize bgn (1970 + k) = b at *
      go_wp2_with fail
      obtain ⟨C, hC⟩ : ∃ C, 146097 * q + b = C := ⟨_, rfl⟩
      rw [hC] at H ⊢
      have hC1 : -200000000000000 ≤ C := by omega
      have hC2 : C ≤ 200000000000000 := by omega
      clear hC hb0 hb00 hlt hk
      go_loopw [5, 7] (fun n i wr => ∃ j : Nat, i = .int .i64 ((j : Int) + 1) ∧ j ≤ k0 ∧ n = .int .i64 (C + cum (1970 + k) j) ∧ Below w.heap.size w wr ∧ wr.heap[w.heap.size]? = some (.cells #[.int .i64 y, .int .i64 ((k0 + 1 : Nat) : Int), .int .i64 d] 23 (0, 0))) (fun _ i _ => k0 + 1 - (intOf i).toNat)
      case atStart => exact ⟨0, rfl, by omega, by simp [cum], HB1.out, G1.out⟩
      case round =>
        obtain ⟨j, rfl, hj, rfl, hb, hg⟩ := hrel
        clear HB1 G1
        have hcum := cum_nn (1970 + k) j (by omega)
        have c1 := cell_blk hg 1 (v := .int .i64 ((k0 : Int) + 1)) rfl
        have c2 := cell_blk hg 2 (v := .int .i64 d) rfl
        have hlt0 := (Array.getElem?_eq_some_iff.1 hg).1
        have HG := Lib.hid hg
        have HB := Lib.hid hb
        clear hg hb
        by_cases hlt : j < k0
        · have HS := Lib.hid (cum_succ (1970 + k) j)
          have hlk := mlen_le (y := 1970 + k) (m := j + 1) (by omega) (by omega)
          have HL := Lib.hid (refLength_any (1970 + k) (j + 1) wr (by omega) (by omega))
          generalize cum (1970 + k) j = c at *
          generalize mlen (1970 + k) (j + 1) = x at *
          go_wp2_with fail
          refine HL.out.mono ?_
          rintro e w2 ⟨rfl, hb2⟩
          have HB2 := Lib.hid (HB.out.trans (hb2.mono HB.out.size))
          have HG2 := Lib.hid ((hb2.block _ hlt0).trans HG.out)
          clear hb2 c1 c2
          go_wp2_with fail
          go_roundw
          case rel => exact ⟨j + 1, by go_num, by omega, by rw [HS.out]; go_num, HB2.out, HG2.out⟩
          case measure => simp [intOf]; omega
        · obtain rfl : j = k0 := by omega
          generalize cum (1970 + k) j = c at *
          go_wp2_with fail
          go_ret
          exact ⟨ret_int H.out, HB.out⟩
end Go.Proofs.YtjfmnflcgenpaaaGreatDoor

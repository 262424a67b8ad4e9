/- Contract: the document's Of. -/
import Derived.Test.YtjfmnflcgenpaaaGreatDoorCvF
namespace Go.Proofs.YtjfmnflcgenpaaaGreatDoor
open Go.RowKit

theorem frz_blk {w : World} {g : Nat} {cs : Array Value} {t : TypeId} (h : w.heap[g]? = some (.cells cs t (0, 0))) (k : Nat) : w.frozen? ⟨g, k, none⟩ = false := by
  simp [World.frozen?, h]
theorem set3 {w : World} {g : Nat} {a b c x y z : Value} {t : TypeId} (h : w.heap[g]? = some (.cells #[a, b, c] t (0, 0))) : (((w.setCell ⟨g, 0, none⟩ x).setCell ⟨g, 1, none⟩ y).setCell ⟨g, 2, none⟩ z).heap[g]? = some (.cells #[x, y, z] t (0, 0)) :=
  heap_setCell_same _ g 2 _ t z (heap_setCell_same _ g 1 _ t y (heap_setCell_same w g 0 _ t x h))
theorem below_set3 {w W : World} {B g : Nat} {x y z : Value} (h : Below B w W) (hg : B ≤ g) : Below B w (((W.setCell ⟨g, 0, none⟩ x).setCell ⟨g, 1, none⟩ y).setCell ⟨g, 2, none⟩ z) :=
  ((h.setCell hg x).setCell hg y).setCell hg z
theorem nr_q (y q n r : Int) (m : Nat) (d : Int) (hi : Is y m d) (hn : nr y m d = n) (hq : n / 146097 = q) (hr : n % 146097 = r) :
    Is (y - 400 * q) m d ∧ nr (y - 400 * q) m d = r ∧ 1970 ≤ y - 400 * q ∧ y - 400 * q ≤ 2370 := by
  have e : y = (y - 400 * q) + 400 * q := by omega
  have h1 : Is (y - 400 * q) m d := ⟨hi.m1, hi.m12, hi.d1, by rw [← mlen_400 _ q, ← e]; exact hi.dl⟩
  have h2 := nr_400 (y - 400 * q) q m d
  rw [← e, hn] at h2
  have hr0 : nr (y - 400 * q) m d = r := by omega
  have hb := nr_in h1
  rw [hr0] at hb
  refine ⟨h1, hr0, ?_, ?_⟩
  · rcases Int.lt_or_le (y - 400 * q) 1970 with h | h
    · have := bgn_le (show y - 400 * q + 1 ≤ 1970 by omega)
      have := bgn_1970
      omega
    · exact h
  · rcases Int.lt_or_le 2370 (y - 400 * q) with h | h
    · have := bgn_le (show 2370 ≤ y - 400 * q by omega)
      have : bgn 2370 = 146097 := by decide
      omega
    · exact h
set_option maxRecDepth 100000 in
set_option maxHeartbeats 2000000 in
theorem refOf_any (y : Int) (m : Nat) (d n : Int) (w : World) (hi : Is y m d) (hn : nr y m d = n) (hn1 : -70368744177664 ≤ n) (hn2 : n ≤ 70368744177664) :
    Calls Tryz.prog 27 #[.int .i64 n] w fun e w' => e = .returned (dt y m d) ∧ Below w.heap.size w w' := by
  have hW := Lib.hid (whole_any n 146097 (w.alloc (.cells #[.int .i64 0, .int .i64 0, .int .i64 0] 23)) (by omega) (by omega) (by omega) (by omega))
  obtain ⟨q, hq⟩ : ∃ q, n / 146097 = q := ⟨_, rfl⟩
  obtain ⟨r, hr⟩ : ∃ r, n % 146097 = r := ⟨_, rfl⟩
  have hq1 : -1000000000 ≤ q := by omega
  have hq2 : q ≤ 1000000000 := by omega
  have hr1 : 0 ≤ r := by omega
  have hr2 : r < 146097 := by omega
  rw [hq, hr] at hW
  obtain ⟨hj, hrr, hY1, hY2⟩ := nr_q y q n r m d hi hn hq hr
  clear hi hn hq hr
  obtain ⟨Y, hY⟩ : ∃ Y : Nat, y - 400 * q = 1970 + Y := ⟨(y - 400 * q - 1970).toNat, by omega⟩
  obtain rfl : y = 1970 + Y + 400 * q := by omega
  rw [hY] at hj hrr
  have hYl : Y ≤ 400 := by omega
  clear hY hY1 hY2
  have hin := nr_in hj
  have h1 := hj.m1
  have h2 := hj.m12
  have h3 := hj.d1
  have h4 := hj.dl
  obtain ⟨k0, rfl⟩ : ∃ k, m = k + 1 := ⟨m - 1, by omega⟩
  have H := Lib.hid (show bgn (1970 + Y) + cum (1970 + Y) k0 + d - 1 = r from hrr)
  rw [hrr] at hin
  have HI := Lib.hid hin
  clear hrr hin hj
  unfold dt
  go_enter Tryz.func27, Tryz.ntmps27
  go_wp2_with fail
  refine hW.out.mono ?_
  rintro e w1 ⟨rfl, hb1⟩
  have g1 : w1.heap[w.heap.size]? = _ := (hb1.block w.heap.size (by simp)).trans (heap_alloc_new _ _)
  have HB1 := Lib.hid (((Below.refl w.heap.size w).alloc (Nat.le_refl _) (.cells #[.int .i64 0, .int .i64 0, .int .i64 0] 23)).trans (hb1.mono (by simp)))
  have G1 := Lib.hid g1
  clear hW hb1 g1
  go_wp2_with fail
  go_loop [4, 5] (fun l i => ∃ k : Nat, i = .int .i64 (1970 + k) ∧ k ≤ Y ∧ l = .int .i64 (r - bgn (1970 + k))) (fun _ i => Y + 1970 - (intOf i).toNat)
  case atStart => exact ⟨0, rfl, by omega, by simp [bgn_1970]⟩
  case round =>
    obtain ⟨k, rfl, hk, rfl⟩ := hrel
    have hb0 := bgn_hi (y := 1970 + k) (by omega)
    have hb00 := bgn_nat 1970 k
    rw [bgn_1970] at hb00
    by_cases hlt : k < Y
    · have HS := Lib.hid (bgn_succ (1970 + k))
      have hmo : bgn (1970 + k + 1) ≤ r := by
        have h5 := bgn_le (show (1970 : Int) + k + 1 ≤ 1970 + Y by omega)
        have := HI.out
        omega
      have hl := refLeap_any (1970 + k) w1
      cases hL : leapB (1970 + k) with
      | true =>
        rw [leapN_true hL] at HS
        rw [HS.out] at hmo
        rw [hL] at hl
        have HL := Lib.hid hl
        clear hl hL
        generalize bgn (1970 + k) = b at *
        go_wp2_with fail
        refine HL.out.mono ?_
        rintro e w' ⟨rfl, rfl⟩
        go_wp2_with fail
        go_round
        case rel => exact ⟨k + 1, by go_num, by omega, by rw [show (1970 : Int) + ((k + 1 : Nat) : Int) = 1970 + k + 1 by omega, HS.out]; go_num⟩
        case measure => simp [intOf]; omega
      | false =>
        rw [leapN_false hL] at HS
        rw [HS.out] at hmo
        rw [hL] at hl
        have HL := Lib.hid hl
        clear hl hL
        generalize bgn (1970 + k) = b at *
        go_wp2_with fail
        refine HL.out.mono ?_
        rintro e w' ⟨rfl, rfl⟩
        go_wp2_with fail
        go_round
        case rel => exact ⟨k + 1, by go_num, by omega, by rw [show (1970 : Int) + ((k + 1 : Nat) : Int) = 1970 + k + 1 by omega, HS.out]; go_num⟩
        case measure => simp [intOf]; omega
    · obtain rfl : k = Y := by omega
      have hmo : r < bgn (1970 + k) + 365 + leapN (1970 + k) := by
        have := HI.out
        rw [bgn_succ] at this
        omega
      have hl := refLeap_any (1970 + k) w1
      cases hL : leapB (1970 + k)
      all_goals
        rw [hL] at hl
        first
        | rw [leapN_true hL] at hmo
        | rw [leapN_false hL] at hmo
        have HL := Lib.hid hl
        clear hl hL
        generalize bgn (1970 + k) = b at *
        go_wp2_with fail
        refine HL.out.mono ?_
        rintro e w' ⟨rfl, rfl⟩
        go_wp2_with fail
        obtain ⟨C, hC⟩ : ∃ C, r - b = C := ⟨_, rfl⟩
        have H2 := Lib.hid (show cum (1970 + k) k0 + d - 1 = C by have := H.out; omega)
        rw [hC]
        clear hC hb0 hb00 hlt hk HL hmo HI H
        have hcum0 := cum_nn (1970 + k) k0 (by omega)
        have hmlk := mlen_le (y := 1970 + k) (m := k0 + 1) h1 h2
        have hC1 : 0 ≤ C := by have := H2.out; omega
        have hC2 : C ≤ 1000 := by have := H2.out; omega
        clear hcum0 hmlk
        go_loopw [4, 7] (fun l i wr => ∃ j : Nat, i = .int .i64 ((j : Int) + 1) ∧ j ≤ k0 ∧ l = .int .i64 (C - cum (1970 + k) j) ∧ Below w.heap.size w wr ∧ wr.heap[w.heap.size]? = some (.cells #[.int .i64 0, .int .i64 0, .int .i64 0] 23 (0, 0))) (fun _ i _ => k0 + 1 - (intOf i).toNat)
        case atStart => exact ⟨0, rfl, by omega, by simp [cum], HB1.out, G1.out⟩
        case round =>
          obtain ⟨j, rfl, hj, rfl, hb, hg⟩ := hrel
          clear HB1 G1
          have hcum := cum_nn (1970 + k) j (by omega)
          have hlt0 := (Array.getElem?_eq_some_iff.1 hg).1
          have HG := Lib.hid hg
          have HB := Lib.hid hb
          clear hg hb
          have hlk := mlen_le (y := 1970 + k) (m := j + 1) (by omega) (by omega)
          have HL := Lib.hid (refLength_any (1970 + k) (j + 1) wr (by omega) (by omega))
          by_cases hlt : j < k0
          · have HS := Lib.hid (cum_succ (1970 + k) j)
            have hge : mlen (1970 + k) (j + 1) ≤ C - cum (1970 + k) j := by
              have := cum_mono (1970 + k) (k := j + 1) (l := k0) (by omega) (by omega)
              have := HS.out
              have := H2.out
              omega
            have HL' := Lib.hid (fun wx => refLength_any (1970 + k) (j + 1) wx (by omega) (by omega))
            generalize cum (1970 + k) j = c at *
            generalize mlen (1970 + k) (j + 1) = x at *
            go_wp2_with fail
            refine HL.out.mono ?_
            rintro e w2 ⟨rfl, hb2⟩
            have HB2 := Lib.hid (HB.out.trans (hb2.mono HB.out.size))
            have HG2 := Lib.hid ((hb2.block _ hlt0).trans HG.out)
            have hlt2 := Nat.lt_of_lt_of_le hlt0 hb2.size
            clear hb2
            go_wp2_with fail
            refine (HL'.out w2).mono ?_
            rintro e w3 ⟨rfl, hb3⟩
            have HB3 := Lib.hid (HB2.out.trans (hb3.mono HB2.out.size))
            have HG3 := Lib.hid ((hb3.block _ hlt2).trans HG2.out)
            clear hb3
            go_wp2_with fail
            go_roundw
            case rel => exact ⟨j + 1, by go_num, by omega, by rw [HS.out]; go_num, HB3.out, HG3.out⟩
            case measure => simp [intOf]; omega
          · obtain rfl : j = k0 := by omega
            have hle : C - cum (1970 + k) j = d - 1 := by
              have := H2.out
              omega
            rw [hle]
            clear hle hcum H2
            generalize mlen (1970 + k) (j + 1) = x at *
            go_wp2_with fail
            refine HL.out.mono ?_
            rintro e w2 ⟨rfl, hb2⟩
            have HB2 := Lib.hid (HB.out.trans (hb2.mono HB.out.size))
            have hg2 := (hb2.block _ hlt0).trans HG.out
            have r0 := cell_blk hg2 0 (v := .int .i64 0) rfl
            have r1 := cell_blk hg2 1 (v := .int .i64 0) rfl
            have r2 := cell_blk hg2 2 (v := .int .i64 0) rfl
            have f0 := frz_blk hg2 0
            have f1 := frz_blk hg2 1
            have f2 := frz_blk hg2 2
            have HG2 := Lib.hid hg2
            clear hb2 hg2
            go_wp2_with fail
            refine bodyPost_ret (results_cell_row rfl _ _ w.heap.size _ _ (0, 0) _ rfl (set3 HG2.out) Tryz.underlying23 rfl (by kernel_rfl)) rfl ?_
            exact ⟨rfl, below_set3 HB2.out (Nat.le_refl _)⟩
end Go.Proofs.YtjfmnflcgenpaaaGreatDoor

/- The document's In. -/
import Derived.Test.YtlogapkpllgdcaaGreatDoorRf7B
import Derived.Test.YtlogapkpllgdcaaGreatDoorCkB
import Derived.Test.YtlogapkpllgdcaaGreatDoorPdMo
import Derived.Test.YtlogapkpllgdcaaGreatDoorPdFi
namespace Go.Proofs.YtlogapkpllgdcaaGreatDoor
open Go.RowKit

theorem errI_chk {l : List Prd} {i t o : Int} (h : chk l ≠ 0) : errI l i t o = chk l := by
  have h7 : err7 l i = chk l := by unfold err7; rw [if_neg h]
  unfold errI
  rw [h7, if_neg h]
theorem errI_five {l : List Prd} {i t o : Int} (h : chk l = 0) (h1 : i < 0 ∨ (l.length : Int) ≤ i) : errI l i t o = 5 := by
  have h7 : err7 l i = 5 := by
    unfold err7 isOneB
    rw [if_pos h, if_neg]
    simp only [Bool.and_eq_true, decide_eq_true_eq]
    omega
  unfold errI
  rw [h7, if_neg (by omega)]
theorem errI_one {l : List Prd} {i t o : Int} (h : chk l = 0) (h1 : 0 ≤ i) (h2 : i < l.length) (h3 : badT t o) : errI l i t o = 1 := by
  unfold errI
  rw [if_pos (err7_none h h1 h2), if_pos h3]
set_option maxRecDepth 100000 in
set_option maxHeartbeats 1000000 in
theorem refIn_no (l : List Prd) (v : Value) (i t o : Int) (w : World) (hset : HPd w v l) (he : errI l i t o ≠ 0) :
    Calls Tryz.prog 10 #[v, .int .i64 i, .int .i64 t, .int .i64 o] w fun e w' => e = .returned (.tuple #[.bool false, .int .i64 (errI l i t o)]) ∧ Below w.heap.size w w' := by
  have HC := Lib.hid (refChk_any l v w hset)
  obtain ⟨A, c, E, U, rfl, _, _, _⟩ := hset
  obtain ⟨n, hn⟩ : ∃ n, l.length = n := ⟨_, rfl⟩
  rw [hn] at HC ⊢
  by_cases hc : chk l = 0
  · by_cases hi : i < 0 ∨ (n : Int) ≤ i
    · rw [errI_five hc (by rw [hn]; exact hi)]
      rw [hc] at HC
      have hi2 : i < 0 ∨ (¬ i < 0 ∧ (n : Int) ≤ i) := by omega
      clear hi hc he hn
      rcases hi2 with h1 | ⟨h1, h2⟩
      · have d1 : decide (i < 0) = true := decide_eq_true h1
        go_enter Tryz.func10, Tryz.ntmps10
        go_wp2_with fail
        refine HC.out.mono ?_
        rintro e w1 ⟨rfl, hb1⟩
        have HB := Lib.hid hb1
        clear hb1
        go_wp2_with fail
        go_ret2
        exact ⟨rfl, HB.out⟩
      · have d1 : decide (i < 0) = false := decide_eq_false h1
        have d2 : decide ((n : Int) ≤ i) = true := decide_eq_true h2
        go_enter Tryz.func10, Tryz.ntmps10
        go_wp2_with fail
        refine HC.out.mono ?_
        rintro e w1 ⟨rfl, hb1⟩
        have HB := Lib.hid hb1
        clear hb1
        go_wp2_with fail
        go_ret2
        exact ⟨rfl, HB.out⟩
    · have hbad : badT t o := by
        by_cases h : badT t o
        · exact h
        · exact absurd (by unfold errI; rw [if_pos (err7_none hc (by omega) (by omega)), if_neg h]) he
      rw [errI_one hc (by omega) (by omega) hbad]
      have HS := Lib.hid (fun W => refSplit_no t o W hbad)
      rw [hc] at HC
      have h1 : ¬ i < 0 := by omega
      have h2 : ¬ (n : Int) ≤ i := by omega
      have d1 : decide (i < 0) = false := decide_eq_false h1
      have d2 : decide ((n : Int) ≤ i) = false := decide_eq_false h2
      clear hi hc he hn hbad
      go_enter Tryz.func10, Tryz.ntmps10
      go_wp2_with fail
      refine HC.out.mono ?_
      rintro e w1 ⟨rfl, hb1⟩
      have HB := Lib.hid hb1
      clear hb1
      go_wp2_with fail
      refine (HS.out _).mono ?_
      rintro e w2 ⟨rfl, rfl⟩
      go_wp2_with fail
      go_ret2
      exact ⟨rfl, HB.out⟩
  · rw [errI_chk hc]
    generalize chk l = k at *
    clear he hn
    go_enter Tryz.func10, Tryz.ntmps10
    go_wp2_with fail
    refine HC.out.mono ?_
    rintro e w1 ⟨rfl, hb1⟩
    have HB := Lib.hid hb1
    clear hb1
    go_wp2_with fail
    go_ret2
    exact ⟨rfl, HB.out⟩
set_option maxRecDepth 100000 in
set_option maxHeartbeats 1000000 in
theorem refIn_ok (l : List Prd) (v : Value) (i : Nat) (t o d : Int) (s : Nat) (w : World) (hset : HPd w v l) (he : errI l i t o = 0) (hd : (t + o) / 86400 = d) (hs : (t + o) % 86400 = s) :
    Calls Tryz.prog 10 #[v, .int .i64 i, .int .i64 t, .int .i64 o] w fun e w' => e = .returned (.tuple #[.bool (secF l d i s), .int .i64 0]) ∧ Below w.heap.size w w' := by
  obtain ⟨h7, ht1, ht2, ho1, ho2⟩ := errI_zero he
  obtain ⟨hc, hi1, hi2⟩ := err7_zero h7
  have HC := Lib.hid (refChk_any l v w hset)
  have HH := Lib.hid (fun W (hW : Below w.heap.size w W) => show Calls _ _ _ _ fun e w' => e = .returned (.bool (secF l d i s)) ∧ Below W.heap.size W w' from refHas_any l v d s i W (good_of hc) (by omega) (by omega) (by omega) (hset.below hW))
  have HS := Lib.hid (fun W => refSplit_ok t o d s W ht1 ht2 ho1 ho2 hd hs)
  obtain ⟨A, c, E, U, rfl, _, _, _⟩ := hset
  obtain ⟨n, hn⟩ : ∃ n, l.length = n := ⟨_, rfl⟩
  rw [hn] at HC HH ⊢
  rw [hc] at HC
  have h2 : ¬ (n : Int) ≤ i := by omega
  have d2 : decide ((n : Int) ≤ i) = false := decide_eq_false h2
  generalize secF l d i s = b at *
  clear hc he hn hd hs h7 hi1 hi2
  go_enter Tryz.func10, Tryz.ntmps10
  go_wp2_with fail
  refine HC.out.mono ?_
  rintro e w1 ⟨rfl, hb1⟩
  have HB := Lib.hid hb1
  clear hb1
  go_wp2_with fail
  refine (HS.out _).mono ?_
  rintro e w2 ⟨rfl, rfl⟩
  go_wp2_with fail
  refine (HH.out _ HB.out).mono ?_
  rintro e w2 ⟨rfl, hb2⟩
  have HB2 := Lib.hid (HB.out.trans (hb2.mono HB.out.size))
  clear hb2
  go_wp2_with fail
  go_ret2
  exact ⟨rfl, HB2.out⟩
end Go.Proofs.YtlogapkpllgdcaaGreatDoor

/- Contracts: has, moment, In. -/
import Derived.Test.YtlogapkpllgdcaaGreatDoorPdIs
import Derived.Test.YtlogapkpllgdcaaGreatDoorCkB
namespace Go.Proofs.YtlogapkpllgdcaaGreatDoor
open Go.RowKit

/-- The error of periods and a number of one. -/
noncomputable def err7 (l : List Prd) (i : Int) : Int := if chk l = 0 then (if isOneB l.length i = true then 0 else 5) else chk l
theorem chk_cases (l : List Prd) : chk l = 0 ∨ chk l = 1 ∨ chk l = 2 ∨ chk l = 5 ∨ chk l = 9 := by
  unfold chk
  split
  · omega
  · split
    · omega
    · split
      · omega
      · split <;> omega
theorem err7_zero {l : List Prd} {i : Int} (h : err7 l i = 0) : chk l = 0 ∧ 0 ≤ i ∧ i < l.length := by
  unfold err7 at h
  split at h
  · rename_i hc
    split at h
    · rename_i ho
      unfold isOneB at ho
      simp only [Bool.and_eq_true, decide_eq_true_eq] at ho
      exact ⟨hc, ho⟩
    · omega
  · rename_i hc
    exact absurd h hc
theorem err7_none {l : List Prd} {i : Int} (h : chk l = 0) (h1 : 0 ≤ i) (h2 : i < l.length) : err7 l i = 0 := by
  unfold err7 isOneB
  rw [if_pos h, if_pos (by simp; omega)]
theorem errE_ne {k : Int} (h : k ≠ 0) : errE k = errK k := if_neg h
set_option maxRecDepth 100000 in
set_option maxHeartbeats 1000000 in
theorem has_any (l : List Prd) (v : Value) (i : Int) (w : World) (ht : Tab w) (hset : HPd w v l) :
    Calls Tryz.prog 36 #[v, .int .i64 i] w fun e w' => e = .returned (errE (err7 l i)) ∧ Below w.heap.size w w' := by
  have HC := Lib.hid (chk_any l v w ht hset)
  obtain ⟨A, c, E, U, rfl, _, _, _⟩ := hset
  have HO := Lib.hid (fun W => isOne_any A l.length c i W)
  by_cases hc : chk l = 0
  · rw [hc, errE_zero] at HC
    have H : Hid (err7 l i = if isOneB l.length i = true then 0 else 5) := by
      unfold Hid err7
      rw [if_pos hc]
    generalize err7 l i = k at *
    generalize isOneB l.length i = b at *
    clear hc
    cases b
    · have hk : k = 5 := H.out
      subst hk
      rw [errE_five]
      unfold errK
      go_enter Tryz.func36, Tryz.ntmps36
      go_wp2_with fail
      refine HC.out.mono ?_
      rintro e w1 ⟨rfl, hb1⟩
      have HB := Lib.hid hb1
      clear hb1
      go_wp2_with fail
      refine (HO.out _).mono ?_
      rintro e w2 ⟨rfl, rfl⟩
      go_wp2_with fail
      go_ret
      exact ⟨rfl, HB.out⟩
    · have hk : k = 0 := H.out
      subst hk
      rw [errE_zero]
      go_enter Tryz.func36, Tryz.ntmps36
      go_wp2_with fail
      refine HC.out.mono ?_
      rintro e w1 ⟨rfl, hb1⟩
      have HB := Lib.hid hb1
      clear hb1
      go_wp2_with fail
      refine (HO.out _).mono ?_
      rintro e w2 ⟨rfl, rfl⟩
      go_wp2_with fail
      go_ret
      exact ⟨rfl, HB.out⟩
  · have H : Hid (err7 l i = chk l) := if_neg hc
    rw [H.out]
    rw [errE_ne hc] at HC ⊢
    unfold errK at *
    generalize chk l = k at *
    clear H hc
    go_enter Tryz.func36, Tryz.ntmps36
    go_wp2_with fail
    refine HC.out.mono ?_
    rintro e w1 ⟨rfl, hb1⟩
    have HB := Lib.hid hb1
    clear hb1
    go_wp2_with fail
    go_ret
    exact ⟨rfl, HB.out⟩
theorem set2 {w : World} {g : Nat} {a b x y : Value} {t : TypeId} (h : w.heap[g]? = some (.cells #[a, b] t (0, 0))) : ((w.setCell ⟨g, 0, none⟩ x).setCell ⟨g, 1, none⟩ y).heap[g]? = some (.cells #[x, y] t (0, 0)) :=
  heap_setCell_same _ g 1 _ t y (heap_setCell_same w g 0 _ t x h)
theorem below_set2 {w W : World} {B g : Nat} {x y : Value} (h : Below B w W) (hg : B ≤ g) : Below B w ((W.setCell ⟨g, 0, none⟩ x).setCell ⟨g, 1, none⟩ y) := (h.setCell hg x).setCell hg y
/-- A time, or an offset, that is none. -/
def badT (t o : Int) : Prop := (t < 0 ∨ 4611686018427387904 < t) ∨ (o < -50400 ∨ 50400 < o)
open Classical in
/-- The error of In. -/
noncomputable def errI (l : List Prd) (i t o : Int) : Int := if err7 l i = 0 then (if badT t o then 1 else 0) else err7 l i
theorem errI_zero {l : List Prd} {i t o : Int} (h : errI l i t o = 0) : err7 l i = 0 ∧ 0 ≤ t ∧ t ≤ 4611686018427387904 ∧ -50400 ≤ o ∧ o ≤ 50400 := by
  unfold errI at h
  split at h
  · rename_i h1
    split at h
    · omega
    · rename_i h2
      unfold badT at h2
      omega
  · rename_i h1
    exact absurd h h1
theorem errI_none {l : List Prd} {i t o : Int} (h : err7 l i = 0) (h1 : 0 ≤ t) (h2 : t ≤ 4611686018427387904) (h3 : -50400 ≤ o) (h4 : o ≤ 50400) : errI l i t o = 0 := by
  unfold errI
  rw [if_pos h, if_neg (by unfold badT; omega)]
set_option maxRecDepth 100000 in
set_option maxHeartbeats 1000000 in
theorem moment_no (l : List Prd) (v : Value) (i t o : Int) (w : World) (ht : Tab w) (hset : HPd w v l) (he : errI l i t o ≠ 0) :
    Calls Tryz.prog 18 #[v, .int .i64 i, .int .i64 t, .int .i64 o] w fun e w' => e = .returned (.tuple #[mo 0 0, errK (errI l i t o)]) ∧ Below w.heap.size w w' := by
  have hb := (Below.refl w.heap.size w).alloc (Nat.le_refl _) (.cells #[.int .i64 0, .int .i64 0] 73)
  have HH := Lib.hid (has_any l v i (w.alloc (.cells #[.int .i64 0, .int .i64 0] 73)) (ht.below hb) (hset.below hb))
  have G0 := Lib.hid (heap_alloc_new w (.cells #[.int .i64 0, .int .i64 0] 73))
  have HB := Lib.hid hb
  obtain ⟨A, c, E, U, rfl, _, _, _⟩ := hset
  clear hb ht
  unfold mo
  by_cases h7 : err7 l i = 0
  · have hbad : badT t o := by
      by_cases h : badT t o
      · exact h
      · exact absurd (by unfold errI; rw [if_pos h7, if_neg h]) he
    have e1 : errI l i t o = 1 := by unfold errI; rw [if_pos h7, if_pos hbad]
    rw [e1]
    have HS := Lib.hid (fun W => split_no t o W hbad)
    rw [h7, errE_zero] at HH
    unfold errK mo at *
    clear he h7 hbad e1
    go_enter Tryz.func18, Tryz.ntmps18
    go_wp2_with fail
    refine HH.out.mono ?_
    rintro e w1 ⟨rfl, hb1⟩
    have HB1 := Lib.hid (HB.out.trans (hb1.mono HB.out.size))
    have G1 := Lib.hid ((hb1.block w.heap.size (by simp)).trans G0.out)
    clear hb1
    go_wp2_with fail
    refine (HS.out _).mono ?_
    rintro e w2 ⟨rfl, hb2⟩
    have HB2 := Lib.hid (HB1.out.trans (hb2.mono HB1.out.size))
    have g2 := (hb2.block w.heap.size (Array.getElem?_eq_some_iff.1 G1.out).1).trans G1.out
    have y0 := cell_blk g2 0 (v := .int .i64 0) rfl
    have y1 := cell_blk g2 1 (v := .int .i64 0) rfl
    have y2 := frz_blk g2 0
    have y3 := frz_blk g2 1
    have G2 := Lib.hid g2
    clear hb2 g2
    go_wp2_with fail
    refine bodyPost_ret (results_cell2 rfl _ _ w.heap.size _ _ (0, 0) _ rfl (set2 G2.out) Tryz.underlying73 rfl (by kernel_rfl)) rfl ?_
    exact ⟨rfl, below_set2 HB2.out (Nat.le_refl _)⟩
  · have e1 : errI l i t o = err7 l i := by unfold errI; rw [if_neg h7]
    rw [e1]
    rw [errE_ne h7] at HH
    unfold errK at *
    generalize err7 l i = k at *
    clear he h7 e1
    go_enter Tryz.func18, Tryz.ntmps18
    go_wp2_with fail
    refine HH.out.mono ?_
    rintro e w1 ⟨rfl, hb1⟩
    have HB1 := Lib.hid (HB.out.trans (hb1.mono HB.out.size))
    have g2 := (hb1.block w.heap.size (by simp)).trans G0.out
    have y0 := cell_blk g2 0 (v := .int .i64 0) rfl
    have y1 := cell_blk g2 1 (v := .int .i64 0) rfl
    have y2 := frz_blk g2 0
    have y3 := frz_blk g2 1
    have G2 := Lib.hid g2
    clear hb1 g2
    go_wp2_with fail
    refine bodyPost_ret (results_cell2 rfl _ _ w.heap.size _ _ (0, 0) _ rfl (set2 G2.out) Tryz.underlying73 rfl (by kernel_rfl)) rfl ?_
    exact ⟨rfl, below_set2 HB1.out (Nat.le_refl _)⟩
set_option maxRecDepth 100000 in
set_option maxHeartbeats 1000000 in
theorem moment_ok (l : List Prd) (v : Value) (i t o d s : Int) (w : World) (ht : Tab w) (hset : HPd w v l) (he : errI l i t o = 0) (hd : (t + o) / 86400 = d) (hs : (t + o) % 86400 = s) :
    Calls Tryz.prog 18 #[v, .int .i64 i, .int .i64 t, .int .i64 o] w fun e w' => e = .returned (.tuple #[mo d s, .nilIface]) ∧ Below w.heap.size w w' := by
  obtain ⟨h7, h1, h2, h3, h4⟩ := errI_zero he
  have hb := (Below.refl w.heap.size w).alloc (Nat.le_refl _) (.cells #[.int .i64 0, .int .i64 0] 73)
  have HH := Lib.hid (has_any l v i (w.alloc (.cells #[.int .i64 0, .int .i64 0] 73)) (ht.below hb) (hset.below hb))
  have G0 := Lib.hid (heap_alloc_new w (.cells #[.int .i64 0, .int .i64 0] 73))
  have HB := Lib.hid hb
  obtain ⟨A, c, E, U, rfl, _, _, _⟩ := hset
  have HS := Lib.hid (fun W => split_ok t o d s W h1 h2 h3 h4 hd hs)
  rw [h7, errE_zero] at HH
  unfold mo at *
  clear he h7 hd hs hb ht
  go_enter Tryz.func18, Tryz.ntmps18
  go_wp2_with fail
  refine HH.out.mono ?_
  rintro e w1 ⟨rfl, hb1⟩
  have HB1 := Lib.hid (HB.out.trans (hb1.mono HB.out.size))
  have G1 := Lib.hid ((hb1.block w.heap.size (by simp)).trans G0.out)
  clear hb1
  go_wp2_with fail
  refine (HS.out _).mono ?_
  rintro e w2 ⟨rfl, hb2⟩
  have HB2 := Lib.hid (HB1.out.trans (hb2.mono HB1.out.size))
  have g2 := (hb2.block w.heap.size (Array.getElem?_eq_some_iff.1 G1.out).1).trans G1.out
  have y0 := cell_blk g2 0 (v := .int .i64 0) rfl
  have y1 := cell_blk g2 1 (v := .int .i64 0) rfl
  have y2 := frz_blk g2 0
  have y3 := frz_blk g2 1
  have G2 := Lib.hid g2
  clear hb2 g2
  go_wp2_with fail
  refine bodyPost_ret (results_cell2 rfl _ _ w.heap.size _ _ (0, 0) _ rfl (set2 G2.out) Tryz.underlying73 rfl (by kernel_rfl)) rfl ?_
  exact ⟨rfl, below_set2 HB2.out (Nat.le_refl _)⟩
/-- Whether a time is in a period. -/
noncomputable def inT (l : List Prd) (i : Int) (o t : Int) : Bool := inn l (hitE ((t + o) / 86400) ((t + o) % 86400).toNat) i.toNat
set_option maxRecDepth 100000 in
set_option maxHeartbeats 1000000 in
theorem in_no (l : List Prd) (v : Value) (i t o : Int) (w : World) (ht : Tab w) (hset : HPd w v l) (he : errI l i t o ≠ 0) :
    Calls Tryz.prog 8 #[v, .int .i64 i, .int .i64 t, .int .i64 o] w fun e w' => e = .returned (.tuple #[.bool false, errE (errI l i t o)]) ∧ Below w.heap.size w w' := by
  have HM := Lib.hid (moment_no l v i t o w ht hset he)
  obtain ⟨A, c, E, U, rfl, _, _, _⟩ := hset
  rw [errE_ne he]
  unfold errK mo at *
  generalize errI l i t o = k at *
  clear he ht
  go_enter Tryz.func8, Tryz.ntmps8
  go_wp2_with fail
  refine HM.out.mono ?_
  rintro e w1 ⟨rfl, hb1⟩
  have HB1 := Lib.hid (hb1.alloc hb1.size (.cells #[.int .i64 0, .int .i64 0] 73))
  clear hb1
  go_wp2_with fail
  go_ret2
  exact ⟨rfl, HB1.out⟩
set_option maxRecDepth 100000 in
set_option maxHeartbeats 1000000 in
theorem in_ok (l : List Prd) (v : Value) (i t o : Int) (w : World) (ht : Tab w) (hset : HPd w v l) (he : errI l i t o = 0) :
    Calls Tryz.prog 8 #[v, .int .i64 i, .int .i64 t, .int .i64 o] w fun e w' => e = .returned (.tuple #[.bool (inT l i o t), .nilIface]) ∧ Below w.heap.size w w' := by
  obtain ⟨h7, h1, h2, h3, h4⟩ := errI_zero he
  obtain ⟨hc, hi1, hi2⟩ := err7_zero h7
  obtain ⟨n, rfl⟩ : ∃ n : Nat, i = n := ⟨i.toNat, by omega⟩
  obtain ⟨j, hj⟩ : ∃ j : Nat, (t + o) % 86400 = j := ⟨((t + o) % 86400).toNat, by omega⟩
  obtain ⟨d, hd⟩ : ∃ d, (t + o) / 86400 = d := ⟨_, rfl⟩
  have HM := Lib.hid (moment_ok l v n t o d j w ht hset he hd hj)
  have HI := Lib.hid (fun W (hW : Below w.heap.size w W) => isIn_any l v W d j n (good_of hc) (ht.below hW) (hset.below hW) (by omega) (by omega) (by omega))
  have hq : inT l n o t = inn l (hitE d j) n := by
    unfold inT
    rw [hd, hj]
    rfl
  rw [hq]
  obtain ⟨A, c, E, U, rfl, _, _, _⟩ := hset
  unfold mo at *
  generalize inn l (hitE d j) n = b at *
  clear hq hd hj he h7 hc ht hi1 hi2 h1 h2 h3 h4
  go_enter Tryz.func8, Tryz.ntmps8
  go_wp2_with fail
  refine HM.out.mono ?_
  rintro e w1 ⟨rfl, hb1⟩
  have HB1 := Lib.hid (hb1.alloc hb1.size (.cells #[.int .i64 d, .int .i64 j] 73))
  clear hb1
  go_wp2_with fail
  refine (HI.out _ HB1.out).mono ?_
  rintro e w2 ⟨rfl, hb2⟩
  have HB2 := Lib.hid (HB1.out.trans (hb2.mono HB1.out.size))
  clear hb2
  go_wp2_with fail
  go_ret2
  exact ⟨rfl, HB2.out⟩
end Go.Proofs.YtlogapkpllgdcaaGreatDoor

/- Layer 12's law package: sure. -/
import Derived.Test.YthmklmilgcjmlaaDoorGrLw
namespace Go.Proofs.YthmklmilgcjmlaaDoor
open Go.RowKit

theorem wy_rank {E : Nat → List Nat} (f : Nat → Nat) (h : ∀ i j, j ∈ E i → f i < f j) {i j : Nat} (hw : Wy E i j) : f i < f j := by
  induction hw with
  | one a => exact h _ _ a
  | more a _ ih => exact Nat.lt_trans (h _ _ a) ih
def suW : List (Int × Int) := [(2, 0), (0, 1)]
theorem su_ck : ckW 3 suW = 0 := by decide
theorem su_nt : ntW suW = [(2, 0), (0, 1)] := rfl
theorem su_acyc : ¬ Cyc (eM (ntW suW)) := by
  rintro ⟨i, hi⟩
  refine Nat.lt_irrefl _ (wy_rank (fun i => if i = 2 then 0 else if i = 0 then 1 else 2) (fun i j hj => ?_) hi)
  have h := eM_mem.1 hj
  rw [su_nt] at h
  simp only [List.mem_cons, Prod.mk.injEq, List.not_mem_nil, or_false] at h
  rcases h with ⟨rfl, rfl⟩ | ⟨rfl, rfl⟩ <;> decide
theorem su_ok : Okw 3 (ntW suW) := by
  intro p hp
  rw [su_nt] at hp
  simp only [List.mem_cons, List.not_mem_nil, or_false] at hp
  rcases hp with rfl | rfl <;> decide
theorem su_lp : lpT (ntW suW) 3 = none := (lpT_none su_ok).2 su_acyc
theorem su_or : orA 3 suW = ([2, 0, 1], 0) := by
  unfold orA
  rw [if_pos su_ck]
  show (if lpT (ntW suW) 3 = none then (ordT (ntW suW) 3, 0) else ([], 9)) = _
  rw [if_pos su_lp]
  decide
theorem su_dp : dpA 3 suW = ([1, 2, 0], 0) := by
  unfold dpA
  rw [if_pos su_ck]
  show (if lpT (ntW suW) 3 = none then ((List.range 3).map (dpT (ntW suW) 3), 0) else ([], 9)) = _
  rw [if_pos su_lp]
  decide
theorem rowW_new {w : World} {g : Nat} {a b c d : Int} (h : w.heap[g]? = some (.cells #[.int .i64 a, .int .i64 b, .int .i64 c, .int .i64 d] 40 (0, 0))) : RowW w (.slice (some ⟨g, 0, none⟩) 2 2) [(a, b), (c, d)] :=
  ⟨_, _, rfl, Nat.le_refl _, by unfold maxLen; omega, Rd.block h⟩
theorem rowN_new {w : World} {g a b c : Nat} (h : w.heap[g]? = some (.cells #[.int .i64 (a : Nat), .int .i64 (b : Nat), .int .i64 (c : Nat)] 3 (0, 0))) : RowN w (.slice (some ⟨g, 0, none⟩) 3 3) [a, b, c] :=
  ⟨_, _, rfl, Nat.le_refl _, by unfold maxLen; omega, Rd.block h⟩
set_option maxHeartbeats 2000000 in
set_option maxRecDepth 100000 in
theorem sure_any (hP : PgG) (w : World) : Calls Tryd.prog 8 #[] w fun e w' => e = .returned (.bool true) ∧ Below w.heap.size w w' := by
  obtain ⟨w1, hw1⟩ : ∃ x, w.alloc (.cells #[.int .i64 2, .int .i64 0, .int .i64 0, .int .i64 1] 40) = x := ⟨_, rfl⟩
  have hb1 : Below w.heap.size w w1 := by rw [← hw1]; exact (Below.refl _ _).alloc (Nat.le_refl _) _
  have g1 := (MapKept.heap_alloc w (.cells #[.int .i64 2, .int .i64 0, .int .i64 0, .int .i64 1] 40)).1
  rw [hw1] at g1
  have hOr := hP.or_ 3 _ suW w1 ⟨by decide, by decide⟩ (rowW_new g1)
  have HP := Lib.hid hP
  have H1 := Lib.hid hb1
  have HOr := Lib.hid hOr
  clear hOr hb1 g1 hP
  go_enter Tryd.func8, Tryd.ntmps8
  go_wp2_with fail
  with_reducible refine HOr.out.mono ?_
  rintro e w2 ⟨A2, c2, rfl, hr2, hb2⟩
  rw [su_or] at hr2
  rw [su_or]
  have HB2 := Lib.hid (H1.out.trans (hb2.mono H1.out.size))
  have HR2 := Lib.hid (show RowN w2 (.slice A2 3 c2) [2, 0, 1] from hr2)
  clear hw1 hr2 hb2
  obtain ⟨w3, hw3⟩ : ∃ x, w2.alloc (.cells #[.int .i64 2, .int .i64 0, .int .i64 0, .int .i64 1] 40) = x := ⟨_, rfl⟩
  have hb3 : Below w2.heap.size w2 w3 := by rw [← hw3]; exact (Below.refl _ _).alloc (Nat.le_refl _) _
  have g3 := (MapKept.heap_alloc w2 (.cells #[.int .i64 2, .int .i64 0, .int .i64 0, .int .i64 1] 40)).1
  rw [hw3] at g3
  have hDp := HP.out.dp 3 _ suW w3 ⟨by decide, by decide⟩ (rowW_new g3)
  have HDp := Lib.hid hDp
  have H3 := Lib.hid hb3
  clear hDp hb3 g3
  rw [errE_zero]
  go_wp2_with fail
  with_reducible refine HDp.out.mono ?_
  rintro e w4 ⟨A4, c4, rfl, hr4, hb4⟩
  rw [su_dp] at hr4
  rw [su_dp]
  have HB4 := Lib.hid (HB2.out.trans ((H3.out.trans (hb4.mono H3.out.size)).mono HB2.out.size))
  have HR4 := Lib.hid (show RowN w4 (.slice A4 3 c4) [1, 2, 0] from hr4)
  have HR2b := Lib.hid ((HR2.out.below H3.out).below hb4)
  clear hw3 hr4 hb4
  obtain ⟨w5, hw5⟩ : ∃ x, w4.alloc (.cells #[.int .i64 2, .int .i64 0, .int .i64 1] 3) = x := ⟨_, rfl⟩
  have hb5 : Below w4.heap.size w4 w5 := by rw [← hw5]; exact (Below.refl _ _).alloc (Nat.le_refl _) _
  have g5 := (MapKept.heap_alloc w4 (.cells #[.int .i64 2, .int .i64 0, .int .i64 1] 3)).1
  rw [hw5] at g5
  have HI1 := Lib.hid (ints_any _ _ [2, 0, 1] [2, 0, 1] w5 (HR2b.out.below hb5) (rowN_new g5))
  have H5 := Lib.hid hb5
  clear hb5 g5
  rw [errE_zero]
  go_wp2_with fail
  with_reducible refine HI1.out.mono ?_
  rintro e w6 ⟨rfl, hb6⟩
  simp only [decide_true]
  have HB6 := Lib.hid (HB4.out.trans ((H5.out.trans (hb6.mono H5.out.size)).mono HB4.out.size))
  have HR6 := Lib.hid ((HR4.out.below H5.out).below hb6)
  clear hw5 hb6
  obtain ⟨w7, hw7⟩ : ∃ x, w6.alloc (.cells #[.int .i64 1, .int .i64 2, .int .i64 0] 3) = x := ⟨_, rfl⟩
  have hb7 : Below w6.heap.size w6 w7 := by rw [← hw7]; exact (Below.refl _ _).alloc (Nat.le_refl _) _
  have g7 := (MapKept.heap_alloc w6 (.cells #[.int .i64 1, .int .i64 2, .int .i64 0] 3)).1
  rw [hw7] at g7
  have HI2 := Lib.hid (ints_any _ _ [1, 2, 0] [1, 2, 0] w7 (HR6.out.below hb7) (rowN_new g7))
  have H7 := Lib.hid hb7
  clear hb7 g7
  go_wp2_with fail
  with_reducible refine HI2.out.mono ?_
  rintro e w8 ⟨rfl, hb8⟩
  simp only [decide_true]
  have HB8 := Lib.hid (HB6.out.trans ((H7.out.trans (hb8.mono H7.out.size)).mono HB6.out.size))
  clear hw7 hb8
  go_wp2_with fail
  go_ret
  exact ⟨rfl, HB8.out⟩
end Go.Proofs.YthmklmilgcjmlaaDoor

/- Layer 11's law package: num, sure by contracts. -/
import Derived.Test.YthnogakjaaopkaaGreatDoorIhNt
import Derived.Test.YthnogakjaaopkaaGreatDoorErr
import Derived.Test.YthnogakjaaopkaaGreatDoorIhRV
import Derived.Deep.Cut
namespace Go.Proofs.YthnogakjaaopkaaGreatDoor
open Go.RowKit

theorem num_nil (w : World) : Calls Tryz.prog 15 #[.nilIface] w fun e w' => e = .returned (.int .i64 0) ∧ Below w.heap.size w w' := by
  go_enter Tryz.func15, Tryz.ntmps15
  go_wp2_with fail
  go_ret
  exact ⟨rfl, (Below.refl _ _).alloc (Nat.le_refl _) _⟩
set_option maxHeartbeats 1000000 in
theorem num_err (n : Int) (w : World) (hg : ErrT w) : Calls Tryz.prog 15 #[errK n] w fun e w' => e = .returned (.int .i64 n) ∧ Below w.heap.size w w' := by
  unfold errK
  have HG := Lib.hid hg
  clear hg
  go_enter Tryz.func15, Tryz.ntmps15
  go_wp2_with fail
  refine (as_any n ⟨w.heap.size, 0, none⟩ (.int .i64 0) w.heap.size _ (HG.out.below ((Below.refl _ _).alloc (Nat.le_refl _) _)) (by simp) (by simp) (Nat.le_refl _)).mono ?_
  rintro e w' ⟨rfl, hb, hc⟩
  go_wp2_with fail
  go_ret
  exact ⟨rfl, ((Below.refl _ w).alloc (Nat.le_refl _) _).trans hb⟩
theorem ret_trueI {w w' : World} (h : Below w.heap.size w w') : Ending.returned (.bool true) = .returned (.bool true) ∧ Below w.heap.size w w' := ⟨rfl, h⟩
theorem su_szs : Szs suL := by unfold Szs; decide
set_option maxHeartbeats 2000000 in
set_option maxRecDepth 100000 in
theorem sure_any (w : World) (he : ErrT w) : Calls Tryz.prog 10 #[] w fun e w' => e = .returned (.bool true) ∧ Below w.heap.size w w' := by
  obtain ⟨g, hg⟩ : ∃ g, w.heap.size = g := ⟨_, rfl⟩
  obtain ⟨w3, hw3⟩ : ∃ x, ((w.alloc (.cells #[.int .i64 2, .string { data := #[110, 97, 109, 101] }, .string { data := #[116] }, .int .i64 3, .string { data := #[97] }, .string { data := #[49] }, .int .i64 4, .string { data := #[114, 101, 103, 105, 115, 116, 101, 114] }, .string { data := #[48] }] 45)).alloc (.cells #[.int .i64 6, .string { data := #[117, 115, 101] }, .string { data := #[116] }, .int .i64 7, .string { data := #[97] }, .string { data := #[43, 50] }] 45)).alloc (.cells #[.int .i64 1, .string { data := #[120] }, .slice (some ⟨g, 0, none⟩) 3 3, .int .i64 5, .string { data := #[120] }, .slice (some ⟨g + 1, 0, none⟩) 2 2] 48) = x := ⟨_, rfl⟩
  have hb3 : Below w.heap.size w w3 := by rw [← hw3]; exact (((Below.refl _ _).alloc (Nat.le_refl _) _).alloc (by simp) _).alloc (by simp; omega) _
  have g0 : w3.heap[g]? = some (.cells #[.int .i64 2, .string { data := #[110, 97, 109, 101] }, .string { data := #[116] }, .int .i64 3, .string { data := #[97] }, .string { data := #[49] }, .int .i64 4, .string { data := #[114, 101, 103, 105, 115, 116, 101, 114] }, .string { data := #[48] }] 45 (0, 0)) := by
    rw [← hw3, Below.heap_alloc _ _ _ (by simp; omega), Below.heap_alloc _ _ _ (by simp; omega), ← hg]
    exact (MapKept.heap_alloc w _).1
  have g1 : w3.heap[g + 1]? = some (.cells #[.int .i64 6, .string { data := #[117, 115, 101] }, .string { data := #[116] }, .int .i64 7, .string { data := #[97] }, .string { data := #[43, 50] }] 45 (0, 0)) := by
    rw [← hw3, Below.heap_alloc _ _ _ (by simp; omega)]
    have h := (MapKept.heap_alloc (w.alloc (.cells #[.int .i64 2, .string { data := #[110, 97, 109, 101] }, .string { data := #[116] }, .int .i64 3, .string { data := #[97] }, .string { data := #[49] }, .int .i64 4, .string { data := #[114, 101, 103, 105, 115, 116, 101, 114] }, .string { data := #[48] }] 45)) (.cells #[.int .i64 6, .string { data := #[117, 115, 101] }, .string { data := #[116] }, .int .i64 7, .string { data := #[97] }, .string { data := #[43, 50] }] 45)).1
    rwa [World.size_alloc, hg] at h
  have g2 : w3.heap[g + 2]? = some (.cells #[.int .i64 1, .string { data := #[120] }, .slice (some ⟨g, 0, none⟩) 3 3, .int .i64 5, .string { data := #[120] }, .slice (some ⟨g + 1, 0, none⟩) 2 2] 48 (0, 0)) := by
    rw [← hw3]
    have h := (MapKept.heap_alloc ((w.alloc (.cells #[.int .i64 2, .string { data := #[110, 97, 109, 101] }, .string { data := #[116] }, .int .i64 3, .string { data := #[97] }, .string { data := #[49] }, .int .i64 4, .string { data := #[114, 101, 103, 105, 115, 116, 101, 114] }, .string { data := #[48] }] 45)).alloc (.cells #[.int .i64 6, .string { data := #[117, 115, 101] }, .string { data := #[116] }, .int .i64 7, .string { data := #[97] }, .string { data := #[43, 50] }] 45)) (.cells #[.int .i64 1, .string { data := #[120] }, .slice (some ⟨g, 0, none⟩) 3 3, .int .i64 5, .string { data := #[120] }, .slice (some ⟨g + 1, 0, none⟩) 2 2] 48)).1
    rw [World.size_alloc, World.size_alloc, hg] at h
    exact h
  have hrow : RowB w3 (.slice (some ⟨g + 2, 0, none⟩) 2 2) suL := by
    refine ⟨some ⟨g + 2, 0, none⟩, 2, [(suB0, .slice (some ⟨g, 0, none⟩) 3 3), (suB1, .slice (some ⟨g + 1, 0, none⟩) 2 2)], rfl, rfl, by decide, by decide, ?_, fun p hp => ?_⟩
    · have h := Rd.block g2
      exact h
    · simp only [List.mem_cons, List.not_mem_nil, or_false] at hp
      rcases hp with rfl | rfl
      · refine ⟨some ⟨g, 0, none⟩, 3, rfl, Nat.le_refl _, by decide, ?_⟩
        have h := Rd.block g0
        exact h
      · refine ⟨some ⟨g + 1, 0, none⟩, 2, rfl, Nat.le_refl _, by decide, ?_⟩
        have h := Rd.block g1
        exact h
  have hRs := resolve_any (.slice (some ⟨g + 2, 0, none⟩) 2 2) suL w3 su_szs (he.below hb3) hrow
  unfold RsE at hRs
  rw [su_chk, su_rs] at hRs
  have HRs := Lib.hid hRs
  have HB := Lib.hid hb3
  clear hRs hrow g0 g1 g2 he hb3
  go_enter Tryz.func10, Tryz.ntmps10
  go_wp2_with fail
  with_reducible refine HRs.out.mono ?_
  rintro e w4 ⟨⟨v, rfl, hrow⟩, hb4⟩
  obtain ⟨A, c, rfl, hr⟩ := hrow.form
  obtain ⟨w5, hw5⟩ : ∃ x, w4.alloc (.cells #[.int .i64 0, .int .i64 0] 29) = x := ⟨_, rfl⟩
  have hb5 : Below w4.heap.size w4 w5 := by rw [← hw5]; exact (Below.refl _ _).alloc (Nat.le_refl _) _
  have h5 := (MapKept.heap_alloc w4 (.cells #[.int .i64 0, .int .i64 0] 29)).1
  rw [hw5] at h5
  obtain ⟨ad, X, vF, rfl, hX, k0, k1, k2, hrf⟩ := (hr.below hb5).parts.2.2.2 0 (by decide) _ rfl
  obtain ⟨A3, c3, rfl, hF⟩ := hrf.form
  obtain ⟨ae, Y, rfl, hY, m0, m1, m2⟩ := hF.parts.2.2.2 0 (by decide) _ rfl
  have p0 := cell9_blk h5 0 rfl
  have p1 := cell9_blk h5 1 rfl
  rw [Nat.zero_mul] at hX hY
  have e1 : str [97] = { data := #[97] } := rfl
  have e2 : str [49, 44, 50] = { data := #[49, 44, 50] } := rfl
  dsimp only [List.length_cons, List.length_nil] at k0 k2 m0 m1 m2 ⊢
  rw [e1] at m1
  rw [e2] at m2
  have H5 := Lib.hid (HB.out.trans ((hb4.trans (hb5.mono hb4.size)).mono HB.out.size))
  unfold plV
  clear hr hrow hb4 hb5 h5 hrf hF e1 e2
  have HW5 := Lib.hid hw5
  clear hw5
  go_upto_region 3 with fail
  rw [HW5.out]
  go_wp2_with fail
  go_ret
  have h := ret_trueI H5.out
  rw [hg] at h
  exact h
end Go.Proofs.YthnogakjaaopkaaGreatDoor

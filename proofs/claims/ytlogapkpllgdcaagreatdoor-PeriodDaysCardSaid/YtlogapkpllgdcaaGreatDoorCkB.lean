/- Contracts: clock's Split, Join; the document's Split, Join. -/
import Derived.Test.YtlogapkpllgdcaaGreatDoorCkA
namespace Go.Proofs.YtlogapkpllgdcaaGreatDoor
open Go.RowKit

set_option maxRecDepth 100000 in
theorem split_ok (t o d s : Int) (w : World) (h1 : 0 ≤ t) (h2 : t ≤ 4611686018427387904) (ho1 : -50400 ≤ o) (ho2 : o ≤ 50400) (hd : (t + o) / 86400 = d) (hs : (t + o) % 86400 = s) :
    Calls Tryz.prog 39 #[.int .i64 t, .int .i64 o] w fun e w' => e = .returned (.tuple #[mo d s, .nilIface]) ∧ Below w.heap.size w w' := by
  have HD := Lib.hid (show (t + o + 86400) / 86400 - 1 = d by omega)
  have HS := Lib.hid hs
  clear hd hs
  unfold mo
  go_enter Tryz.func39, Tryz.ntmps39
  go_wp2_with fail
  refine (isTime_yes t _ h1 h2).mono ?_
  rintro e w' ⟨rfl, rfl⟩
  go_wp2_with fail
  refine (isOffset_yes o _ ho1 ho2).mono ?_
  rintro e w' ⟨rfl, rfl⟩
  go_wp2_with fail
  refine bodyPost_ret (results_cell2 rfl _ _ w.heap.size _ _ (0, 0) _ rfl (heap_alloc_new _ _) Tryz.underlying73 rfl (by kernel_rfl)) rfl ?_
  exact ⟨ret_mo HD.out HS.out, (Below.refl w.heap.size w).alloc (Nat.le_refl _) _⟩
set_option maxRecDepth 100000 in
theorem split_no (t o : Int) (w : World) (h : (t < 0 ∨ 4611686018427387904 < t) ∨ (o < -50400 ∨ 50400 < o)) :
    Calls Tryz.prog 39 #[.int .i64 t, .int .i64 o] w fun e w' => e = .returned (.tuple #[mo 0 0, errK 1]) ∧ Below w.heap.size w w' := by
  unfold mo errK
  by_cases ht : t < 0 ∨ 4611686018427387904 < t
  · have HT := Lib.hid ht
    clear h ht
    go_enter Tryz.func39, Tryz.ntmps39
    go_wp2_with fail
    refine (isTime_no t _ HT.out).mono ?_
    rintro e w' ⟨rfl, rfl⟩
    go_wp2_with fail
    refine bodyPost_ret (results_cell2 rfl _ _ w.heap.size _ _ (0, 0) _ rfl (heap_alloc_new _ _) Tryz.underlying73 rfl (by kernel_rfl)) rfl ?_
    exact ⟨rfl, (Below.refl w.heap.size w).alloc (Nat.le_refl _) _⟩
  · have HO := Lib.hid (h.resolve_left ht)
    have h1 : 0 ≤ t := by omega
    have h2 : t ≤ 4611686018427387904 := by omega
    clear h ht
    go_enter Tryz.func39, Tryz.ntmps39
    go_wp2_with fail
    refine (isTime_yes t _ h1 h2).mono ?_
    rintro e w' ⟨rfl, rfl⟩
    go_wp2_with fail
    refine (isOffset_no o _ HO.out).mono ?_
    rintro e w' ⟨rfl, rfl⟩
    go_wp2_with fail
    refine bodyPost_ret (results_cell2 rfl _ _ w.heap.size _ _ (0, 0) _ rfl (heap_alloc_new _ _) Tryz.underlying73 rfl (by kernel_rfl)) rfl ?_
    exact ⟨rfl, (Below.refl w.heap.size w).alloc (Nat.le_refl _) _⟩
theorem ret_three {a b c x y z : Int} (h : a = x) (h2 : b = y) (h3 : c = z) : Ending.returned (.tuple #[.int .i64 a, .int .i64 b, .int .i64 c]) = .returned (.tuple #[.int .i64 x, .int .i64 y, .int .i64 z]) := by rw [h, h2, h3]
theorem refSplit_ok (t o d s : Int) (w : World) (h1 : 0 ≤ t) (h2 : t ≤ 4611686018427387904) (ho1 : -50400 ≤ o) (ho2 : o ≤ 50400) (hd : (t + o) / 86400 = d) (hs : (t + o) % 86400 = s) :
    Calls Tryz.prog 21 #[.int .i64 t, .int .i64 o] w fun e w' => e = .returned (.tuple #[.int .i64 d, .int .i64 s, .int .i64 0]) ∧ w = w' := by
  have key : t % 86400 + o < 0 ∧ Hid (t / 86400 - 1 = d ∧ t % 86400 + o + 86400 = s) ∨ (0 ≤ t % 86400 + o ∧ t % 86400 + o < 86400) ∧ Hid (t / 86400 = d ∧ t % 86400 + o = s) ∨ 86400 ≤ t % 86400 + o ∧ Hid (t / 86400 + 1 = d ∧ t % 86400 + o - 86400 = s) := by
    unfold Hid
    omega
  have hm1 : 0 ≤ t % 86400 := by omega
  have hm2 : t % 86400 < 86400 := by omega
  have hq1 : 0 ≤ t / 86400 := by omega
  have hq2 : t / 86400 ≤ 53375995583651 := by omega
  clear hd hs
  rcases key with ⟨h, H⟩ | ⟨⟨h, h'⟩, H⟩ | ⟨h, H⟩
  all_goals
    go_enter Tryz.func21, Tryz.ntmps21
    go_wp2
    go_ret3
    exact ⟨ret_three H.out.1 H.out.2 rfl, rfl⟩
theorem refSplit_no (t o : Int) (w : World) (h : (t < 0 ∨ 4611686018427387904 < t) ∨ (o < -50400 ∨ 50400 < o)) :
    Calls Tryz.prog 21 #[.int .i64 t, .int .i64 o] w fun e w' => e = .returned (.tuple #[.int .i64 0, .int .i64 0, .int .i64 1]) ∧ w = w' := by
  have key : t < 0 ∨ (0 ≤ t ∧ 4611686018427387904 < t) ∨ (0 ≤ t ∧ t ≤ 4611686018427387904 ∧ o < -50400) ∨ (0 ≤ t ∧ t ≤ 4611686018427387904 ∧ -50400 ≤ o ∧ 50400 < o) := by omega
  clear h
  rcases key with h | ⟨h, h'⟩ | ⟨h, h', h''⟩ | ⟨h, h', h'', h3⟩
  all_goals
    go_enter Tryz.func21, Tryz.ntmps21
    go_wp2
    go_ret3
    exact ⟨rfl, rfl⟩
end Go.Proofs.YtlogapkpllgdcaaGreatDoor

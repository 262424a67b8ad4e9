/- Contract: the document's Seconds. -/
import Derived.Test.YtencapplbedcmaaGreatDoorVaR4
import Derived.Test.YtencapplbedcmaaGreatDoorVaSe
import Derived.Deep.Cut
namespace Go.Proofs.YtencapplbedcmaaGreatDoor
open Go.RowKit

/-- How the document's Seconds ends. -/
def RsE (R : Int × Nat) (w : World) (e : Ending) (w' : World) : Prop := e = .returned (.tuple #[.int .i64 R.1, .int .i64 (R.2 : Nat)]) ∧ Below w.heap.size w w'
theorem rsE_of {R : Int × Nat} {w w' : World} {v j : Int} {k : Nat} (hR : R = (v, k)) (hj : j = k) (hb : Below w.heap.size w w') : RsE R w (.returned (.tuple #[.int .i64 v, .int .i64 j])) w' := by
  subst hR
  subst hj
  exact ⟨rfl, hb⟩
theorem below_alloc {B : Nat} {w w' : World} (o : Obj) (h : Below B w w') (hB : B ≤ w.heap.size) : Below B w (w'.alloc o) := h.alloc (Nat.le_trans hB h.size) o
theorem below_n {B : Nat} {w w' : World} (n : Nat) (h : Below B w w') : Below B w (w'.drewN n) := ⟨h.os, h.tape, h.output, h.size, h.block⟩
theorem refSec_nil (w : World) : Calls Tryz.prog 14 #[.string { data := #[] }] w (RsE (0, 13) w) := by
  go_enter Tryz.func14, Tryz.ntmps14
  go_wp2_with fail
  go_ret2
  exact rsE_of rfl rfl (Below.refl _ _)
set_option maxHeartbeats 2000000 in
set_option maxRecDepth 100000 in
theorem refSec_s (r : Tx) (w : World) (hl : r.length ≤ 100000) : Calls Tryz.prog 14 #[.string (str (r ++ [115]))] w (RsE ((intT r 0 10000000).1 * (1 : Nat), (intT r 0 10000000).2) w) := by
  obtain ⟨m, hm⟩ : ∃ m, r.length = m := ⟨_, rfl⟩
  obtain ⟨S, hS, hsz, hx, hc⟩ := snoc_facts r 115 m hm
  have t1 : S.toList.isEmpty = false := by rw [← hS, str_toList]; simp
  have HI := Lib.hid (fun W => refInt_any r 0 10000000 W (by omega))
  have q3 : (m : Int) + 1 ≤ 1000000 := by omega
  have q4 : (0 : Int) ≤ m := by omega
  obtain ⟨N, hN⟩ : ∃ N, str r = N := ⟨_, rfl⟩
  rw [hN] at hc HI
  rw [hS]
  unfold RiE at HI
  obtain ⟨R, hR⟩ : ∃ R, ((intT r 0 10000000).1 * (1 : Nat), (intT r 0 10000000).2) = R := ⟨_, rfl⟩
  rw [hR]
  rcases int_cases r 0 10000000 with ⟨k, h1, h2⟩ | ⟨v, h1, h2, h3⟩
  · rw [h1] at HI hR
    have HR : Hid (R = (0, k)) := by
      unfold Hid
      rw [← hR]
      simp
    dsimp only at HI
    clear hm hS hN hl h1 h2 hR
    have g0 : ({ data := #[115, 109, 104, 100] } : ByteArray)[0]'(by decide) = 115 := rfl
    have g1 : ({ data := #[115, 109, 104, 100] } : ByteArray)[1]'(by decide) = 109 := rfl
    have g2 : ({ data := #[115, 109, 104, 100] } : ByteArray)[2]'(by decide) = 104 := rfl
    have g3 : ({ data := #[115, 109, 104, 100] } : ByteArray)[3]'(by decide) = 100 := rfl
    go_enter Tryz.func14, Tryz.ntmps14
    go_wp2_with fail
    refine wp_loop_rounds 5 ?_
    rw [rounds_succ]
    go_wp2_with fail
    go_quiet (fail)
    obtain ⟨v1, hv1⟩ : ∃ x, w.drewN nq = x := ⟨_, rfl⟩
    rw [hv1]
    have HV1 := Lib.hid (show Below w.heap.size w v1 by rw [← hv1]; exact below_n _ (Below.refl _ _))
    clear hv1
    go_wp2_with fail
    obtain ⟨w1, hw1⟩ : ∃ x, v1.alloc (.cells #[.int .i64 1, .int .i64 60, .int .i64 3600, .int .i64 86400] 3) = x := ⟨_, rfl⟩
    rw [hw1]
    have HB1 := Lib.hid (show Below w.heap.size w w1 by rw [← hw1]; exact below_alloc _ HV1.out (Nat.le_refl _))
    clear hw1
    rw [rounds_succ]
    go_wp2_with fail
    go_quiet (fail)
    obtain ⟨v2, hv2⟩ : ∃ x, w1.drewN nq = x := ⟨_, rfl⟩
    rw [hv2]
    have HV2 := Lib.hid (show Below w.heap.size w v2 by rw [← hv2]; exact below_n _ (HB1.out))
    clear hv2
    go_wp2_with fail
    have HB2 := HV2
    rw [rounds_succ]
    go_wp2_with fail
    go_quiet (fail)
    obtain ⟨v3, hv3⟩ : ∃ x, v2.drewN nq = x := ⟨_, rfl⟩
    rw [hv3]
    have HV3 := Lib.hid (show Below w.heap.size w v3 by rw [← hv3]; exact below_n _ (HB2.out))
    clear hv3
    go_wp2_with fail
    have HB3 := HV3
    rw [rounds_succ]
    go_wp2_with fail
    go_quiet (fail)
    obtain ⟨v4, hv4⟩ : ∃ x, v3.drewN nq = x := ⟨_, rfl⟩
    rw [hv4]
    have HV4 := Lib.hid (show Below w.heap.size w v4 by rw [← hv4]; exact below_n _ (HB3.out))
    clear hv4
    go_wp2_with fail
    have HB4 := HV4
    rw [rounds_succ]
    go_wp2_with fail
    refine (HI.out _).mono ?_
    rintro e w6 ⟨rfl, rfl⟩
    go_wp2_with fail
    go_ret2
    exact rsE_of HR.out rfl HB4.out
  · rw [h1] at HI hR
    have HR : Hid (R = (v * (1 : Nat), 0)) := hR.symm
    dsimp only at HI
    clear hm hS hN hl h1 hR
    have g0 : ({ data := #[115, 109, 104, 100] } : ByteArray)[0]'(by decide) = 115 := rfl
    have g1 : ({ data := #[115, 109, 104, 100] } : ByteArray)[1]'(by decide) = 109 := rfl
    have g2 : ({ data := #[115, 109, 104, 100] } : ByteArray)[2]'(by decide) = 104 := rfl
    have g3 : ({ data := #[115, 109, 104, 100] } : ByteArray)[3]'(by decide) = 100 := rfl
    go_enter Tryz.func14, Tryz.ntmps14
    go_wp2_with fail
    refine wp_loop_rounds 5 ?_
    rw [rounds_succ]
    go_wp2_with fail
    go_quiet (fail)
    obtain ⟨v1, hv1⟩ : ∃ x, w.drewN nq = x := ⟨_, rfl⟩
    rw [hv1]
    have HV1 := Lib.hid (show Below w.heap.size w v1 by rw [← hv1]; exact below_n _ (Below.refl _ _))
    clear hv1
    go_wp2_with fail
    obtain ⟨w1, hw1⟩ : ∃ x, v1.alloc (.cells #[.int .i64 1, .int .i64 60, .int .i64 3600, .int .i64 86400] 3) = x := ⟨_, rfl⟩
    rw [hw1]
    have HB1 := Lib.hid (show Below w.heap.size w w1 by rw [← hw1]; exact below_alloc _ HV1.out (Nat.le_refl _))
    clear hw1
    rw [rounds_succ]
    go_wp2_with fail
    go_quiet (fail)
    obtain ⟨v2, hv2⟩ : ∃ x, w1.drewN nq = x := ⟨_, rfl⟩
    rw [hv2]
    have HV2 := Lib.hid (show Below w.heap.size w v2 by rw [← hv2]; exact below_n _ (HB1.out))
    clear hv2
    go_wp2_with fail
    have HB2 := HV2
    rw [rounds_succ]
    go_wp2_with fail
    go_quiet (fail)
    obtain ⟨v3, hv3⟩ : ∃ x, v2.drewN nq = x := ⟨_, rfl⟩
    rw [hv3]
    have HV3 := Lib.hid (show Below w.heap.size w v3 by rw [← hv3]; exact below_n _ (HB2.out))
    clear hv3
    go_wp2_with fail
    have HB3 := HV3
    rw [rounds_succ]
    go_wp2_with fail
    go_quiet (fail)
    obtain ⟨v4, hv4⟩ : ∃ x, v3.drewN nq = x := ⟨_, rfl⟩
    rw [hv4]
    have HV4 := Lib.hid (show Below w.heap.size w v4 by rw [← hv4]; exact below_n _ (HB3.out))
    clear hv4
    go_wp2_with fail
    have HB4 := HV4
    rw [rounds_succ]
    go_wp2_with fail
    refine (HI.out _).mono ?_
    rintro e w6 ⟨rfl, rfl⟩
    go_wp2_with fail
    go_ret2
    exact rsE_of (k := 0) (by rw [HR.out]; simp) rfl HB4.out
set_option maxHeartbeats 2000000 in
set_option maxRecDepth 100000 in
theorem refSec_m (r : Tx) (w : World) (hl : r.length ≤ 100000) : Calls Tryz.prog 14 #[.string (str (r ++ [109]))] w (RsE ((intT r 0 10000000).1 * (60 : Nat), (intT r 0 10000000).2) w) := by
  obtain ⟨m, hm⟩ : ∃ m, r.length = m := ⟨_, rfl⟩
  obtain ⟨S, hS, hsz, hx, hc⟩ := snoc_facts r 109 m hm
  have t1 : S.toList.isEmpty = false := by rw [← hS, str_toList]; simp
  have HI := Lib.hid (fun W => refInt_any r 0 10000000 W (by omega))
  have q3 : (m : Int) + 1 ≤ 1000000 := by omega
  have q4 : (0 : Int) ≤ m := by omega
  obtain ⟨N, hN⟩ : ∃ N, str r = N := ⟨_, rfl⟩
  rw [hN] at hc HI
  rw [hS]
  unfold RiE at HI
  obtain ⟨R, hR⟩ : ∃ R, ((intT r 0 10000000).1 * (60 : Nat), (intT r 0 10000000).2) = R := ⟨_, rfl⟩
  rw [hR]
  rcases int_cases r 0 10000000 with ⟨k, h1, h2⟩ | ⟨v, h1, h2, h3⟩
  · rw [h1] at HI hR
    have HR : Hid (R = (0, k)) := by
      unfold Hid
      rw [← hR]
      simp
    dsimp only at HI
    clear hm hS hN hl h1 h2 hR
    have g0 : ({ data := #[115, 109, 104, 100] } : ByteArray)[0]'(by decide) = 115 := rfl
    have g1 : ({ data := #[115, 109, 104, 100] } : ByteArray)[1]'(by decide) = 109 := rfl
    have g2 : ({ data := #[115, 109, 104, 100] } : ByteArray)[2]'(by decide) = 104 := rfl
    have g3 : ({ data := #[115, 109, 104, 100] } : ByteArray)[3]'(by decide) = 100 := rfl
    go_enter Tryz.func14, Tryz.ntmps14
    go_wp2_with fail
    refine wp_loop_rounds 5 ?_
    rw [rounds_succ]
    go_wp2_with fail
    go_quiet (fail)
    obtain ⟨v1, hv1⟩ : ∃ x, w.drewN nq = x := ⟨_, rfl⟩
    rw [hv1]
    have HV1 := Lib.hid (show Below w.heap.size w v1 by rw [← hv1]; exact below_n _ (Below.refl _ _))
    clear hv1
    go_wp2_with fail
    have HB1 := HV1
    rw [rounds_succ]
    go_wp2_with fail
    go_quiet (fail)
    obtain ⟨v2, hv2⟩ : ∃ x, v1.drewN nq = x := ⟨_, rfl⟩
    rw [hv2]
    have HV2 := Lib.hid (show Below w.heap.size w v2 by rw [← hv2]; exact below_n _ (HB1.out))
    clear hv2
    go_wp2_with fail
    obtain ⟨w2, hw2⟩ : ∃ x, v2.alloc (.cells #[.int .i64 1, .int .i64 60, .int .i64 3600, .int .i64 86400] 3) = x := ⟨_, rfl⟩
    rw [hw2]
    have HB2 := Lib.hid (show Below w.heap.size w w2 by rw [← hw2]; exact below_alloc _ HV2.out (Nat.le_refl _))
    clear hw2
    rw [rounds_succ]
    go_wp2_with fail
    go_quiet (fail)
    obtain ⟨v3, hv3⟩ : ∃ x, w2.drewN nq = x := ⟨_, rfl⟩
    rw [hv3]
    have HV3 := Lib.hid (show Below w.heap.size w v3 by rw [← hv3]; exact below_n _ (HB2.out))
    clear hv3
    go_wp2_with fail
    have HB3 := HV3
    rw [rounds_succ]
    go_wp2_with fail
    go_quiet (fail)
    obtain ⟨v4, hv4⟩ : ∃ x, v3.drewN nq = x := ⟨_, rfl⟩
    rw [hv4]
    have HV4 := Lib.hid (show Below w.heap.size w v4 by rw [← hv4]; exact below_n _ (HB3.out))
    clear hv4
    go_wp2_with fail
    have HB4 := HV4
    rw [rounds_succ]
    go_wp2_with fail
    refine (HI.out _).mono ?_
    rintro e w6 ⟨rfl, rfl⟩
    go_wp2_with fail
    go_ret2
    exact rsE_of HR.out rfl HB4.out
  · rw [h1] at HI hR
    have HR : Hid (R = (v * (60 : Nat), 0)) := hR.symm
    dsimp only at HI
    clear hm hS hN hl h1 hR
    have g0 : ({ data := #[115, 109, 104, 100] } : ByteArray)[0]'(by decide) = 115 := rfl
    have g1 : ({ data := #[115, 109, 104, 100] } : ByteArray)[1]'(by decide) = 109 := rfl
    have g2 : ({ data := #[115, 109, 104, 100] } : ByteArray)[2]'(by decide) = 104 := rfl
    have g3 : ({ data := #[115, 109, 104, 100] } : ByteArray)[3]'(by decide) = 100 := rfl
    go_enter Tryz.func14, Tryz.ntmps14
    go_wp2_with fail
    refine wp_loop_rounds 5 ?_
    rw [rounds_succ]
    go_wp2_with fail
    go_quiet (fail)
    obtain ⟨v1, hv1⟩ : ∃ x, w.drewN nq = x := ⟨_, rfl⟩
    rw [hv1]
    have HV1 := Lib.hid (show Below w.heap.size w v1 by rw [← hv1]; exact below_n _ (Below.refl _ _))
    clear hv1
    go_wp2_with fail
    have HB1 := HV1
    rw [rounds_succ]
    go_wp2_with fail
    go_quiet (fail)
    obtain ⟨v2, hv2⟩ : ∃ x, v1.drewN nq = x := ⟨_, rfl⟩
    rw [hv2]
    have HV2 := Lib.hid (show Below w.heap.size w v2 by rw [← hv2]; exact below_n _ (HB1.out))
    clear hv2
    go_wp2_with fail
    obtain ⟨w2, hw2⟩ : ∃ x, v2.alloc (.cells #[.int .i64 1, .int .i64 60, .int .i64 3600, .int .i64 86400] 3) = x := ⟨_, rfl⟩
    rw [hw2]
    have HB2 := Lib.hid (show Below w.heap.size w w2 by rw [← hw2]; exact below_alloc _ HV2.out (Nat.le_refl _))
    clear hw2
    rw [rounds_succ]
    go_wp2_with fail
    go_quiet (fail)
    obtain ⟨v3, hv3⟩ : ∃ x, w2.drewN nq = x := ⟨_, rfl⟩
    rw [hv3]
    have HV3 := Lib.hid (show Below w.heap.size w v3 by rw [← hv3]; exact below_n _ (HB2.out))
    clear hv3
    go_wp2_with fail
    have HB3 := HV3
    rw [rounds_succ]
    go_wp2_with fail
    go_quiet (fail)
    obtain ⟨v4, hv4⟩ : ∃ x, v3.drewN nq = x := ⟨_, rfl⟩
    rw [hv4]
    have HV4 := Lib.hid (show Below w.heap.size w v4 by rw [← hv4]; exact below_n _ (HB3.out))
    clear hv4
    go_wp2_with fail
    have HB4 := HV4
    rw [rounds_succ]
    go_wp2_with fail
    refine (HI.out _).mono ?_
    rintro e w6 ⟨rfl, rfl⟩
    go_wp2_with fail
    go_ret2
    exact rsE_of (k := 0) (by rw [HR.out]; simp) rfl HB4.out
set_option maxHeartbeats 2000000 in
set_option maxRecDepth 100000 in
theorem refSec_h (r : Tx) (w : World) (hl : r.length ≤ 100000) : Calls Tryz.prog 14 #[.string (str (r ++ [104]))] w (RsE ((intT r 0 10000000).1 * (3600 : Nat), (intT r 0 10000000).2) w) := by
  obtain ⟨m, hm⟩ : ∃ m, r.length = m := ⟨_, rfl⟩
  obtain ⟨S, hS, hsz, hx, hc⟩ := snoc_facts r 104 m hm
  have t1 : S.toList.isEmpty = false := by rw [← hS, str_toList]; simp
  have HI := Lib.hid (fun W => refInt_any r 0 10000000 W (by omega))
  have q3 : (m : Int) + 1 ≤ 1000000 := by omega
  have q4 : (0 : Int) ≤ m := by omega
  obtain ⟨N, hN⟩ : ∃ N, str r = N := ⟨_, rfl⟩
  rw [hN] at hc HI
  rw [hS]
  unfold RiE at HI
  obtain ⟨R, hR⟩ : ∃ R, ((intT r 0 10000000).1 * (3600 : Nat), (intT r 0 10000000).2) = R := ⟨_, rfl⟩
  rw [hR]
  rcases int_cases r 0 10000000 with ⟨k, h1, h2⟩ | ⟨v, h1, h2, h3⟩
  · rw [h1] at HI hR
    have HR : Hid (R = (0, k)) := by
      unfold Hid
      rw [← hR]
      simp
    dsimp only at HI
    clear hm hS hN hl h1 h2 hR
    have g0 : ({ data := #[115, 109, 104, 100] } : ByteArray)[0]'(by decide) = 115 := rfl
    have g1 : ({ data := #[115, 109, 104, 100] } : ByteArray)[1]'(by decide) = 109 := rfl
    have g2 : ({ data := #[115, 109, 104, 100] } : ByteArray)[2]'(by decide) = 104 := rfl
    have g3 : ({ data := #[115, 109, 104, 100] } : ByteArray)[3]'(by decide) = 100 := rfl
    go_enter Tryz.func14, Tryz.ntmps14
    go_wp2_with fail
    refine wp_loop_rounds 5 ?_
    rw [rounds_succ]
    go_wp2_with fail
    go_quiet (fail)
    obtain ⟨v1, hv1⟩ : ∃ x, w.drewN nq = x := ⟨_, rfl⟩
    rw [hv1]
    have HV1 := Lib.hid (show Below w.heap.size w v1 by rw [← hv1]; exact below_n _ (Below.refl _ _))
    clear hv1
    go_wp2_with fail
    have HB1 := HV1
    rw [rounds_succ]
    go_wp2_with fail
    go_quiet (fail)
    obtain ⟨v2, hv2⟩ : ∃ x, v1.drewN nq = x := ⟨_, rfl⟩
    rw [hv2]
    have HV2 := Lib.hid (show Below w.heap.size w v2 by rw [← hv2]; exact below_n _ (HB1.out))
    clear hv2
    go_wp2_with fail
    have HB2 := HV2
    rw [rounds_succ]
    go_wp2_with fail
    go_quiet (fail)
    obtain ⟨v3, hv3⟩ : ∃ x, v2.drewN nq = x := ⟨_, rfl⟩
    rw [hv3]
    have HV3 := Lib.hid (show Below w.heap.size w v3 by rw [← hv3]; exact below_n _ (HB2.out))
    clear hv3
    go_wp2_with fail
    obtain ⟨w3, hw3⟩ : ∃ x, v3.alloc (.cells #[.int .i64 1, .int .i64 60, .int .i64 3600, .int .i64 86400] 3) = x := ⟨_, rfl⟩
    rw [hw3]
    have HB3 := Lib.hid (show Below w.heap.size w w3 by rw [← hw3]; exact below_alloc _ HV3.out (Nat.le_refl _))
    clear hw3
    rw [rounds_succ]
    go_wp2_with fail
    go_quiet (fail)
    obtain ⟨v4, hv4⟩ : ∃ x, w3.drewN nq = x := ⟨_, rfl⟩
    rw [hv4]
    have HV4 := Lib.hid (show Below w.heap.size w v4 by rw [← hv4]; exact below_n _ (HB3.out))
    clear hv4
    go_wp2_with fail
    have HB4 := HV4
    rw [rounds_succ]
    go_wp2_with fail
    refine (HI.out _).mono ?_
    rintro e w6 ⟨rfl, rfl⟩
    go_wp2_with fail
    go_ret2
    exact rsE_of HR.out rfl HB4.out
  · rw [h1] at HI hR
    have HR : Hid (R = (v * (3600 : Nat), 0)) := hR.symm
    dsimp only at HI
    clear hm hS hN hl h1 hR
    have g0 : ({ data := #[115, 109, 104, 100] } : ByteArray)[0]'(by decide) = 115 := rfl
    have g1 : ({ data := #[115, 109, 104, 100] } : ByteArray)[1]'(by decide) = 109 := rfl
    have g2 : ({ data := #[115, 109, 104, 100] } : ByteArray)[2]'(by decide) = 104 := rfl
    have g3 : ({ data := #[115, 109, 104, 100] } : ByteArray)[3]'(by decide) = 100 := rfl
    go_enter Tryz.func14, Tryz.ntmps14
    go_wp2_with fail
    refine wp_loop_rounds 5 ?_
    rw [rounds_succ]
    go_wp2_with fail
    go_quiet (fail)
    obtain ⟨v1, hv1⟩ : ∃ x, w.drewN nq = x := ⟨_, rfl⟩
    rw [hv1]
    have HV1 := Lib.hid (show Below w.heap.size w v1 by rw [← hv1]; exact below_n _ (Below.refl _ _))
    clear hv1
    go_wp2_with fail
    have HB1 := HV1
    rw [rounds_succ]
    go_wp2_with fail
    go_quiet (fail)
    obtain ⟨v2, hv2⟩ : ∃ x, v1.drewN nq = x := ⟨_, rfl⟩
    rw [hv2]
    have HV2 := Lib.hid (show Below w.heap.size w v2 by rw [← hv2]; exact below_n _ (HB1.out))
    clear hv2
    go_wp2_with fail
    have HB2 := HV2
    rw [rounds_succ]
    go_wp2_with fail
    go_quiet (fail)
    obtain ⟨v3, hv3⟩ : ∃ x, v2.drewN nq = x := ⟨_, rfl⟩
    rw [hv3]
    have HV3 := Lib.hid (show Below w.heap.size w v3 by rw [← hv3]; exact below_n _ (HB2.out))
    clear hv3
    go_wp2_with fail
    obtain ⟨w3, hw3⟩ : ∃ x, v3.alloc (.cells #[.int .i64 1, .int .i64 60, .int .i64 3600, .int .i64 86400] 3) = x := ⟨_, rfl⟩
    rw [hw3]
    have HB3 := Lib.hid (show Below w.heap.size w w3 by rw [← hw3]; exact below_alloc _ HV3.out (Nat.le_refl _))
    clear hw3
    rw [rounds_succ]
    go_wp2_with fail
    go_quiet (fail)
    obtain ⟨v4, hv4⟩ : ∃ x, w3.drewN nq = x := ⟨_, rfl⟩
    rw [hv4]
    have HV4 := Lib.hid (show Below w.heap.size w v4 by rw [← hv4]; exact below_n _ (HB3.out))
    clear hv4
    go_wp2_with fail
    have HB4 := HV4
    rw [rounds_succ]
    go_wp2_with fail
    refine (HI.out _).mono ?_
    rintro e w6 ⟨rfl, rfl⟩
    go_wp2_with fail
    go_ret2
    exact rsE_of (k := 0) (by rw [HR.out]; simp) rfl HB4.out
set_option maxHeartbeats 2000000 in
set_option maxRecDepth 100000 in
theorem refSec_d (r : Tx) (w : World) (hl : r.length ≤ 100000) : Calls Tryz.prog 14 #[.string (str (r ++ [100]))] w (RsE ((intT r 0 10000000).1 * (86400 : Nat), (intT r 0 10000000).2) w) := by
  obtain ⟨m, hm⟩ : ∃ m, r.length = m := ⟨_, rfl⟩
  obtain ⟨S, hS, hsz, hx, hc⟩ := snoc_facts r 100 m hm
  have t1 : S.toList.isEmpty = false := by rw [← hS, str_toList]; simp
  have HI := Lib.hid (fun W => refInt_any r 0 10000000 W (by omega))
  have q3 : (m : Int) + 1 ≤ 1000000 := by omega
  have q4 : (0 : Int) ≤ m := by omega
  obtain ⟨N, hN⟩ : ∃ N, str r = N := ⟨_, rfl⟩
  rw [hN] at hc HI
  rw [hS]
  unfold RiE at HI
  obtain ⟨R, hR⟩ : ∃ R, ((intT r 0 10000000).1 * (86400 : Nat), (intT r 0 10000000).2) = R := ⟨_, rfl⟩
  rw [hR]
  rcases int_cases r 0 10000000 with ⟨k, h1, h2⟩ | ⟨v, h1, h2, h3⟩
  · rw [h1] at HI hR
    have HR : Hid (R = (0, k)) := by
      unfold Hid
      rw [← hR]
      simp
    dsimp only at HI
    clear hm hS hN hl h1 h2 hR
    have g0 : ({ data := #[115, 109, 104, 100] } : ByteArray)[0]'(by decide) = 115 := rfl
    have g1 : ({ data := #[115, 109, 104, 100] } : ByteArray)[1]'(by decide) = 109 := rfl
    have g2 : ({ data := #[115, 109, 104, 100] } : ByteArray)[2]'(by decide) = 104 := rfl
    have g3 : ({ data := #[115, 109, 104, 100] } : ByteArray)[3]'(by decide) = 100 := rfl
    go_enter Tryz.func14, Tryz.ntmps14
    go_wp2_with fail
    refine wp_loop_rounds 5 ?_
    rw [rounds_succ]
    go_wp2_with fail
    go_quiet (fail)
    obtain ⟨v1, hv1⟩ : ∃ x, w.drewN nq = x := ⟨_, rfl⟩
    rw [hv1]
    have HV1 := Lib.hid (show Below w.heap.size w v1 by rw [← hv1]; exact below_n _ (Below.refl _ _))
    clear hv1
    go_wp2_with fail
    have HB1 := HV1
    rw [rounds_succ]
    go_wp2_with fail
    go_quiet (fail)
    obtain ⟨v2, hv2⟩ : ∃ x, v1.drewN nq = x := ⟨_, rfl⟩
    rw [hv2]
    have HV2 := Lib.hid (show Below w.heap.size w v2 by rw [← hv2]; exact below_n _ (HB1.out))
    clear hv2
    go_wp2_with fail
    have HB2 := HV2
    rw [rounds_succ]
    go_wp2_with fail
    go_quiet (fail)
    obtain ⟨v3, hv3⟩ : ∃ x, v2.drewN nq = x := ⟨_, rfl⟩
    rw [hv3]
    have HV3 := Lib.hid (show Below w.heap.size w v3 by rw [← hv3]; exact below_n _ (HB2.out))
    clear hv3
    go_wp2_with fail
    have HB3 := HV3
    rw [rounds_succ]
    go_wp2_with fail
    go_quiet (fail)
    obtain ⟨v4, hv4⟩ : ∃ x, v3.drewN nq = x := ⟨_, rfl⟩
    rw [hv4]
    have HV4 := Lib.hid (show Below w.heap.size w v4 by rw [← hv4]; exact below_n _ (HB3.out))
    clear hv4
    go_wp2_with fail
    obtain ⟨w4, hw4⟩ : ∃ x, v4.alloc (.cells #[.int .i64 1, .int .i64 60, .int .i64 3600, .int .i64 86400] 3) = x := ⟨_, rfl⟩
    rw [hw4]
    have HB4 := Lib.hid (show Below w.heap.size w w4 by rw [← hw4]; exact below_alloc _ HV4.out (Nat.le_refl _))
    clear hw4
    rw [rounds_succ]
    go_wp2_with fail
    refine (HI.out _).mono ?_
    rintro e w6 ⟨rfl, rfl⟩
    go_wp2_with fail
    go_ret2
    exact rsE_of HR.out rfl HB4.out
  · rw [h1] at HI hR
    have HR : Hid (R = (v * (86400 : Nat), 0)) := hR.symm
    dsimp only at HI
    clear hm hS hN hl h1 hR
    have g0 : ({ data := #[115, 109, 104, 100] } : ByteArray)[0]'(by decide) = 115 := rfl
    have g1 : ({ data := #[115, 109, 104, 100] } : ByteArray)[1]'(by decide) = 109 := rfl
    have g2 : ({ data := #[115, 109, 104, 100] } : ByteArray)[2]'(by decide) = 104 := rfl
    have g3 : ({ data := #[115, 109, 104, 100] } : ByteArray)[3]'(by decide) = 100 := rfl
    go_enter Tryz.func14, Tryz.ntmps14
    go_wp2_with fail
    refine wp_loop_rounds 5 ?_
    rw [rounds_succ]
    go_wp2_with fail
    go_quiet (fail)
    obtain ⟨v1, hv1⟩ : ∃ x, w.drewN nq = x := ⟨_, rfl⟩
    rw [hv1]
    have HV1 := Lib.hid (show Below w.heap.size w v1 by rw [← hv1]; exact below_n _ (Below.refl _ _))
    clear hv1
    go_wp2_with fail
    have HB1 := HV1
    rw [rounds_succ]
    go_wp2_with fail
    go_quiet (fail)
    obtain ⟨v2, hv2⟩ : ∃ x, v1.drewN nq = x := ⟨_, rfl⟩
    rw [hv2]
    have HV2 := Lib.hid (show Below w.heap.size w v2 by rw [← hv2]; exact below_n _ (HB1.out))
    clear hv2
    go_wp2_with fail
    have HB2 := HV2
    rw [rounds_succ]
    go_wp2_with fail
    go_quiet (fail)
    obtain ⟨v3, hv3⟩ : ∃ x, v2.drewN nq = x := ⟨_, rfl⟩
    rw [hv3]
    have HV3 := Lib.hid (show Below w.heap.size w v3 by rw [← hv3]; exact below_n _ (HB2.out))
    clear hv3
    go_wp2_with fail
    have HB3 := HV3
    rw [rounds_succ]
    go_wp2_with fail
    go_quiet (fail)
    obtain ⟨v4, hv4⟩ : ∃ x, v3.drewN nq = x := ⟨_, rfl⟩
    rw [hv4]
    have HV4 := Lib.hid (show Below w.heap.size w v4 by rw [← hv4]; exact below_n _ (HB3.out))
    clear hv4
    go_wp2_with fail
    obtain ⟨w4, hw4⟩ : ∃ x, v4.alloc (.cells #[.int .i64 1, .int .i64 60, .int .i64 3600, .int .i64 86400] 3) = x := ⟨_, rfl⟩
    rw [hw4]
    have HB4 := Lib.hid (show Below w.heap.size w w4 by rw [← hw4]; exact below_alloc _ HV4.out (Nat.le_refl _))
    clear hw4
    rw [rounds_succ]
    go_wp2_with fail
    refine (HI.out _).mono ?_
    rintro e w6 ⟨rfl, rfl⟩
    go_wp2_with fail
    go_ret2
    exact rsE_of (k := 0) (by rw [HR.out]; simp) rfl HB4.out
set_option maxHeartbeats 2000000 in
set_option maxRecDepth 100000 in
theorem refSec_no (r : Tx) (x : UInt8) (w : World) (hl : r.length ≤ 100000) (c0 : x ≠ 115) (c1 : x ≠ 109) (c2 : x ≠ 104) (c3 : x ≠ 100) : Calls Tryz.prog 14 #[.string (str (r ++ [x]))] w (RsE (intT (r ++ [x]) 0 10000000) w) := by
  obtain ⟨m, hm⟩ : ∃ m, r.length = m := ⟨_, rfl⟩
  obtain ⟨S, hS, hsz, hx, _⟩ := snoc_facts r x m hm
  have t1 : S.toList.isEmpty = false := by rw [← hS, str_toList]; simp
  have HI := Lib.hid (fun W => refInt_any (r ++ [x]) 0 10000000 W (by rw [List.length_append]; simp; omega))
  have q3 : (m : Int) + 1 ≤ 1000000 := by omega
  have q4 : (0 : Int) ≤ m := by omega
  rw [hS] at HI
  rw [hS]
  unfold RiE at HI
  have h0 := byte_int x 115
  have h1 := byte_int x 109
  have h2 := byte_int x 104
  have h3 := byte_int x 100
  rw [beq_eq_false_iff_ne.2 c0] at h0
  rw [beq_eq_false_iff_ne.2 c1] at h1
  rw [beq_eq_false_iff_ne.2 c2] at h2
  rw [beq_eq_false_iff_ne.2 c3] at h3
  change ((x.toNat : Int) == 115) = false at h0
  change ((x.toNat : Int) == 109) = false at h1
  change ((x.toNat : Int) == 104) = false at h2
  change ((x.toNat : Int) == 100) = false at h3
  obtain ⟨R, hR⟩ : ∃ R, intT (r ++ [x]) 0 10000000 = R := ⟨_, rfl⟩
  rw [hR] at HI ⊢
  clear hm hS hl hR c0 c1 c2 c3
  have g0 : ({ data := #[115, 109, 104, 100] } : ByteArray)[0]'(by decide) = 115 := rfl
  have g1 : ({ data := #[115, 109, 104, 100] } : ByteArray)[1]'(by decide) = 109 := rfl
  have g2 : ({ data := #[115, 109, 104, 100] } : ByteArray)[2]'(by decide) = 104 := rfl
  have g3 : ({ data := #[115, 109, 104, 100] } : ByteArray)[3]'(by decide) = 100 := rfl
  go_enter Tryz.func14, Tryz.ntmps14
  go_wp2_with fail
  refine wp_loop_rounds 5 ?_
  rw [rounds_succ]
  go_wp2_with fail
  go_quiet (fail)
  obtain ⟨v1, hv1⟩ : ∃ x, w.drewN nq = x := ⟨_, rfl⟩
  rw [hv1]
  have HV1 := Lib.hid (show Below w.heap.size w v1 by rw [← hv1]; exact below_n _ (Below.refl _ _))
  clear hv1
  go_wp2_with fail
  have HB1 := HV1
  rw [rounds_succ]
  go_wp2_with fail
  go_quiet (fail)
  obtain ⟨v2, hv2⟩ : ∃ x, v1.drewN nq = x := ⟨_, rfl⟩
  rw [hv2]
  have HV2 := Lib.hid (show Below w.heap.size w v2 by rw [← hv2]; exact below_n _ (HB1.out))
  clear hv2
  go_wp2_with fail
  have HB2 := HV2
  rw [rounds_succ]
  go_wp2_with fail
  go_quiet (fail)
  obtain ⟨v3, hv3⟩ : ∃ x, v2.drewN nq = x := ⟨_, rfl⟩
  rw [hv3]
  have HV3 := Lib.hid (show Below w.heap.size w v3 by rw [← hv3]; exact below_n _ (HB2.out))
  clear hv3
  go_wp2_with fail
  have HB3 := HV3
  rw [rounds_succ]
  go_wp2_with fail
  go_quiet (fail)
  obtain ⟨v4, hv4⟩ : ∃ x, v3.drewN nq = x := ⟨_, rfl⟩
  rw [hv4]
  have HV4 := Lib.hid (show Below w.heap.size w v4 by rw [← hv4]; exact below_n _ (HB3.out))
  clear hv4
  go_wp2_with fail
  have HB4 := HV4
  rw [rounds_succ]
  go_wp2_with fail
  refine (HI.out _).mono ?_
  rintro e w6 ⟨rfl, rfl⟩
  go_wp2_with fail
  go_ret2
  exact rsE_of rfl rfl HB4.out
theorem refSeconds_any (s : Tx) (w : World) (hl : s.length ≤ 100000) : Calls Tryz.prog 14 #[.string (str s)] w (RsE (secT s) w) := by
  rcases List.eq_nil_or_concat s with rfl | ⟨r, x, rfl⟩
  · exact refSec_nil w
  · rw [List.concat_eq_append] at hl ⊢
    have hr : r.length ≤ 100000 := by
      rw [List.length_append] at hl
      omega
    rw [sec_snoc]
    by_cases c0 : x = 115
    · subst c0
      exact refSec_s r w hr
    by_cases c1 : x = 109
    · subst c1
      exact refSec_m r w hr
    by_cases c2 : x = 104
    · subst c2
      exact refSec_h r w hr
    by_cases c3 : x = 100
    · subst c3
      exact refSec_d r w hr
    have hu : unitT x = 0 := by unfold unitT; rw [if_neg c0, if_neg c1, if_neg c2, if_neg c3]
    rw [if_pos hu]
    exact refSec_no r x w hr c0 c1 c2 c3
end Go.Proofs.YtencapplbedcmaaGreatDoor

/- ValueInts' walk. -/
import Derived.Test.YtencapplbedcmaaGreatDoorVaSu
import Derived.Test.YtencapplbedcmaaGreatDoorVaR5
namespace Go.Proofs.YtencapplbedcmaaGreatDoor
open Go.RowKit

set_option maxHeartbeats 4000000 in
set_option maxRecDepth 100000 in
theorem valueInts_any (s : ByteArray) (lo hi : Int) (w : World) (hg : ErrT w) (he : EsV w) (hs : s.size ≤ maxLen) (_ : -9223372036854775808 ≤ lo ∧ lo ≤ 9223372036854775807) (_ : -9223372036854775808 ≤ hi ∧ hi ≤ 9223372036854775807) :
    Calls Tryz.prog 3 #[.string s, .agg #[.int .i64 lo, .int .i64 hi]] w fun e w' => e = .returned (.bool true) ∧ Below w.heap.size w w' := by
  obtain ⟨n, hn⟩ : ∃ n, s.size = n := ⟨_, rfl⟩
  have hn63 : n ≤ 9223372036854775807 := by rw [← hn]; exact hs
  have HSu := Lib.hid (fun W h => sure_any W h)
  have HE := Lib.hid (And.intro hg he)
  obtain ⟨w1, hw1⟩ : ∃ w1, w.alloc (.cells #[.int .i64 lo, .int .i64 hi] 22) = w1 := ⟨_, rfl⟩
  have hb1 : Below w.heap.size w w1 := by rw [← hw1]; exact (Below.refl _ _).alloc (Nat.le_refl _) _
  have hx1 : w1.heap[w.heap.size]? = some (.cells #[.int .i64 lo, .int .i64 hi] 22 (0, 0)) := by rw [← hw1]; exact (MapKept.heap_alloc w _).1
  have hlt : w.heap.size < w1.heap.size := by rw [← hw1]; simp
  have HBx : Hid (∀ W, Below w1.heap.size w1 W → W.cell? ⟨w.heap.size, 0, none⟩ = some (.int .i64 lo) ∧ W.cell? ⟨w.heap.size, 1, none⟩ = some (.int .i64 hi)) := fun W hb =>
    ⟨blk_cell ((hb.block _ hlt).trans hx1) 0 rfl, blk_cell ((hb.block _ hlt).trans hx1) 1 rfl⟩
  have H1 := Lib.hid hb1
  have HEs : Hid (∀ W, Below w1.heap.size w1 W → ErrT W ∧ EsV W) := fun W hb => ⟨(hg.below hb1).below hb, (he.below hb1).below hb⟩
  clear hb1 hx1 hlt hg he hs
  by_cases hc : 300 < n
  · have d1 : (300 : Int) < n := by omega
    obtain ⟨e1, e2⟩ := HEs.out w1 (Below.refl _ _)
    have HSe := Lib.hid (HSu.out w1 e2)
    clear e1 e2
    go_enter Tryz.func3, Tryz.ntmps3
    go_wp2_with fail
    refine HSe.out.mono ?_
    rintro e w2 ⟨rfl, hb⟩
    have HB := Lib.hid (H1.out.trans (hb.mono H1.out.size))
    clear hb
    go_wp2_with fail
    go_ret
    exact ret_trueV HB.out
  · obtain ⟨l, hl⟩ : ∃ l : Tx, l = s.data.toList := ⟨_, rfl⟩
    have hsl : s = str l := by rw [hl]; exact (str_of s).symm
    have hln : l.length ≤ 300 := by rw [hl, ← Lib.size_eq, hn]; omega
    have HI := Lib.hid (fun W h => int_any l lo hi W (by omega) h)
    have HRi := Lib.hid (fun W => refInt_any l lo hi W (by omega))
    have HF := Lib.hid (fun W => flag_any l W)
    have HRf := Lib.hid (fun W => refFlag_any l W)
    have HS := Lib.hid (fun W h => seconds_any l W (by omega) h)
    have HRs := Lib.hid (fun W => refSeconds_any l W (by omega))
    rw [← hsl] at HI HRi HF HRf HS HRs
    unfold IntE at HI HS
    unfold RiE at HRi
    unfold FlagE at HF
    unfold RfE at HRf
    unfold RsE at HRs
    generalize (intT l lo hi).1 = i1 at *
    generalize (intT l lo hi).2 = i2 at *
    generalize (flagT l).1 = f1 at *
    generalize (flagT l).2 = f2 at *
    generalize (secT l).1 = s1 at *
    generalize (secT l).2 = s2 at *
    have HN1 := Lib.hid (fun W h => num_E i2 W h)
    have HN2 := Lib.hid (fun W h => num_E f2 W h)
    have HN3 := Lib.hid (fun W h => num_E s2 W h)
    generalize errE i2 = ei at *
    generalize errE f2 = ef at *
    generalize errE s2 = es at *
    have d1 : ¬ ((300 : Int) < n) := by omega
    obtain ⟨k0, k1⟩ := HBx.out w1 (Below.refl _ _)
    clear hc hl hsl hln
    go_enter Tryz.func3, Tryz.ntmps3
    go_wp2_with fail
    refine (HI.out _ (HEs.out _ (Below.refl _ _)).2).mono ?_
    rintro e w2 ⟨rfl, hb⟩
    have HB2 := Lib.hid hb
    obtain ⟨j0, j1⟩ := HBx.out w2 hb
    clear hb
    go_wp2_with fail
    refine (HRi.out _).mono ?_
    rintro e w2' ⟨rfl, rfl⟩
    go_wp2_with fail
    refine (HF.out _).mono ?_
    rintro e w3 ⟨rfl, hb⟩
    have HB3 := Lib.hid (HB2.out.trans (hb.mono HB2.out.size))
    clear hb HB2
    go_wp2_with fail
    refine (HRf.out _).mono ?_
    rintro e w3' ⟨rfl, rfl⟩
    go_wp2_with fail
    refine (HS.out _ (HEs.out _ HB3.out).2).mono ?_
    rintro e w4 ⟨rfl, hb⟩
    have HB4 := Lib.hid (HB3.out.trans (hb.mono HB3.out.size))
    clear hb HB3
    go_wp2_with fail
    refine (HRs.out _).mono ?_
    rintro e w5 ⟨rfl, hb⟩
    have HB5 := Lib.hid (HB4.out.trans (hb.mono HB4.out.size))
    clear hb HB4
    go_wp2_with fail
    with_reducible refine (HN1.out _ (HEs.out _ HB5.out).1).mono ?_
    rintro e w6 ⟨rfl, hb⟩
    have HB6 := Lib.hid (HB5.out.trans (hb.mono HB5.out.size))
    clear hb HB5
    go_wp2_with fail
    with_reducible refine (HN2.out _ (HEs.out _ HB6.out).1).mono ?_
    rintro e w7 ⟨rfl, hb⟩
    have HB7 := Lib.hid (HB6.out.trans (hb.mono HB6.out.size))
    clear hb HB6
    go_wp2_with fail
    with_reducible refine (HN3.out _ (HEs.out _ HB7.out).1).mono ?_
    rintro e w8 ⟨rfl, hb⟩
    have HB8 := Lib.hid (HB7.out.trans (hb.mono HB7.out.size))
    clear hb HB7
    go_wp2_with fail
    with_reducible refine (HSu.out _ (HEs.out _ HB8.out).2).mono ?_
    rintro e w9 ⟨rfl, hb⟩
    have HB9 := Lib.hid (HB8.out.trans (hb.mono HB8.out.size))
    clear hb HB8
    go_wp2_with fail
    go_ret
    exact ret_trueV (H1.out.trans (HB9.out.mono H1.out.size))
end Go.Proofs.YtencapplbedcmaaGreatDoor

/- Contract: civil's Of. -/
import Derived.Test.YtjfmnflcgenpaaaGreatDoorCvD
import Derived.Laws.Rows
import Derived.Laws.ResultCell
namespace Go.Proofs.YtjfmnflcgenpaaaGreatDoor
open Go.RowKit

/-- Two results, the first of which lies in memory. -/
theorem results_cell2 {P : Program} {fn : Func} {p u : Tmp} {ty : TypeId} (h : fn.results = #[.cell p ty, .tmp u]) (tmps : Array Value) (w : World) (g : Nat) (t : TypeId) (cs : Array Value) (fr : Nat × Nat) (d : TypeDesc)
    (hp : tmps.getD p undef = .pointer (some ⟨g, 0, none⟩)) (hg : w.heap[g]? = some (.cells cs t fr))
    (hu : P.underlying ty = some d) (hd : (match d with | .struct _ | .array _ _ => true | _ => false) = true) (hi : (P.info? ty).map (·.size) = some cs.size) :
    (results fn tmps).run P w = .ok (.tuple #[.agg cs, tmps.getD u undef]) w := by
  rw [results_cell_tmp h, hp]
  simp [asAddr, run_loadVar_row w g t ty cs fr d hg hu hd hi]

set_option maxRecDepth 100000 in
set_option maxHeartbeats 1000000 in
theorem ofOk_any (y : Int) (m : Nat) (d n : Int) (w : World) (hi : Is y m d) (hn : nr y m d = n) (hn1 : -70368744177664 ≤ n) (hn2 : n ≤ 70368744177664) (ht : Tab w) :
    Calls Tryz.prog 17 #[.int .i64 n] w fun e w' => e = .returned (.tuple #[dt y m d, .nilIface]) ∧ Below w.heap.size w w' := by
  obtain ⟨hy1, hy2⟩ := nr_in hi
  rw [hn] at hy1 hy2
  have hbd := year_bd hy1 hy2 hn1 hn2
  have hbb := bgn_bd (y := y) (by omega) (by omega)
  have h1 := hi.m1
  have h2 := hi.m12
  have h3 := hi.d1
  have h4 := hi.dl
  have HT := Lib.hid (ht.below ((Below.refl _ _).alloc (Nat.le_refl _) (.cells #[.int .i64 0, .int .i64 0, .int .i64 0] 30)))
  obtain ⟨k0, rfl⟩ : ∃ k, m = k + 1 := ⟨m - 1, by omega⟩
  have H := Lib.hid (show bgn y + cum y k0 + d - 1 = n from hn)
  clear ht hi hn
  have hyr := Lib.hid (year_any n y (w.alloc (.cells #[.int .i64 0, .int .i64 0, .int .i64 0] 30)) hy1 hy2 hn1 hn2)
  have hbg := Lib.hid (begin_any y (w.alloc (.cells #[.int .i64 0, .int .i64 0, .int .i64 0] 30)) (by omega) (by omega))
  clear hy2
  generalize bgn y = B at *
  unfold dt
  go_enter Tryz.func17, Tryz.ntmps17
  go_wp2_with fail
  refine hyr.out.mono ?_
  rintro e w' ⟨rfl, rfl⟩
  go_wp2_with fail
  refine hbg.out.mono ?_
  rintro e w' ⟨rfl, rfl⟩
  go_wp2_with fail
  clear hyr hbg
  go_loop [5, 6] (fun i l => ∃ k : Nat, i = .int .i64 ((k : Int) + 1) ∧ k ≤ k0 ∧ l = .int .i64 (n - B - cum y k)) (fun i _ => k0 + 1 - (intOf i).toNat)
  case atStart => exact ⟨0, rfl, by omega, by simp [cum]⟩
  case round =>
    obtain ⟨k, rfl, hk, rfl⟩ := hrel
    have hcum := cum_nn y k (by omega)
    by_cases hlt : k < k0
    · have HS := Lib.hid (cum_succ y k)
      have hmo := cum_mono y (k := k + 1) (l := k0) (by omega) (by omega)
      have hlk := mlen_le (y := y) (m := k + 1) (by omega) (by omega)
      have hge : mlen y (k + 1) ≤ n - B - cum y k := by
        have := HS.out
        have := H.out
        omega
      clear hmo
      generalize cum y k = c at *
      have HL := Lib.hid (length_any y (k + 1) _ (by omega) (by omega) HT.out)
      generalize hx : mlen y (k + 1) = x at *
      go_wp2_with fail
      refine HL.out.mono ?_
      rintro e w' ⟨rfl, rfl⟩
      go_wp2_with fail
      refine HL.out.mono ?_
      rintro e w' ⟨rfl, rfl⟩
      go_wp2_with fail
      go_round
      case rel => exact ⟨k + 1, by go_num, by omega, by rw [HS.out]; go_num⟩
      case measure => simp [intOf]; omega
    · obtain rfl : k = k0 := by omega
      have hlk := mlen_le (y := y) (m := k + 1) (by omega) (by omega)
      have hle : n - B - cum y k < mlen y (k + 1) := by
        have := H.out
        omega
      have hd : n - B - cum y k = d - 1 := by
        have := H.out
        omega
      rw [hd] at hle ⊢
      clear hd
      have HL := Lib.hid (length_any y (k + 1) _ (by omega) (by omega) HT.out)
      generalize mlen y (k + 1) = x at *
      go_wp2_with fail
      refine HL.out.mono ?_
      rintro e w' ⟨rfl, rfl⟩
      go_wp2_with fail
      refine bodyPost_ret (results_cell2 rfl _ _ w.heap.size _ _ (0, 0) _ rfl (heap_alloc_new _ _) Tryz.underlying30 rfl (by kernel_rfl)) rfl ?_
      exact ⟨rfl, (Below.refl w.heap.size w).alloc (Nat.le_refl _) _⟩
set_option maxRecDepth 100000 in
theorem ofNo_any (n : Int) (w : World) (h : n < -70368744177664 ∨ 70368744177664 < n) :
    Calls Tryz.prog 17 #[.int .i64 n] w fun e w' => e = .returned (.tuple #[dt 0 0 0, errNo]) ∧ Below w.heap.size w w' := by
  unfold dt errNo
  rcases h with h | h
  all_goals
    go_enter Tryz.func17, Tryz.ntmps17
    go_wp2_with fail
    refine bodyPost_ret (results_cell2 rfl _ _ w.heap.size _ _ (0, 0) _ rfl (heap_alloc_new _ _) Tryz.underlying30 rfl (by kernel_rfl)) rfl ?_
    exact ⟨rfl, (Below.refl w.heap.size w).alloc (Nat.le_refl _) _⟩
/-- Every number is a date's. -/
theorem date_ex (n : Int) : ∃ (y : Int) (m : Nat) (d : Int), Is y m d ∧ nr y m d = n := by
  obtain ⟨y, h1, h2⟩ := year_ex n
  rw [bgn_succ] at h2
  have h12 := cum_12 y
  have key : ∀ k, k ≤ 12 → n - bgn y < cum y k → ∃ m, 1 ≤ m ∧ m ≤ 12 ∧ cum y (m - 1) ≤ n - bgn y ∧ n - bgn y < cum y m := by
    intro k
    induction k with
    | zero => intro _ h; simp [cum] at h; omega
    | succ k ih =>
      intro hk h
      by_cases hlt : n - bgn y < cum y k
      · exact ih (by omega) hlt
      · exact ⟨k + 1, by omega, hk, by simpa using hlt, h⟩
  obtain ⟨m, hm1, hm2, hm3, hm4⟩ := key 12 (Nat.le_refl _) (by omega)
  obtain ⟨k, rfl⟩ : ∃ k, m = k + 1 := ⟨m - 1, by omega⟩
  simp only [Nat.add_sub_cancel] at hm3
  rw [cum_succ] at hm4
  refine ⟨y, k + 1, n - bgn y - cum y k + 1, ⟨hm1, hm2, by omega, by omega⟩, ?_⟩
  unfold nr
  simp only [Nat.add_sub_cancel]
  omega
end Go.Proofs.YtjfmnflcgenpaaaGreatDoor

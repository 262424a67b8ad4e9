/- Contract: civil's Days. -/
import Derived.Test.YtjfmnflcgenpaaaGreatDoorCvC
namespace Go.Proofs.YtjfmnflcgenpaaaGreatDoor
open Go.RowKit

theorem ret_one {k : IntKind} {a b : Int} {v : Value} (h : a = b) : Ending.returned (.tuple #[.int k a, v]) = .returned (.tuple #[.int k b, v]) := by rw [h]
/-- A date as a value. -/
def dt (y m d : Int) : Value := .agg #[.int .i64 y, .int .i64 m, .int .i64 d]
set_option maxRecDepth 100000 in
set_option maxHeartbeats 1000000 in
theorem daysOk_any (y : Int) (m : Nat) (d : Int) (w : World) (hi : Is y m d) (hy1 : -274877906944 ≤ y) (hy2 : y ≤ 274877906944) (ht : Tab w) :
    Calls Tryz.prog 43 #[dt y m d] w fun e w' => e = .returned (.tuple #[.int .i64 (nr y m d), .nilIface]) ∧ Below w.heap.size w w' := by
  have hb := bgn_bd hy1 (by omega)
  obtain ⟨hb1, hb2⟩ := hb
  have h1 := hi.m1
  have h2 := hi.m12
  have h3 := hi.d1
  have h4 := hi.dl
  have hl := mlen_le (y := y) h1 h2
  have H : Hid (bgn y + cum y (m - 1) + d - 1 = nr y m d) := rfl
  have HT := Lib.hid (ht.below ((Below.refl _ _).alloc (Nat.le_refl _) (.cells #[.int .i64 y, .int .i64 m, .int .i64 d] 30)))
  have HB := Lib.hid ((Below.refl w.heap.size w).alloc (Nat.le_refl _) (.cells #[.int .i64 y, .int .i64 m, .int .i64 d] 30))
  clear ht hi
  generalize nr y m d = r at *
  obtain ⟨k0, rfl⟩ : ∃ k, m = k + 1 := ⟨m - 1, by omega⟩
  rw [Nat.add_sub_cancel] at H
  generalize hml : mlen y (k0 + 1) = ml at *
  have HML := Lib.hid hml
  clear hml
  unfold dt
  go_enter Tryz.func43, Tryz.ntmps43
  go_wp2_with fail
  refine (lengthOk_any y (k0 + 1) _ h1 h2 hy1 hy2 HT.out).mono ?_
  rintro e w' ⟨he, rfl⟩
  rw [HML.out] at he
  subst he
  go_wp2_with fail
  refine (begin_any y _ (by omega) (by omega)).mono ?_
  rintro e w' ⟨rfl, rfl⟩
  generalize hB : bgn y = B at *
  clear hB
  go_wp2_with fail
  go_loop [6, 35] (fun n i => ∃ k : Nat, i = .int .i64 k ∧ k ≤ k0 ∧ n = .int .i64 (B + cum y k)) (fun _ i => k0 - (intOf i).toNat)
  case atStart => exact ⟨0, rfl, by omega, by simp [cum]⟩
  case round =>
    obtain ⟨k, rfl, hk, rfl⟩ := hrel
    have hcum := cum_nn y k (by omega)
    by_cases hlt : k < k0
    · have HS := Lib.hid (cum_succ y k)
      have hlk := mlen_le (y := y) (m := k + 1) (by omega) (by omega)
      generalize cum y k = c at *
      have HL := Lib.hid (length_any y (k + 1) _ (by omega) (by omega) HT.out)
      generalize hx : mlen y (k + 1) = x at *
      go_wp2_with fail
      refine HL.out.mono ?_
      rintro e w' ⟨rfl, rfl⟩
      go_wp2_with fail
      go_round
      case rel => exact ⟨k + 1, by go_num, by omega, by rw [HS.out]; go_num⟩
      case measure => simp [intOf]; omega
    · obtain rfl : k = k0 := by omega
      generalize cum y k = c at *
      go_wp2_with fail
      go_ret2
      exact ⟨ret_one H.out, HB.out⟩
set_option maxRecDepth 100000 in
set_option maxHeartbeats 1000000 in
theorem daysNoM_any (y m d : Int) (w : World) (h : m < 1 ∨ 12 < m ∨ y < -274877906944 ∨ 274877906944 < y) :
    Calls Tryz.prog 43 #[dt y m d] w fun e w' => e = .returned (.tuple #[.int .i64 0, errNo]) ∧ Below w.heap.size w w' := by
  unfold dt errNo
  have HH := Lib.hid (lengthNo_any y m (w.alloc (.cells #[.int .i64 y, .int .i64 m, .int .i64 d] 30)) h)
  clear h
  unfold errNo at HH
  have HB := Lib.hid ((Below.refl w.heap.size w).alloc (Nat.le_refl _) (.cells #[.int .i64 y, .int .i64 m, .int .i64 d] 30))
  go_enter Tryz.func43, Tryz.ntmps43
  go_wp2_with fail
  refine HH.out.mono ?_
  rintro e w' ⟨rfl, rfl⟩
  go_wp2_with fail
  go_ret2
  exact ⟨rfl, HB.out⟩
set_option maxRecDepth 100000 in
set_option maxHeartbeats 1000000 in
theorem daysNoD_any (y : Int) (m : Nat) (d : Int) (w : World) (h1 : 1 ≤ m) (h2 : m ≤ 12) (hd : d < 1 ∨ mlen y m < d) (hy1 : -274877906944 ≤ y) (hy2 : y ≤ 274877906944) (ht : Tab w) :
    Calls Tryz.prog 43 #[dt y m d] w fun e w' => e = .returned (.tuple #[.int .i64 0, errNo]) ∧ Below w.heap.size w w' := by
  unfold dt errNo
  have HT := Lib.hid (ht.below ((Below.refl _ _).alloc (Nat.le_refl _) (.cells #[.int .i64 y, .int .i64 m, .int .i64 d] 30)))
  have HB := Lib.hid ((Below.refl w.heap.size w).alloc (Nat.le_refl _) (.cells #[.int .i64 y, .int .i64 m, .int .i64 d] 30))
  clear ht
  have HL := Lib.hid (lengthOk_any y m _ h1 h2 hy1 hy2 HT.out)
  clear HT
  generalize mlen y m = ml at *
  rcases Int.lt_or_le d 1 with h | h
  · clear hd
    go_enter Tryz.func43, Tryz.ntmps43
    go_wp2_with fail
    refine HL.out.mono ?_
    rintro e w' ⟨rfl, rfl⟩
    go_wp2_with fail
    go_ret2
    exact ⟨rfl, HB.out⟩
  · have hd2 : ml < d := by omega
    clear hd
    go_enter Tryz.func43, Tryz.ntmps43
    go_wp2_with fail
    refine HL.out.mono ?_
    rintro e w' ⟨rfl, rfl⟩
    go_wp2_with fail
    go_ret2
    exact ⟨rfl, HB.out⟩
end Go.Proofs.YtjfmnflcgenpaaaGreatDoor

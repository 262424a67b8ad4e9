/- Contracts of civil's length, Length, begin, year. -/
import Derived.Test.YtjfmnflcgenpaaaGreatDoorCvA
namespace Go.Proofs.YtjfmnflcgenpaaaGreatDoor
open Go.RowKit

/-- civil's table is there. -/
def Tab (w : World) : Prop := ∀ i, i < 12 → w.cell? ⟨1, i, none⟩ = some (.int .i64 (mtab (i + 1)))
theorem Tab.below {w w' : World} (h : Tab w) (hb : Below w.heap.size w w') : Tab w' := fun i hi =>
  (World.cell?_of_block (a := ⟨1, i, none⟩) (hb.block _ (World.block_lt_of_cell? w _ (h i hi)))).trans (h i hi)
theorem Tab.drewN {w : World} (h : Tab w) (n : Nat) : Tab (w.drewN n) := h

theorem length_any (y : Int) (m : Nat) (w : World) (h1 : 1 ≤ m) (h2 : m ≤ 12) (ht : Tab w) :
    Calls Tryz.prog 40 #[.int .i64 y, .int .i64 m] w fun e w' => e = .returned (.int .i64 (mlen y m)) ∧ w = w' := by
  have hc := ht (m - 1) (by omega)
  rw [show m - 1 + 1 = m by omega] at hc
  clear ht
  have hm := mtab_le h1 h2
  obtain ⟨hm1, hm2⟩ := hm
  by_cases he : m = 2
  · subst he
    have hl := leap_any y w
    cases hL : leapB y with
    | true =>
      have H : Hid (mtab 2 + 1 = mlen y 2) := by unfold Hid mlen; rw [if_pos rfl, leapN_true hL]
      rw [hL] at hl
      generalize mtab 2 = t at *
      generalize mlen y 2 = r at *
      have HL := Lib.hid hl
      clear hl hL
      go_enter Tryz.func40, Tryz.ntmps40
      go_wp2_with fail
      refine HL.out.mono ?_
      rintro e w' ⟨rfl, rfl⟩
      go_wp2_with fail
      go_ret
      exact ⟨ret_int H.out, rfl⟩
    | false =>
      have H : Hid (mtab 2 = mlen y 2) := by unfold Hid mlen; rw [if_pos rfl, leapN_false hL]; omega
      rw [hL] at hl
      generalize mtab 2 = t at *
      generalize mlen y 2 = r at *
      have HL := Lib.hid hl
      clear hl hL
      go_enter Tryz.func40, Tryz.ntmps40
      go_wp2_with fail
      refine HL.out.mono ?_
      rintro e w' ⟨rfl, rfl⟩
      go_wp2_with fail
      go_ret
      exact ⟨ret_int H.out, rfl⟩
  · have H : Hid (mtab m = mlen y m) := by unfold Hid mlen; rw [if_neg he]; omega
    generalize mtab m = t at *
    generalize mlen y m = r at *
    have hne : ((m : Int) == 2) = false := beq_eq_false_iff_ne.2 (by omega)
    go_enter Tryz.func40, Tryz.ntmps40
    go_wp2
    go_ret
    exact ⟨ret_int H.out, rfl⟩
theorem begin_any (y : Int) (w : World) (h1 : -1099511627776 ≤ y) (h2 : y ≤ 1099511627776) :
    Calls Tryz.prog 39 #[.int .i64 y] w fun e w' => e = .returned (.int .i64 (bgn y)) ∧ w = w' := by
  have H : Hid ((y - 1) * 365 + ((y - 1) / 4 - (y - 1) / 100 + (y - 1) / 400) - 719162 = bgn y) := rfl
  generalize bgn y = r at *
  go_enter Tryz.func39, Tryz.ntmps39
  go_wp2_with fail
  refine (floor_any _ _ _ (by omega) (by omega) (by omega)).mono ?_
  rintro e w' ⟨rfl, rfl⟩
  go_wp2_with fail
  refine (floor_any _ _ _ (by omega) (by omega) (by omega)).mono ?_
  rintro e w' ⟨rfl, rfl⟩
  go_wp2_with fail
  refine (floor_any _ _ _ (by omega) (by omega) (by omega)).mono ?_
  rintro e w' ⟨rfl, rfl⟩
  go_wp2_with fail
  go_ret
  exact ⟨ret_int H.out, rfl⟩
def errNo : Value := .iface 56 (.int .i64 1)
theorem lengthOk_any (y : Int) (m : Nat) (w : World) (h1 : 1 ≤ m) (h2 : m ≤ 12) (hy1 : -274877906944 ≤ y) (hy2 : y ≤ 274877906944) (ht : Tab w) :
    Calls Tryz.prog 41 #[.int .i64 y, .int .i64 m] w fun e w' => e = .returned (.tuple #[.int .i64 (mlen y m), .nilIface]) ∧ w = w' := by
  have HT := Lib.hid ht
  clear ht
  go_enter Tryz.func41, Tryz.ntmps41
  go_wp2_with fail
  refine (length_any y m _ h1 h2 HT.out).mono ?_
  rintro e w' ⟨rfl, rfl⟩
  go_wp2_with fail
  go_ret2
  exact ⟨rfl, rfl⟩
theorem lengthNo_any (y m : Int) (w : World) (h : m < 1 ∨ 12 < m ∨ y < -274877906944 ∨ 274877906944 < y) :
    Calls Tryz.prog 41 #[.int .i64 y, .int .i64 m] w fun e w' => e = .returned (.tuple #[.int .i64 0, errNo]) ∧ w = w' := by
  have HH := Lib.hid h
  clear h
  go_enter Tryz.func41, Tryz.ntmps41
  go_wp2_with fail
  all_goals
    first
    | (go_ret2
       exact ⟨rfl, rfl⟩)
    | (exfalso
       have := HH.out
       omega)

end Go.Proofs.YtjfmnflcgenpaaaGreatDoor

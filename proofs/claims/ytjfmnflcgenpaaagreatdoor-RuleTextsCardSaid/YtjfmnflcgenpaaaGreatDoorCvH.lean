/- Contracts: the laws' give; the document's May. -/
import Derived.Test.YtjfmnflcgenpaaaGreatDoorCvG
import Derived.Deep.RegionHeld3
namespace Go.Proofs.YtjfmnflcgenpaaaGreatDoor
open Go.RowKit

theorem heap_new2 (w : World) (o p : Obj) : ((w.alloc o).alloc p).heap[w.heap.size + 1]? = some p := by
  have := heap_alloc_new (w.alloc o) p
  rw [World.size_alloc] at this
  exact this
set_option maxRecDepth 100000 in
set_option maxHeartbeats 2000000 in
theorem may_call (y : Int) (m : Nat) (d : Int) (b : Bool) (w : World) (h1 : 1 ≤ m) (h2 : m ≤ 12) (hy1 : -274877906944 ≤ y) (hy2 : y ≤ 274877906944) (hd : 1 ≤ d) (hb : decide (d ≤ mlen y m) = b) :
    Calls Tryz.prog 22 #[dt y m d] w fun e w' => e = .returned (.bool b) ∧ Below w.heap.size w w' := by
  unfold dt
  have hbl := (Below.refl w.heap.size w).alloc (Nat.le_refl _) (.cells #[.int .i64 y, .int .i64 m, .int .i64 d] 23)
  have g0 := heap_alloc_new w (.cells #[.int .i64 y, .int .i64 m, .int .i64 d] 23)
  have c0 := cell_blk g0 0 (v := .int .i64 y) rfl
  have c1 := cell_blk g0 1 (v := .int .i64 m) rfl
  have c2 := cell_blk g0 2 (v := .int .i64 d) rfl
  have hS0 := And.intro c0 (And.intro c1 c2)
  clear c0 c1 c2 g0
  have HB := Lib.hid hbl
  have HL := Lib.hid (fun W => refLength_any y m W h1 h2)
  generalize mlen y m = x at *
  clear hbl
  have e1 : decide (-274877906944 ≤ y) = true := by simpa using hy1
  have e2 : decide (y ≤ 274877906944) = true := by simpa using hy2
  have e3 : decide (1 ≤ (m : Int)) = true := by simp; omega
  have e4 : decide ((m : Int) ≤ 12) = true := by simp; omega
  have e5 : decide (1 ≤ d) = true := by simpa using hd
  go_enter Tryz.func22, Tryz.ntmps22
  go_wp2_with fail
  go_region_held3 (fun W => W.cell? ⟨w.heap.size, 0, none⟩ = some (.int .i64 y) ∧ W.cell? ⟨w.heap.size, 1, none⟩ = some (.int .i64 m) ∧ W.cell? ⟨w.heap.size, 2, none⟩ = some (.int .i64 d))
    (first | exact hS0 | exact hS1)
    (first
      | (go_at_call 29
         refine (HL.out _).mono ?_
         rintro e w1 ⟨rfl, hb1⟩
         have hS1 := And.intro ((hb1.cell (World.block_lt_of_cell? _ _ hS0.1)).trans hS0.1) (And.intro ((hb1.cell (World.block_lt_of_cell? _ _ hS0.2.1)).trans hS0.2.1) ((hb1.cell (World.block_lt_of_cell? _ _ hS0.2.2)).trans hS0.2.2))
         have H1 := Lib.hid hb1
         clear hb1))
  all_goals
    clear hS0 hS1
    go_wp2_with fail
    go_ret
    exact ⟨rfl, HB.out.drew.trans (H1.out.mono (by simp))⟩
set_option maxRecDepth 100000 in
set_option maxHeartbeats 2000000 in
theorem may_none (y m d : Int) (w : World) (h : ¬ (-274877906944 ≤ y ∧ y ≤ 274877906944 ∧ 1 ≤ m ∧ m ≤ 12 ∧ 1 ≤ d)) :
    Calls Tryz.prog 22 #[dt y m d] w fun e w' => e = .returned (.bool false) ∧ Below w.heap.size w w' := by
  unfold dt
  have HB := Lib.hid ((Below.refl w.heap.size w).alloc (Nat.le_refl _) (.cells #[.int .i64 y, .int .i64 m, .int .i64 d] 23))
  rcases (show ¬ (-274877906944 ≤ y) ∨ (-274877906944 ≤ y ∧ ¬ y ≤ 274877906944) ∨ (-274877906944 ≤ y ∧ y ≤ 274877906944 ∧ ¬ 1 ≤ m) ∨ (-274877906944 ≤ y ∧ y ≤ 274877906944 ∧ 1 ≤ m ∧ ¬ m ≤ 12) ∨ (-274877906944 ≤ y ∧ y ≤ 274877906944 ∧ 1 ≤ m ∧ m ≤ 12 ∧ ¬ 1 ≤ d) by omega) with h1 | ⟨h1, h2⟩ | ⟨h1, h2, h3⟩ | ⟨h1, h2, h3, h4⟩ | ⟨h1, h2, h3, h4, h5⟩
  · have e1 : decide (-274877906944 ≤ y) = false := decide_eq_false h1
    go_enter Tryz.func22, Tryz.ntmps22
    go_wp2_with fail
    go_quiet (fail)
    go_wp2_with fail
    go_ret
    exact ⟨rfl, HB.out.trans ((below_drewN _ _).mono (by simp))⟩
  · have e1 : decide (-274877906944 ≤ y) = true := decide_eq_true h1
    have e2 : decide (y ≤ 274877906944) = false := decide_eq_false h2
    go_enter Tryz.func22, Tryz.ntmps22
    go_wp2_with fail
    go_quiet (fail)
    go_wp2_with fail
    go_ret
    exact ⟨rfl, HB.out.trans ((below_drewN _ _).mono (by simp))⟩
  · have e1 : decide (-274877906944 ≤ y) = true := decide_eq_true h1
    have e2 : decide (y ≤ 274877906944) = true := decide_eq_true h2
    have e3 : decide (1 ≤ m) = false := decide_eq_false h3
    go_enter Tryz.func22, Tryz.ntmps22
    go_wp2_with fail
    go_quiet (fail)
    go_wp2_with fail
    go_ret
    exact ⟨rfl, HB.out.trans ((below_drewN _ _).mono (by simp))⟩
  · have e1 : decide (-274877906944 ≤ y) = true := decide_eq_true h1
    have e2 : decide (y ≤ 274877906944) = true := decide_eq_true h2
    have e3 : decide (1 ≤ m) = true := decide_eq_true h3
    have e4 : decide (m ≤ 12) = false := decide_eq_false h4
    go_enter Tryz.func22, Tryz.ntmps22
    go_wp2_with fail
    go_quiet (fail)
    go_wp2_with fail
    go_ret
    exact ⟨rfl, HB.out.trans ((below_drewN _ _).mono (by simp))⟩
  · have e1 : decide (-274877906944 ≤ y) = true := decide_eq_true h1
    have e2 : decide (y ≤ 274877906944) = true := decide_eq_true h2
    have e3 : decide (1 ≤ m) = true := decide_eq_true h3
    have e4 : decide (m ≤ 12) = true := decide_eq_true h4
    have e5 : decide (1 ≤ d) = false := decide_eq_false h5
    go_enter Tryz.func22, Tryz.ntmps22
    go_wp2_with fail
    go_quiet (fail)
    go_wp2_with fail
    go_ret
    exact ⟨rfl, HB.out.trans ((below_drewN _ _).mono (by simp))⟩
end Go.Proofs.YtjfmnflcgenpaaaGreatDoor

/- Contract: the document's May of rules of dates: some of what is asked for. -/
import Derived.Test.YtlogapkpllgdcaaGreatDoorRlP
import Derived.Test.YtlogapkpllgdcaaGreatDoorRlD
import Derived.Deep.RegionWith
namespace Go.Proofs.YtlogapkpllgdcaaGreatDoor
open Go.RowKit


set_option maxRecDepth 100000 in
set_option maxHeartbeats 4000000 in
theorem refMay3b1 (mo n wk fy fm fd ty tm td : Int) (w : World) (h1 : mo = 0) (h2 : n = 0) (h3 : wk = 0) (h4 : okD fy fm fd = false) :
    Calls Tryz.prog 32 #[rv ⟨3, mo, n, wk, fy, fm, fd, ty, tm, td⟩] w fun e w' => e = .returned (.bool (mayD ⟨3, mo, n, wk, fy, fm, fd, ty, tm, td⟩)) ∧ Below w.heap.size w w' := by
  have HR : Hid (mayD ⟨3, mo, n, wk, fy, fm, fd, ty, tm, td⟩ = ((((((((mo == 0) && (n == 0)) && (wk == 0)) && okD fy fm fd) && okD ty tm td) && decide (0 ≤ fy)) && decide (ty ≤ 9999)) && decide (dnr fy fm fd ≤ dnr ty tm td))) := rfl
  generalize mayD ⟨3, mo, n, wk, fy, fm, fd, ty, tm, td⟩ = res at *
  have hbl := (Below.refl w.heap.size w).alloc (Nat.le_refl _) (.cells #[.int .i64 3, .int .i64 mo, .int .i64 n, .int .i64 wk, .int .i64 fy, .int .i64 fm, .int .i64 fd, .int .i64 ty, .int .i64 tm, .int .i64 td] 61)
  have g0 := heap_alloc_new w (.cells #[.int .i64 3, .int .i64 mo, .int .i64 n, .int .i64 wk, .int .i64 fy, .int .i64 fm, .int .i64 fd, .int .i64 ty, .int .i64 tm, .int .i64 td] 61)
  obtain ⟨w1, hw1⟩ : ∃ w1, w.alloc (.cells #[.int .i64 3, .int .i64 mo, .int .i64 n, .int .i64 wk, .int .i64 fy, .int .i64 fm, .int .i64 fd, .int .i64 ty, .int .i64 tm, .int .i64 td] 61) = w1 := ⟨_, rfl⟩
  rw [hw1] at hbl g0
  have hlt : w.heap.size < w1.heap.size := by rw [← hw1]; simp
  have HSS := Lib.hid (show ∀ W, Below w1.heap.size w1 W → W.cell? ⟨w.heap.size, 1, none⟩ = some (.int .i64 mo) ∧ W.cell? ⟨w.heap.size, 2, none⟩ = some (.int .i64 n) ∧ W.cell? ⟨w.heap.size, 3, none⟩ = some (.int .i64 wk) ∧ W.cell? ⟨w.heap.size, 4, none⟩ = some (.int .i64 fy) ∧ W.cell? ⟨w.heap.size, 5, none⟩ = some (.int .i64 fm) ∧ W.cell? ⟨w.heap.size, 6, none⟩ = some (.int .i64 fd) ∧ W.cell? ⟨w.heap.size, 7, none⟩ = some (.int .i64 ty) ∧ W.cell? ⟨w.heap.size, 8, none⟩ = some (.int .i64 tm) ∧ W.cell? ⟨w.heap.size, 9, none⟩ = some (.int .i64 td) from fun W hb =>
    have g := (hb.block _ hlt).trans g0
    ⟨cell_blk g 1 rfl, cell_blk g 2 rfl, cell_blk g 3 rfl, cell_blk g 4 rfl, cell_blk g 5 rfl, cell_blk g 6 rfl, cell_blk g 7 rfl, cell_blk g 8 rfl, cell_blk g 9 rfl⟩)
  have HB := Lib.hid hbl
  have HW := Lib.hid hw1
  have hbd := below_dr w1
  clear hbl g0 hw1 hlt
  have eF := eqlD fy fm fd
  have eT := eqlD ty tm td
  have HMf := Lib.hid (fun W => refDMay_any fy fm fd W)
  have HMt := Lib.hid (fun W => refDMay_any ty tm td W)
  have HDf := Lib.hid (fun W h => refDnr_any fy fm fd W h)
  have HDt := Lib.hid (fun W h => refDnr_any ty tm td W h)
  unfold dt at eF eT HMf HMt HDf HDt
  have hFo : okD fy fm fd = true → z3 fy fm fd = false := fun h => decide_eq_false (fun hz => by
    obtain ⟨i1, e1, _, _⟩ := okD_is h
    have := i1.m1
    omega)
  generalize z3 fy fm fd = F at *
  generalize z3 ty tm td = T at *
  generalize okD fy fm fd = of at *
  generalize okD ty tm td = ot at *
  generalize dnr fy fm fd = nf at *
  generalize dnr ty tm td = nt at *
  obtain ⟨a1, ha1⟩ : ∃ b, decide (0 ≤ mo) = b := ⟨_, rfl⟩
  obtain ⟨b1, hb1⟩ : ∃ b, decide (0 ≤ wk) = b := ⟨_, rfl⟩
  obtain ⟨c1, hc1⟩ : ∃ b, (mo == 0) = b := ⟨_, rfl⟩
  obtain ⟨c2, hc2⟩ : ∃ b, (n == 0) = b := ⟨_, rfl⟩
  obtain ⟨c3, hc3⟩ : ∃ b, (wk == 0) = b := ⟨_, rfl⟩
  obtain ⟨y1, hy1⟩ : ∃ b, decide (0 ≤ fy) = b := ⟨_, rfl⟩
  obtain ⟨y2, hy2⟩ : ∃ b, decide (ty ≤ 9999) = b := ⟨_, rfl⟩
  rw [hc1, hc2, hc3, hy1, hy2] at HR
  have q1 : c1 = false ∨ (c1 = true ∧ a1 = true) := by
    cases c1
    · exact .inl rfl
    · have := of_decide_eq_true (p := mo = 0) hc1
      exact .inr ⟨rfl, by rw [← ha1, this]; rfl⟩
  have q3 : c3 = false ∨ (c3 = true ∧ b1 = true) := by
    cases c3
    · exact .inl rfl
    · have := of_decide_eq_true (p := wk = 0) hc3
      exact .inr ⟨rfl, by rw [← hb1, this]; rfl⟩
  have e1 : c1 = true ∧ a1 = true := by rw [← hc1, ← ha1, h1]; exact ⟨rfl, rfl⟩
  have e2 : c2 = true := by rw [← hc2, h2]; rfl
  have e3 : c3 = true ∧ b1 = true := by rw [← hc3, ← hb1, h3]; exact ⟨rfl, rfl⟩
  obtain ⟨rfl, rfl⟩ := e1
  subst e2
  obtain ⟨rfl, rfl⟩ := e3
  subst h4
  clear q1 q3 h1 h2 h3 hFo
  have hS0 := HSS.out _ hbd
  unfold rv
  simp only
  cases F
  all_goals
    go_enter Tryz.func32, Tryz.ntmps32
    go_wp2_with fail
    rw [HW.out]
    first
    | go_region_with (first
        | (go_at_call 60
           with_reducible refine (HMf.out _).mono ?_
           rintro e w4 ⟨rfl, hb4⟩
           have hb4' : Below w1.heap.size w1 w4 := hbd.trans (hb4.mono hbd.size)
           have hS1 := HSS.out _ hb4'
           clear hS0
           clear hb4 hbd)
        | (go_at_call 60
           with_reducible refine (HMt.out _).mono ?_
           rintro e w5 ⟨rfl, hb5⟩
           have hbd : Below w1.heap.size w1 w5 := hb4'.trans (hb5.mono hb4'.size)
           have hS0 := HSS.out _ hbd
           clear hS1
           clear hb5 hb4'))
    | fail
    all_goals
      go_wp2_with fail
      go_ret
      first
      | exact ⟨ret_bool HR.out.symm, HB.out.trans (hbd.mono HB.out.size)⟩
      | exact ⟨ret_bool HR.out.symm, HB.out.trans (hb4'.mono HB.out.size)⟩

end Go.Proofs.YtlogapkpllgdcaaGreatDoor

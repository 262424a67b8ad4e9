/- Contracts: means, and isIn's closures that read. -/
import Derived.Test.YtlogapkpllgdcaaGreatDoorPdCh
import Derived.Test.YtlogapkpllgdcaaGreatDoorMa7
import Derived.Test.YtlogapkpllgdcaaGreatDoorRlE
namespace Go.Proofs.YtlogapkpllgdcaaGreatDoor
open Go.RowKit

theorem date_ex3 (a : Int) : ∃ p : Int × Nat × Int, Is p.1 p.2.1 p.2.2 ∧ nr p.1 p.2.1 p.2.2 = a := by
  obtain ⟨y, m, d, h⟩ := date_ex a
  exact ⟨(y, m, d), h⟩
/-- Whether a rule means a day. -/
noncomputable def hitD (r : Rl) (a : Int) : Bool := hitsR r (date_ex3 a).choose.1 (date_ex3 a).choose.2.1 (date_ex3 a).choose.2.2 a
theorem hitD_eq {r : Rl} {y : Int} {m : Nat} {d a : Int} (hi : Is y m d) (hn : nr y m d = a) : hitD r a = hitsR r y m d a := by
  obtain ⟨h1, h2⟩ := (date_ex3 a).choose_spec
  unfold hitD
  generalize (date_ex3 a).choose = p at *
  obtain ⟨e1, e2, e3⟩ := nr_one h1 hi (by rw [h2, hn])
  rw [e1, e2, e3]
/-- Whether an entry has a second of a day. -/
noncomputable def hitE (a : Int) (j : Nat) (e : Ent) : Bool := e.sp.any (fun s => inS s j) && hitD e.r a
set_option maxRecDepth 100000 in
set_option maxHeartbeats 1000000 in
theorem means_any (r : Rl) (a : Int) (w : World) (ht : Tab w) (ha1 : -70368744177664 ≤ a) (ha2 : a ≤ 70368744177664) (h : mayR r = true) :
    Calls Tryz.prog 43 #[rv r, .int .i64 a] w fun e w' => e = .returned (.bool (hitD r a)) ∧ Below w.heap.size w w' := by
  obtain ⟨y, m, d, hi, hn⟩ := date_ex a
  rw [hitD_eq hi hn]
  have hb := (Below.refl w.heap.size w).alloc (Nat.le_refl _) (.cells (rcs r) 66)
  have HM := Lib.hid (match_yes r y m d a (w.alloc (.cells (rcs r) 66)) (ht.below hb) hi hn ha1 ha2 h)
  have HB := Lib.hid hb
  generalize hitsR r y m d a = b at *
  clear hb ht hi hn h
  obtain ⟨k, mo, n, wk, fy, fm, fd, ty, tm, td⟩ := r
  unfold rv at *
  simp only at *
  cases b
  all_goals
    go_enter Tryz.func43, Tryz.ntmps43
    go_wp2_with fail
    refine HM.out.mono ?_
    rintro e w1 ⟨rfl, hb1⟩
    have HB1 := Lib.hid (HB.out.trans (hb1.mono HB.out.size))
    clear hb1
    go_wp2_with fail
    go_ret
    exact ⟨rfl, HB1.out⟩
set_option maxHeartbeats 400000 in
theorem holds_any (x : Spn) (j bM : Nat) (w : World) (c0 : w.cell? ⟨bM, 1, none⟩ = some (.int .i64 j)) :
    Calls Tryz.prog 40 #[.agg #[.int .i64 x.f, .int .i64 x.t], .pointer (some ⟨bM, 0, none⟩)] w fun e w' => e = .returned (.bool (inS x j)) ∧ Below w.heap.size w w' := by
  have H : Hid (inS x j = (decide (x.f ≤ (j : Int)) && decide ((j : Int) < x.t))) := rfl
  generalize inS x j = b at *
  obtain ⟨f, t⟩ := x
  simp only at *
  have hb := (Below.refl w.heap.size w).alloc (Nat.le_refl _) (.cells #[.int .i64 f, .int .i64 t] 51)
  have c1 := cell_below c0 hb
  have HB := Lib.hid hb
  clear hb
  by_cases h1 : f ≤ (j : Int)
  · have d1 : decide (f ≤ (j : Int)) = true := decide_eq_true h1
    by_cases h2 : (j : Int) < t
    · have d2 : decide ((j : Int) < t) = true := decide_eq_true h2
      go_enter Tryz.func40, Tryz.ntmps40
      go_wp2_with fail
      go_ret
      exact ⟨ret_bool (by rw [H.out, d1, d2]; rfl), HB.out⟩
    · have d2 : decide ((j : Int) < t) = false := decide_eq_false h2
      go_enter Tryz.func40, Tryz.ntmps40
      go_wp2_with fail
      go_ret
      exact ⟨ret_bool (by rw [H.out, d1, d2]; rfl), HB.out⟩
  · have d1 : decide (f ≤ (j : Int)) = false := decide_eq_false h1
    go_enter Tryz.func40, Tryz.ntmps40
    go_wp2_with fail
    go_ret
    exact ⟨ret_bool (by rw [H.out, d1]; rfl), HB.out⟩
theorem ent_holds : Ent1 40 := enters_of Tryz.func40 (by kernel_rfl) rfl
set_option maxRecDepth 100000 in
set_option maxHeartbeats 1000000 in
theorem hasE_any (e : Ent) (s : Value) (j bM pH : Nat) (day : Int) (w : World) (ht : Tab w) (hs : HSp w s e.sp) (hl : e.sp.length ≤ 1000000) (hm : mayR e.r = true) (ha1 : -70368744177664 ≤ day) (ha2 : day ≤ 70368744177664)
    (c0 : w.cell? ⟨bM, 0, none⟩ = some (.int .i64 day)) (c1 : w.cell? ⟨bM, 1, none⟩ = some (.int .i64 j)) (c2 : w.cell? ⟨pH, 0, none⟩ = some (.func (.func 40) #[] #[.pointer (some ⟨bM, 0, none⟩)])) :
    Calls Tryz.prog 41 #[env e.r s, .pointer (some ⟨pH, 0, none⟩), .pointer (some ⟨bM, 0, none⟩)] w fun e' w' => e' = .returned (.bool (hitE day j e)) ∧ Below w.heap.size w w' := by
  have hb := (Below.refl w.heap.size w).alloc (Nat.le_refl _) (.cells (encs e.r s) 68)
  have HF := Lib.hid (anyS 40 #[.pointer (some ⟨bM, 0, none⟩)] (w.alloc (.cells (encs e.r s) 68)) ent_holds (fun x => inS x j) hl (hs.below hb) (fun y W' _ hW => holds_any y j bM W' (cell_below (cell_below c1 hb) hW)))
  have HM := Lib.hid (fun W (hW : Below w.heap.size w W) => means_any e.r day W (ht.below hW) ha1 ha2 hm)
  have k2 := cell_below c2 hb
  have HK := Lib.hid (fun W (hW : Below w.heap.size w W) => cell_below c0 hW)
  have G0 := Lib.hid (heap_alloc_new w (.cells (encs e.r s) 68))
  have HB := Lib.hid hb
  have H : Hid (hitE day j e = (e.sp.any (fun s => inS s j) && hitD e.r day)) := rfl
  generalize hitE day j e = b at *
  generalize hitD e.r day = y at *
  obtain ⟨x, hx⟩ : ∃ x, e.sp.any (fun s => inS s j) = x := ⟨_, rfl⟩
  rw [hx] at H HF
  clear hb ht hs hl hm c0 c1 c2 hx
  obtain ⟨r, sp⟩ := e
  obtain ⟨k, mo, n, wk, fy, fm, fd, ty, tm, td⟩ := r
  unfold rv at HM
  unfold env
  simp only at *
  cases x
  · go_enter Tryz.func41, Tryz.ntmps41
    go_wp2_with fail
    refine HF.out.mono ?_
    rintro e w1 ⟨rfl, hb1⟩
    have HB1 := Lib.hid (HB.out.trans (hb1.mono HB.out.size))
    clear hb1
    go_wp2_with fail
    go_ret
    exact ⟨ret_bool (by rw [H.out]; rfl), HB1.out⟩
  · go_enter Tryz.func41, Tryz.ntmps41
    go_wp2_with fail
    refine HF.out.mono ?_
    rintro e w1 ⟨rfl, hb1⟩
    have HB1 := Lib.hid (HB.out.trans (hb1.mono HB.out.size))
    have g1 := (hb1.block w.heap.size (by simp)).trans G0.out
    have K0 := cell_blk g1 0 (v := .int .i64 k) rfl
    have K1 := cell_blk g1 1 (v := .int .i64 mo) rfl
    have K2 := cell_blk g1 2 (v := .int .i64 n) rfl
    have K3 := cell_blk g1 3 (v := .int .i64 wk) rfl
    have K4 := cell_blk g1 4 (v := .int .i64 fy) rfl
    have K5 := cell_blk g1 5 (v := .int .i64 fm) rfl
    have K6 := cell_blk g1 6 (v := .int .i64 fd) rfl
    have K7 := cell_blk g1 7 (v := .int .i64 ty) rfl
    have K8 := cell_blk g1 8 (v := .int .i64 tm) rfl
    have K9 := cell_blk g1 9 (v := .int .i64 td) rfl
    have KP := HK.out _ HB1.out
    clear hb1 g1
    go_wp2_with fail
    refine (HM.out _ HB1.out).mono ?_
    rintro e w2 ⟨rfl, hb2⟩
    have HB2 := Lib.hid (HB1.out.trans (hb2.mono HB1.out.size))
    clear hb2
    go_wp2_with fail
    go_ret
    exact ⟨ret_bool (by rw [H.out]; rfl), HB2.out⟩
theorem ent_hasE : Ent1 41 := enters_of Tryz.func41 (by kernel_rfl) rfl
end Go.Proofs.YtlogapkpllgdcaaGreatDoor

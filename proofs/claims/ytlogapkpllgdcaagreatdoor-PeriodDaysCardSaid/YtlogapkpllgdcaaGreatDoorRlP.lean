/- Contract: the document's May of rules. -/
import Derived.Test.YtlogapkpllgdcaaGreatDoorRlO
namespace Go.Proofs.YtlogapkpllgdcaaGreatDoor
open Go.RowKit

/-- The document's words, in its order. -/
def mayD (r : Rl) : Bool :=
  if r.k = 0 then ((((decide (0 ≤ r.wk) && decide (r.wk ≤ 6)) && (z3 r.fy r.fm r.fd && z3 r.ty r.tm r.td)) && (r.mo == 0)) && (r.n == 0))
  else if r.k = 1 then ((((decide (0 ≤ r.mo) && decide (r.mo ≤ 12)) && placeR r.n 31) && (z3 r.fy r.fm r.fd && z3 r.ty r.tm r.td)) && (r.wk == 0))
  else if r.k = 2 then ((((decide (0 ≤ r.mo) && decide (r.mo ≤ 12)) && placeR r.n 5) && (decide (0 ≤ r.wk) && decide (r.wk ≤ 6))) && (z3 r.fy r.fm r.fd && z3 r.ty r.tm r.td))
  else if r.k = 3 then ((((((((r.mo == 0) && (r.n == 0)) && (r.wk == 0)) && okD r.fy r.fm r.fd) && okD r.ty r.tm r.td) && decide (0 ≤ r.fy)) && decide (r.ty ≤ 9999)) && decide (dnr r.fy r.fm r.fd ≤ dnr r.ty r.tm r.td))
  else false
theorem years_asc {fy fm fd ty tm td : Int} (h1 : okD fy fm fd = true) (h2 : okD ty tm td = true) (h3 : dnr fy fm fd ≤ dnr ty tm td) : fy ≤ ty := by
  obtain ⟨i1, _, _, _⟩ := okD_is h1
  obtain ⟨i2, _, _, _⟩ := okD_is h2
  have a := (nr_in i1).1
  have b := (nr_in i2).2
  unfold dnr at h3
  rcases Int.lt_or_le ty fy with h | h
  · have := bgn_le (show ty + 1 ≤ fy by omega)
    omega
  · exact h
theorem mayD_is (r : Rl) : mayD r = mayR r := by
  obtain ⟨k, mo, n, wk, fy, fm, fd, ty, tm, td⟩ := r
  rw [Bool.eq_iff_iff, mayR_iff]
  unfold mayD ownR fitsR
  simp only
  by_cases h0 : k = 0
  · subst h0
    simp only [if_true, Bool.and_eq_true, decide_eq_true_eq, beq_iff_eq, z3, inW, Rl.mk.injEq]
    constructor
    · rintro ⟨⟨⟨⟨a1, a2⟩, ⟨a4, a5, a6⟩, a7, a8, a9⟩, a10⟩, a11⟩
      exact ⟨⟨trivial, a10, a11, trivial, a4, a5, a6, a7, a8, a9⟩, a1, a2⟩
    · rintro ⟨⟨_, a10, a11, _, a4, a5, a6, a7, a8, a9⟩, a1, a2⟩
      exact ⟨⟨⟨⟨a1, a2⟩, ⟨a4, a5, a6⟩, a7, a8, a9⟩, a10⟩, a11⟩
  · by_cases h1 : k = 1
    · subst h1
      simp only [show ((1 : Int) = 0) = False by simp, if_true, if_false, Bool.and_eq_true, decide_eq_true_eq, beq_iff_eq, z3, inW, Rl.mk.injEq]
      constructor
      · rintro ⟨⟨⟨⟨a1, a2⟩, a3⟩, ⟨a4, a5, a6⟩, a7, a8, a9⟩, a10⟩
        exact ⟨⟨trivial, trivial, trivial, a10, a4, a5, a6, a7, a8, a9⟩, ⟨a1, a2⟩, a3⟩
      · rintro ⟨⟨_, _, _, a10, a4, a5, a6, a7, a8, a9⟩, ⟨a1, a2⟩, a3⟩
        exact ⟨⟨⟨⟨a1, a2⟩, a3⟩, ⟨a4, a5, a6⟩, a7, a8, a9⟩, a10⟩
    · by_cases h2 : k = 2
      · subst h2
        simp only [show ((2 : Int) = 0) = False by simp, show ((2 : Int) = 1) = False by simp, if_true, if_false, Bool.and_eq_true, decide_eq_true_eq, z3, inW, Rl.mk.injEq]
        constructor
        · rintro ⟨⟨⟨⟨a1, a2⟩, a3⟩, b1, b2⟩, ⟨a4, a5, a6⟩, a7, a8, a9⟩
          exact ⟨⟨trivial, trivial, trivial, trivial, a4, a5, a6, a7, a8, a9⟩, ⟨⟨a1, a2⟩, a3⟩, b1, b2⟩
        · rintro ⟨⟨_, _, _, _, a4, a5, a6, a7, a8, a9⟩, ⟨⟨a1, a2⟩, a3⟩, b1, b2⟩
          exact ⟨⟨⟨⟨a1, a2⟩, a3⟩, b1, b2⟩, ⟨a4, a5, a6⟩, a7, a8, a9⟩
      · by_cases h3 : k = 3
        · subst h3
          simp only [show ((3 : Int) = 0) = False by simp, show ((3 : Int) = 1) = False by simp, show ((3 : Int) = 2) = False by simp, if_true, if_false, Bool.and_eq_true, decide_eq_true_eq, beq_iff_eq, inW, Rl.mk.injEq]
          constructor
          · rintro ⟨⟨⟨⟨⟨⟨⟨a1, a2⟩, a3⟩, a4⟩, a5⟩, a6⟩, a7⟩, a8⟩
            have := years_asc a4 a5 a8
            exact ⟨⟨trivial, a1, a2, a3, trivial, trivial, trivial, trivial, trivial, trivial⟩, ⟨⟨⟨a4, a5⟩, a8⟩, a6, by omega⟩, by omega, a7⟩
          · rintro ⟨⟨_, a1, a2, a3, _⟩, ⟨⟨⟨a4, a5⟩, a8⟩, a6, _⟩, _, a7⟩
            exact ⟨⟨⟨⟨⟨⟨⟨a1, a2⟩, a3⟩, a4⟩, a5⟩, a6⟩, a7⟩, a8⟩
        · simp only [if_neg h0, if_neg h1, if_neg h2, if_neg h3, Rl.nil, Rl.mk.injEq]
          simp [h0]
set_option maxRecDepth 100000 in
set_option maxHeartbeats 4000000 in
theorem refMay0 (mo n wk fy fm fd ty tm td : Int) (w : World) :
    Calls Tryz.prog 32 #[rv ⟨0, mo, n, wk, fy, fm, fd, ty, tm, td⟩] w fun e w' => e = .returned (.bool (mayD ⟨0, mo, n, wk, fy, fm, fd, ty, tm, td⟩)) ∧ Below w.heap.size w w' := by
  have HR : Hid (mayD ⟨0, mo, n, wk, fy, fm, fd, ty, tm, td⟩ = ((((decide (0 ≤ wk) && decide (wk ≤ 6)) && (z3 fy fm fd && z3 ty tm td)) && (mo == 0)) && (n == 0))) := rfl
  generalize mayD ⟨0, mo, n, wk, fy, fm, fd, ty, tm, td⟩ = res at *
  have HB := Lib.hid (((Below.refl w.heap.size w).alloc (Nat.le_refl _) (.cells #[.int .i64 0, .int .i64 mo, .int .i64 n, .int .i64 wk, .int .i64 fy, .int .i64 fm, .int .i64 fd, .int .i64 ty, .int .i64 tm, .int .i64 td] 61)))
  have eF := eqlD fy fm fd
  have eT := eqlD ty tm td
  unfold dt at eF eT
  generalize z3 fy fm fd = F at *
  generalize z3 ty tm td = T at *
  obtain ⟨a1, ha1⟩ : ∃ b, decide (0 ≤ mo) = b := ⟨_, rfl⟩
  obtain ⟨b1, hb1⟩ : ∃ b, decide (0 ≤ wk) = b := ⟨_, rfl⟩
  obtain ⟨b2, hb2⟩ : ∃ b, decide (wk ≤ 6) = b := ⟨_, rfl⟩
  obtain ⟨c1, hc1⟩ : ∃ b, (mo == 0) = b := ⟨_, rfl⟩
  rw [hb1, hb2, hc1] at HR
  have hc : (b1 = false ∧ F = false) ∨ (b1 = false ∧ F = true) ∨ (b1 = true ∧ b2 = false ∧ F = false) ∨ (b1 = true ∧ b2 = false ∧ F = true) ∨ (b1 = true ∧ b2 = true ∧ F = false) ∨ (b1 = true ∧ b2 = true ∧ F = true ∧ T = false) ∨ (b1 = true ∧ b2 = true ∧ F = true ∧ T = true ∧ c1 = false) ∨ (b1 = true ∧ b2 = true ∧ F = true ∧ T = true ∧ c1 = true) := by
    cases b1 <;> cases b2 <;> cases F <;> cases T <;> cases c1 <;> simp
  unfold rv
  simp only
  cases a1 <;> rcases hc with ⟨rfl, rfl⟩ | ⟨rfl, rfl⟩ | ⟨rfl, rfl, rfl⟩ | ⟨rfl, rfl, rfl⟩ | ⟨rfl, rfl, rfl⟩ | ⟨rfl, rfl, rfl, rfl⟩ | ⟨rfl, rfl, rfl, rfl, rfl⟩ | ⟨rfl, rfl, rfl, rfl, rfl⟩
  all_goals
    go_enter Tryz.func32, Tryz.ntmps32
    go_wp2_with fail
    go_ret
    exact ⟨ret_bool HR.out.symm, HB.out⟩
set_option maxRecDepth 100000 in
set_option maxHeartbeats 4000000 in
theorem refMay1 (mo n wk fy fm fd ty tm td : Int) (w : World) :
    Calls Tryz.prog 32 #[rv ⟨1, mo, n, wk, fy, fm, fd, ty, tm, td⟩] w fun e w' => e = .returned (.bool (mayD ⟨1, mo, n, wk, fy, fm, fd, ty, tm, td⟩)) ∧ Below w.heap.size w w' := by
  have HR : Hid (mayD ⟨1, mo, n, wk, fy, fm, fd, ty, tm, td⟩ = ((((decide (0 ≤ mo) && decide (mo ≤ 12)) && placeR n 31) && (z3 fy fm fd && z3 ty tm td)) && (wk == 0))) := rfl
  generalize mayD ⟨1, mo, n, wk, fy, fm, fd, ty, tm, td⟩ = res at *
  have hbl := (Below.refl w.heap.size w).alloc (Nat.le_refl _) (.cells #[.int .i64 1, .int .i64 mo, .int .i64 n, .int .i64 wk, .int .i64 fy, .int .i64 fm, .int .i64 fd, .int .i64 ty, .int .i64 tm, .int .i64 td] 61)
  have HN := Lib.hid (near_any n 31 (w.alloc (.cells #[.int .i64 1, .int .i64 mo, .int .i64 n, .int .i64 wk, .int .i64 fy, .int .i64 fm, .int .i64 fd, .int .i64 ty, .int .i64 tm, .int .i64 td] 61)) (by omega) (by omega))
  generalize placeR n 31 = P at *
  have HB := Lib.hid hbl
  clear hbl
  have eF := eqlD fy fm fd
  have eT := eqlD ty tm td
  unfold dt at eF eT
  generalize z3 fy fm fd = F at *
  generalize z3 ty tm td = T at *
  obtain ⟨a1, ha1⟩ : ∃ b, decide (0 ≤ mo) = b := ⟨_, rfl⟩
  obtain ⟨a2, ha2⟩ : ∃ b, decide (mo ≤ 12) = b := ⟨_, rfl⟩
  obtain ⟨b1, hb1⟩ : ∃ b, decide (0 ≤ wk) = b := ⟨_, rfl⟩
  rw [ha1, ha2] at HR
  have hc : (a1 = false ∧ F = false) ∨ (a1 = false ∧ F = true) ∨ (a1 = true ∧ a2 = false ∧ F = false) ∨ (a1 = true ∧ a2 = false ∧ F = true) ∨ (a1 = true ∧ a2 = true ∧ P = false ∧ F = false) ∨ (a1 = true ∧ a2 = true ∧ P = false ∧ F = true) ∨ (a1 = true ∧ a2 = true ∧ P = true ∧ F = false) ∨ (a1 = true ∧ a2 = true ∧ P = true ∧ F = true ∧ T = false) ∨ (a1 = true ∧ a2 = true ∧ P = true ∧ F = true ∧ T = true) := by
    cases a1 <;> cases a2 <;> cases P <;> cases F <;> cases T <;> simp
  unfold rv
  simp only
  cases b1 <;> rcases hc with ⟨rfl, rfl⟩ | ⟨rfl, rfl⟩ | ⟨rfl, rfl, rfl⟩ | ⟨rfl, rfl, rfl⟩ | ⟨rfl, rfl, rfl, rfl⟩ | ⟨rfl, rfl, rfl, rfl⟩ | ⟨rfl, rfl, rfl, rfl⟩ | ⟨rfl, rfl, rfl, rfl, rfl⟩ | ⟨rfl, rfl, rfl, rfl, rfl⟩
  all_goals
    go_enter Tryz.func32, Tryz.ntmps32
    go_wp2_with fail
    try (refine HN.out.mono ?_
         rintro e w1 ⟨rfl, rfl⟩
         go_wp2_with fail)
    go_ret
    exact ⟨ret_bool HR.out.symm, HB.out⟩
set_option maxRecDepth 100000 in
set_option maxHeartbeats 4000000 in
theorem refMay2 (mo n wk fy fm fd ty tm td : Int) (w : World) :
    Calls Tryz.prog 32 #[rv ⟨2, mo, n, wk, fy, fm, fd, ty, tm, td⟩] w fun e w' => e = .returned (.bool (mayD ⟨2, mo, n, wk, fy, fm, fd, ty, tm, td⟩)) ∧ Below w.heap.size w w' := by
  have HR : Hid (mayD ⟨2, mo, n, wk, fy, fm, fd, ty, tm, td⟩ = ((((decide (0 ≤ mo) && decide (mo ≤ 12)) && placeR n 5) && (decide (0 ≤ wk) && decide (wk ≤ 6))) && (z3 fy fm fd && z3 ty tm td))) := rfl
  generalize mayD ⟨2, mo, n, wk, fy, fm, fd, ty, tm, td⟩ = res at *
  have hbl := (Below.refl w.heap.size w).alloc (Nat.le_refl _) (.cells #[.int .i64 2, .int .i64 mo, .int .i64 n, .int .i64 wk, .int .i64 fy, .int .i64 fm, .int .i64 fd, .int .i64 ty, .int .i64 tm, .int .i64 td] 61)
  have HN := Lib.hid (near_any n 5 (w.alloc (.cells #[.int .i64 2, .int .i64 mo, .int .i64 n, .int .i64 wk, .int .i64 fy, .int .i64 fm, .int .i64 fd, .int .i64 ty, .int .i64 tm, .int .i64 td] 61)) (by omega) (by omega))
  generalize placeR n 5 = P at *
  have HB := Lib.hid hbl
  clear hbl
  have eF := eqlD fy fm fd
  have eT := eqlD ty tm td
  unfold dt at eF eT
  generalize z3 fy fm fd = F at *
  generalize z3 ty tm td = T at *
  obtain ⟨a1, ha1⟩ : ∃ b, decide (0 ≤ mo) = b := ⟨_, rfl⟩
  obtain ⟨a2, ha2⟩ : ∃ b, decide (mo ≤ 12) = b := ⟨_, rfl⟩
  obtain ⟨b1, hb1⟩ : ∃ b, decide (0 ≤ wk) = b := ⟨_, rfl⟩
  obtain ⟨b2, hb2⟩ : ∃ b, decide (wk ≤ 6) = b := ⟨_, rfl⟩
  rw [ha1, ha2, hb1, hb2] at HR
  have hc : (a1 = false ∧ b1 = false ∧ F = false) ∨ (a1 = false ∧ b1 = false ∧ F = true) ∨ (a1 = false ∧ b1 = true ∧ F = false) ∨ (a1 = false ∧ b1 = true ∧ F = true) ∨ (a1 = true ∧ a2 = false ∧ b1 = false ∧ F = false) ∨ (a1 = true ∧ a2 = false ∧ b1 = false ∧ F = true) ∨ (a1 = true ∧ a2 = false ∧ b1 = true ∧ F = false) ∨ (a1 = true ∧ a2 = false ∧ b1 = true ∧ F = true) ∨ (a1 = true ∧ a2 = true ∧ P = false ∧ b1 = false ∧ F = false) ∨ (a1 = true ∧ a2 = true ∧ P = false ∧ b1 = false ∧ F = true) ∨ (a1 = true ∧ a2 = true ∧ P = false ∧ b1 = true ∧ F = false) ∨ (a1 = true ∧ a2 = true ∧ P = false ∧ b1 = true ∧ F = true) ∨ (a1 = true ∧ a2 = true ∧ P = true ∧ b1 = false ∧ F = false) ∨ (a1 = true ∧ a2 = true ∧ P = true ∧ b1 = true ∧ b2 = false ∧ F = false) ∨ (a1 = true ∧ a2 = true ∧ P = true ∧ b1 = true ∧ b2 = true ∧ F = false) ∨ (a1 = true ∧ a2 = true ∧ P = true ∧ b1 = false ∧ F = true) ∨ (a1 = true ∧ a2 = true ∧ P = true ∧ b1 = true ∧ b2 = false ∧ F = true) ∨ (a1 = true ∧ a2 = true ∧ P = true ∧ b1 = true ∧ b2 = true ∧ F = true) := by
    cases a1 <;> cases a2 <;> cases P <;> cases b1 <;> cases b2 <;> cases F <;> simp
  unfold rv
  simp only
  rcases hc with ⟨rfl, rfl, rfl⟩ | ⟨rfl, rfl, rfl⟩ | ⟨rfl, rfl, rfl⟩ | ⟨rfl, rfl, rfl⟩ | ⟨rfl, rfl, rfl, rfl⟩ | ⟨rfl, rfl, rfl, rfl⟩ | ⟨rfl, rfl, rfl, rfl⟩ | ⟨rfl, rfl, rfl, rfl⟩ | ⟨rfl, rfl, rfl, rfl, rfl⟩ | ⟨rfl, rfl, rfl, rfl, rfl⟩ | ⟨rfl, rfl, rfl, rfl, rfl⟩ | ⟨rfl, rfl, rfl, rfl, rfl⟩ | ⟨rfl, rfl, rfl, rfl, rfl⟩ | ⟨rfl, rfl, rfl, rfl, rfl, rfl⟩ | ⟨rfl, rfl, rfl, rfl, rfl, rfl⟩ | ⟨rfl, rfl, rfl, rfl, rfl⟩ | ⟨rfl, rfl, rfl, rfl, rfl, rfl⟩ | ⟨rfl, rfl, rfl, rfl, rfl, rfl⟩
  all_goals
    go_enter Tryz.func32, Tryz.ntmps32
    go_wp2_with fail
    try (refine HN.out.mono ?_
         rintro e w1 ⟨rfl, rfl⟩
         go_wp2_with fail)
    go_ret
    exact ⟨ret_bool HR.out.symm, HB.out⟩
set_option maxRecDepth 100000 in
set_option maxHeartbeats 4000000 in
theorem refMay4 (k mo n wk fy fm fd ty tm td : Int) (w : World) (h0 : k ≠ 0) (h1 : k ≠ 1) (h2 : k ≠ 2) (h3 : k ≠ 3) :
    Calls Tryz.prog 32 #[rv ⟨k, mo, n, wk, fy, fm, fd, ty, tm, td⟩] w fun e w' => e = .returned (.bool false) ∧ Below w.heap.size w w' := by
  have HB := Lib.hid ((Below.refl w.heap.size w).alloc (Nat.le_refl _) (.cells #[.int .i64 k, .int .i64 mo, .int .i64 n, .int .i64 wk, .int .i64 fy, .int .i64 fm, .int .i64 fd, .int .i64 ty, .int .i64 tm, .int .i64 td] 61))
  have eF := eqlD fy fm fd
  have eT := eqlD ty tm td
  unfold dt at eF eT
  generalize z3 fy fm fd = F at *
  generalize z3 ty tm td = T at *
  have d0 : (k == 0) = false := beq_eq_false_iff_ne.2 h0
  have d1 : (k == 1) = false := beq_eq_false_iff_ne.2 h1
  have d2 : (k == 2) = false := beq_eq_false_iff_ne.2 h2
  have d3 : (k == 3) = false := beq_eq_false_iff_ne.2 h3
  clear h0 h1 h2 h3
  obtain ⟨a1, ha1⟩ : ∃ b, decide (0 ≤ mo) = b := ⟨_, rfl⟩
  obtain ⟨b1, hb1⟩ : ∃ b, decide (0 ≤ wk) = b := ⟨_, rfl⟩
  unfold rv
  simp only
  cases a1 <;> cases b1 <;> cases F
  all_goals
    go_enter Tryz.func32, Tryz.ntmps32
    go_wp2_with fail
    go_ret
    exact ⟨rfl, HB.out⟩
end Go.Proofs.YtlogapkpllgdcaaGreatDoor

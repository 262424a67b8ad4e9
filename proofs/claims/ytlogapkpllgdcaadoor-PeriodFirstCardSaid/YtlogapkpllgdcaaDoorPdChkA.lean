/- Contracts: the closures by which Check finds what is too long, wrong, or none of the periods. -/
import Derived.Test.YtlogapkpllgdcaaDoorPdMem
import Derived.Shelf.Abstract
namespace Go.Proofs.YtlogapkpllgdcaaDoor
open Go.RowKit

set_option maxHeartbeats 400000 in
theorem isOne_any (A : Option Addr) (n c : Nat) (x : Int) (w : World) :
    Calls Tryd.prog 36 #[.slice A n c, .int .i64 x] w fun e w' => e = .returned (.bool (isOneB n x)) ∧ w = w' := by
  have H : Hid (isOneB n x = (decide (0 ≤ x) && decide (x < n))) := rfl
  generalize isOneB n x = b at *
  by_cases h1 : 0 ≤ x
  · by_cases h2 : x < n
    all_goals
      go_enter Tryd.func36, Tryd.ntmps36
      go_wp2
      go_ret
      exact ⟨ret_bool (by rw [H.out]; simp [h1, h2]), rfl⟩
  · go_enter Tryd.func36, Tryd.ntmps36
    go_wp2
    go_ret
    exact ⟨ret_bool (by rw [H.out, show decide (0 ≤ x) = false from decide_eq_false (by omega)]; rfl), rfl⟩
set_option maxHeartbeats 400000 in
theorem isNone_any (p : Addr) (A : Option Addr) (n c : Nat) (x : Int) (w : World) (hc : w.cell? p = some (.slice A n c)) :
    Calls Tryd.prog 49 #[.int .i64 x, .pointer (some p)] w fun e w' => e = .returned (.bool (!isOneB n x)) ∧ w = w' := by
  have HX := Lib.hid (isOne_any A n c x w)
  generalize isOneB n x = b at *
  go_enter Tryd.func49, Tryd.ntmps49
  go_wp2_with fail
  refine HX.out.mono ?_
  rintro e w' ⟨rfl, rfl⟩
  go_wp2_with fail
  go_ret
  exact ⟨rfl, rfl⟩
theorem ent_isNone : Ent1 49 := enters_of Tryd.func49 (by kernel_rfl) rfl
set_option maxHeartbeats 400000 in
theorem exNone_any (p p1 : Addr) (A : Option Addr) (n c : Nat) (x : Prd) (s u : Value) (w : World) (hc : w.cell? p = some (.slice A n c)) (h1 : w.cell? p1 = some (.func (.func 49) #[] #[.pointer (some p)]))
    (hu : HIn w u x.ex) (hl : x.ex.length ≤ 1000000) :
    Calls Tryd.prog 50 #[.agg #[s, u], .pointer (some p1)] w fun e w' => e = .returned (.bool (noneP n x)) ∧ Below w.heap.size w w' := by
  have hb := (Below.refl w.heap.size w).alloc (Nat.le_refl _) (.cells #[s, u] 62)
  have HX := Lib.hid (anyI 49 #[.pointer (some p)] (w.alloc (.cells #[s, u] 62)) ent_isNone (fun x => !isOneB n x) hl (hu.below hb) (fun y W _ hW => (isNone_any p A n c y W (cell_below (cell_below hc hb) hW)).mono fun e W' ⟨he, hw⟩ => ⟨he, hw ▸ Below.refl _ _⟩))
  have HB := Lib.hid hb
  have k1 := cell_below h1 hb
  have HN : Hid (noneP n x = x.ex.any fun x => !isOneB n x) := rfl
  rw [← HN.out] at HX
  generalize noneP n x = b at *
  clear hb hc hu hl h1
  go_enter Tryd.func50, Tryd.ntmps50
  go_wp2_with fail
  refine HX.out.mono ?_
  rintro e w' ⟨rfl, hb⟩
  have HB2 := Lib.hid (HB.out.trans (hb.mono HB.out.size))
  clear hb
  go_wp2_with fail
  go_ret
  exact ⟨rfl, HB2.out⟩

set_option maxHeartbeats 400000 in
theorem longE_any (e : Ent) (s : Value) (w : World) (hs : HSp w s e.sp) :
    Calls Tryd.prog 64 #[env e.r s] w fun e' w' => e' = .returned (.bool (longE e)) ∧ Below w.heap.size w w' := by
  obtain ⟨A, c, rfl, _, _, _⟩ := hs
  have H : Hid (longE e = decide (32 < e.sp.length)) := rfl
  generalize longE e = b at *
  generalize e.sp.length = n at *
  unfold env
  by_cases h : 32 < n
  · have hd : decide (32 < (n : Int)) = true := decide_eq_true (by omega)
    go_enter Tryd.func64, Tryd.ntmps64
    go_wp2_with fail
    go_ret
    exact ⟨ret_bool (by rw [H.out]; simp [h]), (Below.refl _ _).alloc (Nat.le_refl _) _⟩
  · have hd : decide (32 < (n : Int)) = false := decide_eq_false (by omega)
    go_enter Tryd.func64, Tryd.ntmps64
    go_wp2_with fail
    go_ret
    exact ⟨ret_bool (by rw [H.out]; simp [h]), (Below.refl _ _).alloc (Nat.le_refl _) _⟩
theorem ent_longE : Ent1 64 := enters_of Tryd.func64 (by kernel_rfl) rfl
set_option maxHeartbeats 1000000 in
theorem longP_any (x : Prd) (s u : Value) (w : World) (hs : HEn w s x.es) (hu : HIn w u x.ex) :
    Calls Tryd.prog 52 #[.agg #[s, u]] w fun e w' => e = .returned (.bool (longP x)) ∧ Below w.heap.size w w' := by
  have hb := (Below.refl w.heap.size w).alloc (Nat.le_refl _) (.cells #[s, u] 62)
  have HX := Lib.hid (fun hl => anyE 64 #[] (w.alloc (.cells #[s, u] 62)) ent_longE longE hl (hs.below hb) (fun y sv W _ hsp _ => longE_any y sv W hsp))
  have HB := Lib.hid hb
  obtain ⟨A, c, S, rfl, _, _, _⟩ := hs
  obtain ⟨A', c', rfl, _, _, _⟩ := hu
  have H : Hid (longP x = (decide (64 < x.es.length) || (decide (64 < x.ex.length) || x.es.any longE))) := rfl
  generalize longP x = b at *
  generalize x.es.any longE = y at *
  generalize x.es.length = n at *
  generalize x.ex.length = m at *
  clear hb
  by_cases h : 64 < n
  · have hd : decide (64 < (n : Int)) = true := decide_eq_true (by omega)
    go_enter Tryd.func52, Tryd.ntmps52
    go_wp2_with fail
    go_ret
    exact ⟨ret_bool (by rw [H.out]; simp [h]), HB.out⟩
  · have hd : decide (64 < (n : Int)) = false := decide_eq_false (by omega)
    by_cases h' : 64 < m
    · have hd' : decide (64 < (m : Int)) = true := decide_eq_true (by omega)
      go_enter Tryd.func52, Tryd.ntmps52
      go_wp2_with fail
      go_ret
      exact ⟨ret_bool (by rw [H.out]; simp [h']), HB.out⟩
    · have hd' : decide (64 < (m : Int)) = false := decide_eq_false (by omega)
      have HX' := Lib.hid (HX.out (by omega))
      clear HX
      go_enter Tryd.func52, Tryd.ntmps52
      go_wp2_with fail
      refine HX'.out.mono ?_
      rintro e w' ⟨rfl, hb⟩
      have HB2 := Lib.hid (HB.out.trans (hb.mono HB.out.size))
      clear hb
      go_wp2_with fail
      go_ret
      exact ⟨ret_bool (by rw [H.out]; simp [h, h']), HB2.out⟩
theorem ent_longP : Ent1 52 := enters_of Tryd.func52 (by kernel_rfl) rfl
set_option maxHeartbeats 400000 in
theorem badS_any (x : Spn) (w : World) :
    Calls Tryd.prog 65 #[.agg #[.int .i64 x.f, .int .i64 x.t]] w fun e w' => e = .returned (.bool (badS x)) ∧ Below w.heap.size w w' := by
  have H : Hid (badS x = (decide (x.f < 0) || (decide (86400 < x.t) || decide (x.t ≤ x.f)))) := rfl
  generalize badS x = b at *
  obtain ⟨f, t⟩ := x
  simp only at *
  have HB := Lib.hid ((Below.refl w.heap.size w).alloc (Nat.le_refl _) (.cells #[.int .i64 f, .int .i64 t] 41))
  rcases (show f < 0 ∨ (0 ≤ f ∧ 86400 < t) ∨ (0 ≤ f ∧ t ≤ 86400) by omega) with h | ⟨h, h'⟩ | ⟨h, h'⟩
  · have d1 : decide (f < 0) = true := decide_eq_true (by omega)
    go_enter Tryd.func65, Tryd.ntmps65
    go_wp2_with fail
    go_ret
    exact ⟨ret_bool (by rw [H.out]; simp [h]), HB.out⟩
  · have d1 : decide (f < 0) = false := decide_eq_false (by omega)
    have d2 : decide (86400 < t) = true := decide_eq_true (by omega)
    go_enter Tryd.func65, Tryd.ntmps65
    go_wp2_with fail
    go_ret
    exact ⟨ret_bool (by rw [H.out]; simp [h']), HB.out⟩
  · have d1 : decide (f < 0) = false := decide_eq_false (by omega)
    have d2 : decide (86400 < t) = false := decide_eq_false (by omega)
    by_cases h3 : t ≤ f
    · have d3 : decide (t ≤ f) = true := decide_eq_true (by omega)
      go_enter Tryd.func65, Tryd.ntmps65
      go_wp2_with fail
      go_ret
      exact ⟨ret_bool (by rw [H.out]; simp [h3]), HB.out⟩
    · have d3 : decide (t ≤ f) = false := decide_eq_false (by omega)
      go_enter Tryd.func65, Tryd.ntmps65
      go_wp2_with fail
      go_ret
      exact ⟨ret_bool (by rw [H.out, d1, d2, d3]; rfl), HB.out⟩
theorem ent_badS : Ent1 65 := enters_of Tryd.func65 (by kernel_rfl) rfl
end Go.Proofs.YtlogapkpllgdcaaDoor

/- PdChkA, PdChkB, in one text. -/
import Derived.Test.YtlogapkpllgdcaaGreatDoorPdMem
import Derived.Shelf.Abstract
import Derived.Test.YtlogapkpllgdcaaGreatDoorRlC
import Derived.Laws.EntriesVeiled
/- Contracts: the closures by which Check finds what is too long, wrong, or none of the periods. -/
namespace Go.Proofs.YtlogapkpllgdcaaGreatDoor
open Go.RowKit

set_option maxHeartbeats 400000 in
theorem isOne_any (A : Option Addr) (n c : Nat) (x : Int) (w : World) :
    Calls Tryz.prog 25 #[.slice A n c, .int .i64 x] w fun e w' => e = .returned (.bool (isOneB n x)) ∧ w = w' := by
  have H : Hid (isOneB n x = (decide (0 ≤ x) && decide (x < n))) := rfl
  generalize isOneB n x = b at *
  by_cases h1 : 0 ≤ x
  · by_cases h2 : x < n
    all_goals
      go_enter Tryz.func25, Tryz.ntmps25
      go_wp2
      go_ret
      exact ⟨ret_bool (by rw [H.out]; simp [h1, h2]), rfl⟩
  · go_enter Tryz.func25, Tryz.ntmps25
    go_wp2
    go_ret
    exact ⟨ret_bool (by rw [H.out, show decide (0 ≤ x) = false from decide_eq_false (by omega)]; rfl), rfl⟩
set_option maxHeartbeats 400000 in
theorem isNone_any (p : Addr) (A : Option Addr) (n c : Nat) (x : Int) (w : World) (hc : w.cell? p = some (.slice A n c)) :
    Calls Tryz.prog 24 #[.int .i64 x, .pointer (some p)] w fun e w' => e = .returned (.bool (!isOneB n x)) ∧ w = w' := by
  have HX := Lib.hid (isOne_any A n c x w)
  generalize isOneB n x = b at *
  go_enter Tryz.func24, Tryz.ntmps24
  go_wp2_with fail
  refine HX.out.mono ?_
  rintro e w' ⟨rfl, rfl⟩
  go_wp2_with fail
  go_ret
  exact ⟨rfl, rfl⟩
theorem ent_isNone : Ent1 24 := enters_of Tryz.func24 (by kernel_rfl) rfl
set_option maxHeartbeats 400000 in
theorem exNone_any (p p1 : Addr) (A : Option Addr) (n c : Nat) (x : Prd) (s u : Value) (w : World) (hc : w.cell? p = some (.slice A n c)) (h1 : w.cell? p1 = some (.func (.func 24) #[] #[.pointer (some p)]))
    (hu : HIn w u x.ex) (hl : x.ex.length ≤ 1000000) :
    Calls Tryz.prog 26 #[.agg #[s, u], .pointer (some p1)] w fun e w' => e = .returned (.bool (noneP n x)) ∧ Below w.heap.size w w' := by
  have hb := (Below.refl w.heap.size w).alloc (Nat.le_refl _) (.cells #[s, u] 71)
  have HX := Lib.hid (anyI 24 #[.pointer (some p)] (w.alloc (.cells #[s, u] 71)) ent_isNone (fun x => !isOneB n x) hl (hu.below hb) (fun y W _ hW => (isNone_any p A n c y W (cell_below (cell_below hc hb) hW)).mono fun e W' ⟨he, hw⟩ => ⟨he, hw ▸ Below.refl _ _⟩))
  have HB := Lib.hid hb
  have k1 := cell_below h1 hb
  have HN : Hid (noneP n x = x.ex.any fun x => !isOneB n x) := rfl
  rw [← HN.out] at HX
  generalize noneP n x = b at *
  clear hb hc hu hl h1
  go_enter Tryz.func26, Tryz.ntmps26
  go_wp2_with fail
  refine HX.out.mono ?_
  rintro e w' ⟨rfl, hb⟩
  have HB2 := Lib.hid (HB.out.trans (hb.mono HB.out.size))
  clear hb
  go_wp2_with fail
  go_ret
  exact ⟨rfl, HB2.out⟩

set_option maxHeartbeats 400000 in
theorem longE_any (e : Ent) (s : Value) (w : World) (hs : HSp w s e.sp) :
    Calls Tryz.prog 54 #[env e.r s] w fun e' w' => e' = .returned (.bool (longE e)) ∧ Below w.heap.size w w' := by
  obtain ⟨A, c, rfl, _, _, _⟩ := hs
  have H : Hid (longE e = decide (32 < e.sp.length)) := rfl
  generalize longE e = b at *
  generalize e.sp.length = n at *
  unfold env
  by_cases h : 32 < n
  · have hd : decide (32 < (n : Int)) = true := decide_eq_true (by omega)
    go_enter Tryz.func54, Tryz.ntmps54
    go_wp2_with fail
    go_ret
    exact ⟨ret_bool (by rw [H.out]; simp [h]), (Below.refl _ _).alloc (Nat.le_refl _) _⟩
  · have hd : decide (32 < (n : Int)) = false := decide_eq_false (by omega)
    go_enter Tryz.func54, Tryz.ntmps54
    go_wp2_with fail
    go_ret
    exact ⟨ret_bool (by rw [H.out]; simp [h]), (Below.refl _ _).alloc (Nat.le_refl _) _⟩
theorem ent_longE : Ent1 54 := enters_of Tryz.func54 (by kernel_rfl) rfl
set_option maxHeartbeats 1000000 in
theorem longP_any (x : Prd) (s u : Value) (w : World) (hs : HEn w s x.es) (hu : HIn w u x.ex) :
    Calls Tryz.prog 29 #[.agg #[s, u]] w fun e w' => e = .returned (.bool (longP x)) ∧ Below w.heap.size w w' := by
  have hb := (Below.refl w.heap.size w).alloc (Nat.le_refl _) (.cells #[s, u] 71)
  have HX := Lib.hid (fun hl => anyE 54 #[] (w.alloc (.cells #[s, u] 71)) ent_longE longE hl (hs.below hb) (fun y sv W _ hsp _ => longE_any y sv W hsp))
  have HB := Lib.hid hb
  obtain ⟨A, c, S, rfl, _, _, _⟩ := hs
  obtain ⟨A', c', rfl, _, _, _⟩ := hu
  have H : Hid (longP x = (decide (64 < x.es.length) || (decide (64 < x.ex.length) || x.es.any longE))) := rfl
  generalize longP x = b at *
  generalize x.es.any longE = y at *
  generalize x.es.length = n at *
  generalize x.ex.length = m at *
  clear hb
  by_cases h : 64 < n
  · have hd : decide (64 < (n : Int)) = true := decide_eq_true (by omega)
    go_enter Tryz.func29, Tryz.ntmps29
    go_wp2_with fail
    go_ret
    exact ⟨ret_bool (by rw [H.out]; simp [h]), HB.out⟩
  · have hd : decide (64 < (n : Int)) = false := decide_eq_false (by omega)
    by_cases h' : 64 < m
    · have hd' : decide (64 < (m : Int)) = true := decide_eq_true (by omega)
      go_enter Tryz.func29, Tryz.ntmps29
      go_wp2_with fail
      go_ret
      exact ⟨ret_bool (by rw [H.out]; simp [h']), HB.out⟩
    · have hd' : decide (64 < (m : Int)) = false := decide_eq_false (by omega)
      have HX' := Lib.hid (HX.out (by omega))
      clear HX
      go_enter Tryz.func29, Tryz.ntmps29
      go_wp2_with fail
      refine HX'.out.mono ?_
      rintro e w' ⟨rfl, hb⟩
      have HB2 := Lib.hid (HB.out.trans (hb.mono HB.out.size))
      clear hb
      go_wp2_with fail
      go_ret
      exact ⟨ret_bool (by rw [H.out]; simp [h, h']), HB2.out⟩
theorem ent_longP : Ent1 29 := enters_of Tryz.func29 (by kernel_rfl) rfl
set_option maxHeartbeats 400000 in
theorem badS_any (x : Spn) (w : World) :
    Calls Tryz.prog 55 #[.agg #[.int .i64 x.f, .int .i64 x.t]] w fun e w' => e = .returned (.bool (badS x)) ∧ Below w.heap.size w w' := by
  have H : Hid (badS x = (decide (x.f < 0) || (decide (86400 < x.t) || decide (x.t ≤ x.f)))) := rfl
  generalize badS x = b at *
  obtain ⟨f, t⟩ := x
  simp only at *
  have HB := Lib.hid ((Below.refl w.heap.size w).alloc (Nat.le_refl _) (.cells #[.int .i64 f, .int .i64 t] 51))
  rcases (show f < 0 ∨ (0 ≤ f ∧ 86400 < t) ∨ (0 ≤ f ∧ t ≤ 86400) by omega) with h | ⟨h, h'⟩ | ⟨h, h'⟩
  · have d1 : decide (f < 0) = true := decide_eq_true (by omega)
    go_enter Tryz.func55, Tryz.ntmps55
    go_wp2_with fail
    go_ret
    exact ⟨ret_bool (by rw [H.out]; simp [h]), HB.out⟩
  · have d1 : decide (f < 0) = false := decide_eq_false (by omega)
    have d2 : decide (86400 < t) = true := decide_eq_true (by omega)
    go_enter Tryz.func55, Tryz.ntmps55
    go_wp2_with fail
    go_ret
    exact ⟨ret_bool (by rw [H.out]; simp [h']), HB.out⟩
  · have d1 : decide (f < 0) = false := decide_eq_false (by omega)
    have d2 : decide (86400 < t) = false := decide_eq_false (by omega)
    by_cases h3 : t ≤ f
    · have d3 : decide (t ≤ f) = true := decide_eq_true (by omega)
      go_enter Tryz.func55, Tryz.ntmps55
      go_wp2_with fail
      go_ret
      exact ⟨ret_bool (by rw [H.out]; simp [h3]), HB.out⟩
    · have d3 : decide (t ≤ f) = false := decide_eq_false (by omega)
      go_enter Tryz.func55, Tryz.ntmps55
      go_wp2_with fail
      go_ret
      exact ⟨ret_bool (by rw [H.out, d1, d2, d3]; rfl), HB.out⟩
theorem ent_badS : Ent1 55 := enters_of Tryz.func55 (by kernel_rfl) rfl
end Go.Proofs.YtlogapkpllgdcaaGreatDoor
/- Contracts: isWrong; what finds loops. -/
namespace Go.Proofs.YtlogapkpllgdcaaGreatDoor
open Go.RowKit

/-- The cells of an entry's box. -/
abbrev encs (r : Rl) (s : Value) : Array Value := #[.int .i64 r.k, .int .i64 r.mo, .int .i64 r.n, .int .i64 r.wk, .int .i64 r.fy, .int .i64 r.fm, .int .i64 r.fd, .int .i64 r.ty, .int .i64 r.tm, .int .i64 r.td, s]
set_option maxRecDepth 100000 in
set_option maxHeartbeats 1000000 in
theorem wrongE_any (p : Addr) (e : Ent) (s : Value) (w : World) (ht : Tab w) (hs : HSp w s e.sp) (hl : e.sp.length ≤ 1000000) (hp : w.cell? p = some (.func (.func 55) #[] #[])) :
    Calls Tryz.prog 56 #[env e.r s, .pointer (some p)] w fun e' w' => e' = .returned (.bool (wrongE e)) ∧ Below w.heap.size w w' := by
  have hb := (Below.refl w.heap.size w).alloc (Nat.le_refl _) (.cells (encs e.r s) 68)
  have HC := Lib.hid (check_any e.r (w.alloc (.cells (encs e.r s) 68)) (ht.below hb))
  have HF := Lib.hid (fun W (hW : Below w.heap.size w W) => anyS 55 #[] W ent_badS badS hl (hs.below hW) (fun y W' _ _ => badS_any y W'))
  have HK := Lib.hid (fun W (hW : Below w.heap.size w W) => cell_below hp hW)
  have G0 := Lib.hid (heap_alloc_new w (.cells (encs e.r s) 68))
  have HB := Lib.hid hb
  have H : Hid (wrongE e = (!mayR e.r || e.sp.any badS)) := rfl
  generalize wrongE e = b at *
  generalize e.sp.any badS = y at *
  clear hb ht hs hl hp
  obtain ⟨r, sp⟩ := e
  obtain ⟨k, mo, n, wk, fy, fm, fd, ty, tm, td⟩ := r
  unfold rv at HC
  unfold env
  simp only at *
  cases hm : mayR ⟨k, mo, n, wk, fy, fm, fd, ty, tm, td⟩
  · rw [hm] at HC
    unfold errE errK at HC
    simp only [Bool.false_eq_true, if_false] at HC
    go_enter Tryz.func56, Tryz.ntmps56
    go_wp2_with fail
    refine HC.out.mono ?_
    rintro e w1 ⟨rfl, hb1⟩
    have HB1 := Lib.hid (HB.out.trans (hb1.mono HB.out.size))
    clear hb1
    go_wp2_with fail
    go_ret
    exact ⟨ret_bool (by rw [H.out, hm]; rfl), HB1.out⟩
  · rw [hm, if_pos rfl, errE_zero] at HC
    go_enter Tryz.func56, Tryz.ntmps56
    go_wp2_with fail
    refine HC.out.mono ?_
    rintro e w1 ⟨rfl, hb1⟩
    have HB1 := Lib.hid (HB.out.trans (hb1.mono HB.out.size))
    have K10 := cell_blk ((hb1.block w.heap.size (by simp)).trans G0.out) 10 (v := s) rfl
    have KP := HK.out _ HB1.out
    clear hb1
    go_wp2_with fail
    refine (HF.out _ HB1.out).mono ?_
    rintro e w2 ⟨rfl, hb2⟩
    have HB2 := Lib.hid (HB1.out.trans (hb2.mono HB1.out.size))
    clear hb2
    go_wp2_with fail
    go_ret
    exact ⟨ret_bool (by rw [H.out, hm]; rfl), HB2.out⟩
theorem ent_wrongE : Ent1 56 := enters_of Tryz.func56 (by kernel_rfl) rfl
set_option maxRecDepth 100000 in
set_option maxHeartbeats 1000000 in
theorem wrongP_any (x : Prd) (s u : Value) (w : World) (ht : Tab w) (hs : HEn w s x.es) (hl : x.es.length ≤ 1000000) (hl2 : ∀ e ∈ x.es, e.sp.length ≤ 1000000) :
    Calls Tryz.prog 30 #[.agg #[s, u]] w fun e w' => e = .returned (.bool (wrongP x)) ∧ Below w.heap.size w w' := by
  have hb0 := (Below.refl w.heap.size w).alloc (Nat.le_refl _) (.cells #[s, u] 71)
  have hb := hb0.alloc hb0.size (.cells #[.func (.func 55) #[] #[]] 101)
  have g1 := cell_blk (heap_new2 w (.cells #[s, u] 71) (.cells #[.func (.func 55) #[] #[]] 101)) 0 rfl
  have HX := Lib.hid (anyE 56 #[.pointer (some ⟨w.heap.size + 1, 0, none⟩)] _ ent_wrongE wrongE hl (hs.below hb) (fun y sv W hy hsp hW => wrongE_any ⟨w.heap.size + 1, 0, none⟩ y sv W (ht.below (hb.trans (hW.mono hb.size))) hsp (hl2 y hy) (cell_below g1 hW)))
  have HB := Lib.hid hb
  have H : Hid (wrongP x = x.es.any wrongE) := rfl
  rw [← H.out] at HX
  generalize wrongP x = b at *
  clear hb hb0 ht hs hl hl2 g1
  go_enter Tryz.func30, Tryz.ntmps30
  go_wp2_with fail
  refine HX.out.mono ?_
  rintro e w' ⟨rfl, hb⟩
  have HB2 := Lib.hid (HB.out.trans (hb.mono HB.out.size))
  clear hb
  go_wp2_with fail
  go_ret
  exact ⟨rfl, HB2.out⟩
theorem ent_wrongP : Ent1 30 := enters_of Tryz.func30 (by kernel_rfl) rfl
end Go.Proofs.YtlogapkpllgdcaaGreatDoor

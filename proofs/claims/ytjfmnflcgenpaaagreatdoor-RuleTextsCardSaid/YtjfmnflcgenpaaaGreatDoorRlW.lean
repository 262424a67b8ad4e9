/- Contract: the document's dates. Its Parse: the words, plain. -/
import Derived.Test.YtjfmnflcgenpaaaGreatDoorRlV
import Derived.Test.YtjfmnflcgenpaaaGreatDoorRlL
import Derived.LoopN
namespace Go.Proofs.YtjfmnflcgenpaaaGreatDoor
open Go.RowKit

theorem cutAt_le (c : UInt8) : ∀ (l p : List UInt8), p ∈ cutAt c l → p.length ≤ l.length
  | [], p, h => by
    rw [cutAt, List.mem_singleton] at h
    rw [h]
    exact Nat.le_refl _
  | b :: l, p, h => by
    by_cases hb : b = c
    · rw [hb, cutAt_self] at h
      rcases List.mem_cons.1 h with h | h
      · rw [h]; simp
      · have := cutAt_le c l p h
        simp only [List.length_cons]
        omega
    · obtain ⟨q, qs, h1, h2⟩ := cutAt_cons c b l hb
      have ih := cutAt_le c l
      rw [h1] at ih
      rw [h2] at h
      rcases List.mem_cons.1 h with h | h
      · rw [h]
        have := ih q (by simp)
        simp only [List.length_cons]
        omega
      · have := ih p (List.mem_cons_of_mem _ h)
        simp only [List.length_cons]
        omega
theorem dval_3 {l p0 p1 p2 : List UInt8} (h : cutAt 45 l = [p0, p1, p2]) : dval l = (numV p0, numV p1, numV p2) ∧ dok l = (numB p0 && (numB p1 && numB p2)) := by
  unfold dval dok
  rw [h]
  exact ⟨rfl, rfl⟩
theorem dval_no {l : List UInt8} (h : (cutAt 45 l).length ≠ 3) : dval l = (0, 0, 0) ∧ dok l = false := by
  unfold dval dok
  generalize cutAt 45 l = ps at *
  match ps, h with
  | [_, _, _], h => exact absurd rfl h
  | [], _ => exact ⟨rfl, rfl⟩
  | [_], _ => exact ⟨rfl, rfl⟩
  | [_, _], _ => exact ⟨rfl, rfl⟩
  | _ :: _ :: _ :: _ :: _, _ => exact ⟨rfl, rfl⟩
theorem list3 {α : Type} (l : List α) (h : l.length = 3) : ∃ a b c, l = [a, b, c] := by
  match l, h with
  | [a, b, c], _ => exact ⟨a, b, c, rfl⟩
theorem Rd.three {w : World} {a : Addr} {v0 v1 v2 : Value} (h : ∀ j v, ([v0, v1, v2] : List Value)[j]? = some v → w.cell? (a.add j) = some v) :
    w.cell? a = some v0 ∧ w.cell? { block := a.block, off := a.off + 1 } = some v1 ∧ w.cell? { block := a.block, off := a.off + 2 } = some v2 :=
  ⟨h 0 v0 rfl, h 1 v1 rfl, h 2 v2 rfl⟩
theorem ret_db {y m d y' m' d' : Int} {a b : Bool} (h1 : y = y') (h2 : m = m') (h3 : d = d') (h : a = b) : Ending.returned (.tuple #[.agg #[.int .i64 y, .int .i64 m, .int .i64 d], .bool a]) = .returned (.tuple #[.agg #[.int .i64 y', .int .i64 m', .int .i64 d'], .bool b]) := by rw [h1, h2, h3, h]
set_option maxRecDepth 100000 in
set_option maxHeartbeats 2000000 in
theorem dates_r (l : List UInt8) (w : World) (hl : l.length ≤ 1000) :
    Calls Tryz.prog 34 #[.string (str l)] w fun e w' => e = .returned (.tuple #[dt (dval l).1 (dval l).2.1 (dval l).2.2, .bool (dok l)]) ∧ Below w.heap.size w w' := by
  have HC := Lib.hid (fun W => cut_r l 45 45 W rfl hl)
  have HLE := Lib.hid (fun p hp => Nat.le_trans (cutAt_le 45 l p hp) hl)
  have hb0 := (Below.refl w.heap.size w).alloc (Nat.le_refl _) (.cells #[.int .i64 0, .int .i64 0, .int .i64 0] 23)
  have G0 := Lib.hid (heap_alloc_new w (.cells #[.int .i64 0, .int .i64 0, .int .i64 0] 23))
  have HB0 := Lib.hid hb0
  have hlt0 : w.heap.size < (w.alloc (.cells #[.int .i64 0, .int .i64 0, .int .i64 0] 23)).heap.size := by simp
  clear hb0
  by_cases h3 : (cutAt 45 l).length = 3
  · obtain ⟨p0, p1, p2, hp⟩ := list3 _ h3
    obtain ⟨e1, e2⟩ := dval_3 hp
    rw [e1, e2]
    have H0 := Lib.hid (fun W => number_r p0 W (HLE.out p0 (by rw [hp]; simp)))
    have H1 := Lib.hid (fun W => number_r p1 W (HLE.out p1 (by rw [hp]; simp)))
    have H2 := Lib.hid (fun W => number_r p2 W (HLE.out p2 (by rw [hp]; simp)))
    rw [hp] at HC
    clear h3 hp e1 e2 HLE hl
    generalize numV p0 = x0 at *
    generalize numV p1 = x1 at *
    generalize numV p2 = x2 at *
    generalize numB p0 = b0 at *
    generalize numB p1 = b1 at *
    generalize numB p2 = b2 at *
    have HCL : Hid (∀ (W : World) (ad : Addr), (∀ j v, (strL [p0, p1, p2])[j]? = some v → W.cell? (ad.add j) = some v) → W.cell? ad = some (.string (str p0)) ∧ W.cell? { block := ad.block, off := ad.off + 1 } = some (.string (str p1)) ∧ W.cell? { block := ad.block, off := ad.off + 2 } = some (.string (str p2))) := fun W ad h => Rd.three h
    have hlen : [p0, p1, p2].length = 3 := rfl
    have hlenL : (strL [p0, p1, p2]).length = 3 := rfl
    rw [hlen] at HC
    generalize str p0 = s0 at *
    generalize str p1 = s1 at *
    generalize str p2 = s2 at *
    unfold dt
    simp only
    cases b0 <;> cases b1
    all_goals
      go_enter Tryz.func34, Tryz.ntmps34
      go_wp2_with fail
      refine (HC.out _).mono ?_
      rintro e w1 ⟨A, cp, rfl, hb1, hrd⟩
      obtain ⟨ad, rfl, hcell⟩ := hrd (by rw [hlenL]; omega)
      obtain ⟨k0, k1, k2⟩ := HCL.out w1 ad hcell
      have HB1 := Lib.hid (HB0.out.trans (hb1.mono HB0.out.size))
      have hg1 := (hb1.block w.heap.size hlt0).trans G0.out
      have HG1 := Lib.hid hg1
      have r0 := cell_blk hg1 0 (v := .int .i64 0) rfl
      have r1 := cell_blk hg1 1 (v := .int .i64 0) rfl
      have r2 := cell_blk hg1 2 (v := .int .i64 0) rfl
      have f0 := frz_blk hg1 0
      have f1 := frz_blk hg1 1
      have f2 := frz_blk hg1 2
      clear hb1 hg1 hcell hrd
      go_wp2_with fail
      refine (H0.out _).mono ?_
      rintro e w' ⟨rfl, rfl⟩
      go_wp2_with fail
      refine (H1.out _).mono ?_
      rintro e w' ⟨rfl, rfl⟩
      go_wp2_with fail
      refine (H2.out _).mono ?_
      rintro e w' ⟨rfl, rfl⟩
      go_wp2_with fail
      refine bodyPost_ret (results_cell2 rfl _ _ w.heap.size _ _ (0, 0) _ rfl (set3 HG1.out) Tryz.underlying23 rfl (by kernel_rfl)) rfl ?_
      exact ⟨ret_db rfl rfl rfl rfl, below_set3 HB1.out (Nat.le_refl _)⟩
  · obtain ⟨e1, e2⟩ := dval_no h3
    rw [e1, e2]
    obtain ⟨n, hn⟩ : ∃ n, (cutAt 45 l).length = n := ⟨_, rfl⟩
    rw [hn] at h3 HC
    have d3 : ((n : Int) != 3) = true := by simp; omega
    have d4 : ((n : Int) == 3) = false := by rw [beq_eq_false_iff_ne]; omega
    clear hn e1 e2 HLE hl h3
    unfold dt
    simp only
    go_enter Tryz.func34, Tryz.ntmps34
    go_wp2_with fail
    refine (HC.out _).mono ?_
    rintro e w1 ⟨A, cp, rfl, hb1, hrd⟩
    have HB1 := Lib.hid (HB0.out.trans (hb1.mono HB0.out.size))
    have hg1 := (hb1.block w.heap.size hlt0).trans G0.out
    have HG1 := Lib.hid hg1
    have r0 := cell_blk hg1 0 (v := .int .i64 0) rfl
    have r1 := cell_blk hg1 1 (v := .int .i64 0) rfl
    have r2 := cell_blk hg1 2 (v := .int .i64 0) rfl
    have f0 := frz_blk hg1 0
    have f1 := frz_blk hg1 1
    have f2 := frz_blk hg1 2
    clear hb1 hg1 hrd
    go_wp2_with fail
    refine bodyPost_ret (results_cell2 rfl _ _ w.heap.size _ _ (0, 0) _ rfl (set3 HG1.out) Tryz.underlying23 rfl (by kernel_rfl)) rfl ?_
    exact ⟨ret_db rfl rfl rfl rfl, below_set3 HB1.out (Nat.le_refl _)⟩

/-- The pieces of a text, and which kind they are of. -/
theorem cutAt_pos (c : UInt8) (l : List UInt8) : ∃ p ps, cutAt c l = p :: ps := by
  rcases h : cutAt c l with _ | ⟨p, ps⟩
  · exact absurd h (cutAt_ne c l)
  · exact ⟨p, ps, rfl⟩
/-- What a text is, by its words. -/
inductive Kd (s : List UInt8) : Prop
  | k0 (a : List UInt8) (h : cutAt 32 s = [wW, a])
  | k1 (a b : List UInt8) (h : cutAt 32 s = [dW, a, b])
  | k2 (a b c : List UInt8) (h : cutAt 32 s = [nW, a, b, c])
  | k3 (a b : List UInt8) (h : cutAt 32 s = [tW, a, b])
  | no (h0 : ¬ ((cutAt 32 s).head? = some wW ∧ (cutAt 32 s).length = 2)) (h1 : ¬ ((cutAt 32 s).head? = some dW ∧ (cutAt 32 s).length = 3)) (h2 : ¬ ((cutAt 32 s).head? = some nW ∧ (cutAt 32 s).length = 4)) (h3 : ¬ ((cutAt 32 s).head? = some tW ∧ (cutAt 32 s).length = 3))
theorem kd_ex (s : List UInt8) : Kd s := by
  by_cases h0 : (cutAt 32 s).head? = some wW ∧ (cutAt 32 s).length = 2
  · obtain ⟨h, hl⟩ := h0
    match hc : cutAt 32 s, h, hl with
    | [p, a], h, _ => injection h with h; subst h; exact .k0 a hc
  · by_cases h1 : (cutAt 32 s).head? = some dW ∧ (cutAt 32 s).length = 3
    · obtain ⟨h, hl⟩ := h1
      match hc : cutAt 32 s, h, hl with
      | [p, a, b], h, _ => injection h with h; subst h; exact .k1 a b hc
    · by_cases h2 : (cutAt 32 s).head? = some nW ∧ (cutAt 32 s).length = 4
      · obtain ⟨h, hl⟩ := h2
        match hc : cutAt 32 s, h, hl with
        | [p, a, b, c], h, _ => injection h with h; subst h; exact .k2 a b c hc
      · by_cases h3 : (cutAt 32 s).head? = some tW ∧ (cutAt 32 s).length = 3
        · obtain ⟨h, hl⟩ := h3
          match hc : cutAt 32 s, h, hl with
          | [p, a, b], h, _ => injection h with h; subst h; exact .k3 a b hc
        · exact .no h0 h1 h2 h3
/-- What comes of the numbers of a text. -/
def may_or (ok : Bool) (r : Rl) : Option Rl := if ok = true then chkR r else none
theorem pr_k0 {s a : List UInt8} (h : cutAt 32 s = [wW, a]) : pr s = may_or (numB a) ⟨0, 0, 0, numV a, 0, 0, 0, 0, 0, 0⟩ := by
  unfold pr may_or
  rw [h]
  simp only [if_true]
  cases hb : numB a
  · rw [numB_none hb]; rfl
  · rw [numB_some hb]; rfl
theorem pr_k1 {s a b : List UInt8} (h : cutAt 32 s = [dW, a, b]) : pr s = may_or (numB a && numB b) ⟨1, numV a, numV b, 0, 0, 0, 0, 0, 0, 0⟩ := by
  unfold pr may_or
  rw [h]
  simp only [if_true]
  cases ha : numB a
  · rw [numB_none ha]; rfl
  · cases hb : numB b
    · rw [numB_some ha, numB_none hb]; rfl
    · rw [numB_some ha, numB_some hb]; rfl
theorem pr_k2 {s a b c : List UInt8} (h : cutAt 32 s = [nW, a, b, c]) : pr s = may_or (numB a && (numB b && numB c)) ⟨2, numV a, numV b, numV c, 0, 0, 0, 0, 0, 0⟩ := by
  unfold pr may_or
  rw [h]
  simp only [if_true]
  cases ha : numB a
  · rw [numB_none ha]; rfl
  · cases hb : numB b
    · rw [numB_some ha, numB_none hb]; rfl
    · cases hc : numB c
      · rw [numB_some ha, numB_some hb, numB_none hc]; rfl
      · rw [numB_some ha, numB_some hb, numB_some hc]; rfl
theorem pr_k3 {s a b : List UInt8} (h : cutAt 32 s = [tW, a, b]) : pr s = may_or (dok a && dok b) ⟨3, 0, 0, 0, (dval a).1, (dval a).2.1, (dval a).2.2, (dval b).1, (dval b).2.1, (dval b).2.2⟩ := by
  unfold pr may_or
  rw [h]
  simp only [show (tW = dW) = False by simp [tW, dW], if_false, if_true, prD_is]
  cases ha : dok a
  · rfl
  · cases hb : dok b
    · rfl
    · rfl
theorem pr_no {s : List UInt8} (h0 : ¬ ((cutAt 32 s).head? = some wW ∧ (cutAt 32 s).length = 2)) (h1 : ¬ ((cutAt 32 s).head? = some dW ∧ (cutAt 32 s).length = 3)) (h2 : ¬ ((cutAt 32 s).head? = some nW ∧ (cutAt 32 s).length = 4)) (h3 : ¬ ((cutAt 32 s).head? = some tW ∧ (cutAt 32 s).length = 3)) : pr s = none := by
  unfold pr
  generalize cutAt 32 s = ps at *
  match ps with
  | [] => rfl
  | [_] => rfl
  | [w, a] =>
    show (if w = wW then _ else _) = _
    rw [if_neg (fun e => h0 ⟨by rw [e]; rfl, rfl⟩)]
  | [w, a, b] =>
    show (if w = dW then _ else if w = tW then _ else _) = _
    rw [if_neg (fun e => h1 ⟨by rw [e]; rfl, rfl⟩), if_neg (fun e => h3 ⟨by rw [e]; rfl, rfl⟩)]
  | [w, a, b, c] =>
    show (if w = nW then _ else _) = _
    rw [if_neg (fun e => h2 ⟨by rw [e]; rfl, rfl⟩)]
  | _ :: _ :: _ :: _ :: _ :: _ => rfl
/-- The answer as values. -/
def ans2 (o : Option Rl) : Value := .tuple #[rv (ansR o).1, .bool o.isSome]
theorem ans2_none : ans2 none = .tuple #[.agg #[.int .i64 0, .int .i64 0, .int .i64 0, .int .i64 0, .int .i64 0, .int .i64 0, .int .i64 0, .int .i64 0, .int .i64 0, .int .i64 0], .bool false] := rfl
theorem ans2_some (r : Rl) : ans2 (some r) = .tuple #[rv r, .bool true] := rfl
theorem may_or_no (ok : Bool) (r : Rl) (h : ok = false ∨ mayR r = false) : may_or ok r = none := by
  unfold may_or chkR
  rcases h with h | h
  · rw [h]; rfl
  · rw [h]; split <;> rfl
theorem may_or_yes (ok : Bool) (r : Rl) (h : ok = true) (h2 : mayR r = true) : may_or ok r = some r := by
  unfold may_or chkR
  rw [h, h2]
  rfl
end Go.Proofs.YtjfmnflcgenpaaaGreatDoor

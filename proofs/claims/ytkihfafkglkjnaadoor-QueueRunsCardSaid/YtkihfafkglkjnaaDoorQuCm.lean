/- Contracts of layer 15's helpers: compare, keyOf, isEvent, above, beneath. -/
import Derived.Test.YtkihfafkglkjnaaDoorQuMp
import Derived.Deep.RegionHeld3
import Derived.Sort.Grow
namespace Go.Proofs.YtkihfafkglkjnaaDoor
open Go.RowKit

def cmI (x y : Int) : Int := if x < y then -1 else if y < x then 1 else 0
def orL : List Int → Int
  | [] => 0
  | x :: r => if x = 0 then orL r else x
def cmE (a b : Ev) : Int := orL [cmI a.1 b.1, cmI a.2.1 b.2.1, cmI a.2.2 b.2.2]
theorem cmI_zero {x y : Int} : cmI x y = 0 ↔ x = y := by
  unfold cmI
  split
  · constructor <;> intro h <;> omega
  · split
    · constructor <;> intro h <;> omega
    · constructor <;> intro h <;> omega
theorem cmI_neg {x y : Int} : cmI x y < 0 ↔ x < y := by
  unfold cmI
  split
  · constructor <;> intro h <;> omega
  · split
    · constructor <;> intro h <;> omega
    · constructor <;> intro h <;> omega
theorem cmE_neg (a b : Ev) : decide (cmE a b < 0) = ahE a b := by
  have h : cmE a b < 0 ↔ ahE a b = true := by
    rw [ahE_iff]
    unfold cmE orL orL orL orL
    by_cases h1 : cmI a.1 b.1 = 0
    · rw [if_pos h1]
      have e1 := cmI_zero.1 h1
      by_cases h2 : cmI a.2.1 b.2.1 = 0
      · rw [if_pos h2]
        have e2 := cmI_zero.1 h2
        by_cases h3 : cmI a.2.2 b.2.2 = 0
        · rw [if_pos h3]
          have e3 := cmI_zero.1 h3
          omega
        · rw [if_neg h3, cmI_neg]
          omega
      · rw [if_neg h2, cmI_neg]
        have e2 : ¬ a.2.1 = b.2.1 := fun e => h2 (cmI_zero.2 e)
        omega
    · rw [if_neg h1, cmI_neg]
      have e1 : ¬ a.1 = b.1 := fun e => h1 (cmI_zero.2 e)
      omega
  cases hr : ahE a b with
  | true => exact decide_eq_true (h.2 hr)
  | false => exact decide_eq_false (fun h2 => by rw [h.1 h2] at hr; cases hr)
theorem isNaNQ_any (x : Int) (w : World) : Calls Tryd.prog 56 #[.int .i64 x] w fun e w' => e = .returned (.bool false) ∧ w' = w := by
  go_enter Tryd.func56, Tryd.ntmps56
  go_wp2_with fail
  go_ret
  exact ⟨by simp, rfl⟩
set_option maxHeartbeats 1000000 in
theorem cmpI_any (x y : Int) (w : World) : Calls Tryd.prog 39 #[.int .i64 x, .int .i64 y] w fun e w' => e = .returned (.int .i64 (cmI x y)) ∧ w' = w := by
  have HN := Lib.hid (fun a W => isNaNQ_any a W)
  have hway : (x < y ∧ cmI x y = -1) ∨ (¬ x < y ∧ y < x ∧ cmI x y = 1) ∨ (¬ x < y ∧ ¬ y < x ∧ cmI x y = 0) := by
    unfold cmI
    by_cases h1 : x < y
    · exact .inl ⟨h1, if_pos h1⟩
    · by_cases h2 : y < x
      · exact .inr (.inl ⟨h1, h2, by rw [if_neg h1, if_pos h2]⟩)
      · exact .inr (.inr ⟨h1, h2, by rw [if_neg h1, if_neg h2]⟩)
  generalize cmI x y = r at *
  rcases hway with ⟨h1, rfl⟩ | ⟨h1, h2, rfl⟩ | ⟨h1, h2, rfl⟩
  all_goals
    go_enter Tryd.func39, Tryd.ntmps39
    go_wp2_with (first | (with_reducible refine (HN.out _ _).mono ?_; rintro e w' ⟨rfl, rfl⟩))
    go_ret
    exact ⟨rfl, rfl⟩
set_option maxRecDepth 100000 in
set_option maxHeartbeats 1000000 in
theorem orQ_any (A : Option Addr) (c : Nat) (xs : List Int) (n : Nat) (w : World) (hn : xs.length = n) (hl : n ≤ 1000) (hr : Rd w A (xs.map (Value.int .i64))) :
    Calls Tryd.prog 38 #[.slice A n c] w fun e w' => e = .returned (.int .i64 (orL xs)) ∧ w' = w := by
  obtain ⟨R, hR⟩ : ∃ R, orL xs = R := ⟨_, rfl⟩
  rw [hR]
  have H := Lib.hid (And.intro hr (And.intro hn hR))
  clear hr hn hR
  go_enter Tryd.func38, Tryd.ntmps38
  go_wp2_with fail
  go_loopw [8] (fun iv wr => ∃ i : Nat, iv = .int .i64 i ∧ i ≤ n ∧ wr = w ∧ orL (xs.drop i) = R) (fun iv _ => n - (intOf iv).toNat)
  case atStart => exact ⟨0, rfl, Nat.zero_le _, rfl, H.out.2.2⟩
  case round =>
    obtain ⟨i, rfl, hi, rfl, ho⟩ := hrel
    by_cases him : i < n
    · have q0 : (0 : Int) ≤ i := by omega
      have q1 : (i : Int) < n := by omega
      obtain ⟨ad, rfl, hc⟩ := H.out.1 (by rw [List.length_map, H.out.2.1]; omega)
      have hx := hc i (.int .i64 (xs[i]'(by rw [H.out.2.1]; exact him))) (by rw [List.getElem?_map, List.getElem?_eq_getElem]; rfl)
      rw [List.drop_eq_getElem_cons (by rw [H.out.2.1]; exact him)] at ho
      obtain ⟨x, hxe⟩ : ∃ x, xs[i]'(by rw [H.out.2.1]; exact him) = x := ⟨_, rfl⟩
      rw [hxe] at hx ho
      unfold orL at ho
      by_cases hz : x = 0
      · subst hz
        rw [if_pos rfl] at ho
        have HO := Lib.hid ho
        clear ho hc hxe
        go_wp2_with fail
        exact ⟨⟨i + 1, by go_num, him, trivial, HO.out⟩, by simp [intOf]; omega⟩
      · rw [if_neg hz] at ho
        subst ho
        clear hc hxe
        go_wp2_with fail
        go_ret
        exact ⟨rfl, rfl⟩
    · obtain rfl : n = i := by omega
      have q1 : ¬ (n : Int) < n := by omega
      rw [List.drop_eq_nil_of_le (by rw [H.out.2.1]; exact Nat.le_refl _)] at ho
      have ho2 : (0 : Int) = R := ho
      subst ho2
      clear ho
      go_wp2_with fail
      go_ret
      exact ⟨rfl, rfl⟩
/-- New blocks; some draws. -/
def Gw (w w' : World) : Prop := ∃ (q : Nat) (os : Array Obj), w' = Go.Sort.grow (w.drewN q) os
theorem Gw.refl (w : World) : Gw w w := ⟨0, #[], (Go.Sort.grow_empty _).symm⟩
theorem Gw.alloc {w w' : World} (h : Gw w w') (o : Obj) : Gw w (w'.alloc o) := by
  obtain ⟨q, os, rfl⟩ := h
  exact ⟨q, os ++ #[o], by rw [Go.Sort.alloc_eq_grow, Go.Sort.grow_grow]⟩
theorem Gw.drew {w w' : World} (h : Gw w w') : Gw w w'.drew := by
  obtain ⟨q, os, rfl⟩ := h
  exact ⟨q + 1, os, rfl⟩
theorem Gw.below {w w' : World} (h : Gw w w') : Below w.heap.size w w' := by
  obtain ⟨q, os, rfl⟩ := h
  refine ⟨rfl, rfl, rfl, ?_, fun k hk => ?_⟩
  · rw [Go.Sort.size_grow]
    show w.heap.size ≤ w.heap.size + _
    omega
  · exact Go.Sort.heap_grow_old _ _ hk
/-- Two events, in blocks that follow on one another. -/
def EvS (V : World) (s : Nat) (a b : Ev) : Prop := V.cell? ⟨s, 0, none⟩ = some (.int .i64 a.1) ∧ V.cell? ⟨s, 1, none⟩ = some (.int .i64 a.2.1) ∧ V.cell? ⟨s, 2, none⟩ = some (.int .i64 a.2.2) ∧ V.cell? ⟨s + 1, 0, none⟩ = some (.int .i64 b.1) ∧ V.cell? ⟨s + 1, 1, none⟩ = some (.int .i64 b.2.1) ∧ V.cell? ⟨s + 1, 2, none⟩ = some (.int .i64 b.2.2)
theorem EvS.of {W : World} {s : Nat} {a b : Ev} {t : TypeId} (h1 : W.heap[s]? = some (.cells #[.int .i64 a.1, .int .i64 a.2.1, .int .i64 a.2.2] t)) (h2 : W.heap[s + 1]? = some (.cells #[.int .i64 b.1, .int .i64 b.2.1, .int .i64 b.2.2] t)) : EvS W.drew s a b :=
  ⟨cell9_blk (w := W) h1 0 rfl, cell9_blk (w := W) h1 1 rfl, cell9_blk (w := W) h1 2 rfl, cell9_blk (w := W) h2 0 rfl, cell9_blk (w := W) h2 1 rfl, cell9_blk (w := W) h2 2 rfl⟩
theorem EvS.alloc {V : World} {s : Nat} {a b : Ev} (h : EvS V s a b) (o : Obj) : EvS (V.alloc o) s a b := by
  have hb : Below V.heap.size V (V.alloc o) := (Below.refl _ _).alloc (Nat.le_refl _) _
  exact ⟨cell9_below h.1 hb, cell9_below h.2.1 hb, cell9_below h.2.2.1 hb, cell9_below h.2.2.2.1 hb, cell9_below h.2.2.2.2.1 hb, cell9_below h.2.2.2.2.2 hb⟩
set_option maxRecDepth 100000 in
set_option maxHeartbeats 4000000 in
theorem compare_any (a b : Ev) (w : World) : Calls Tryd.prog 28 #[evV a, evV b] w fun e w' => e = .returned (.int .i64 (cmE a b)) ∧ Gw w w' := by
  obtain ⟨R, hR⟩ : ∃ R, cmE a b = R := ⟨_, rfl⟩
  rw [hR]
  obtain ⟨a1, a2, a3⟩ := a
  obtain ⟨b1, b2, b3⟩ := b
  unfold cmE at hR
  unfold evV
  dsimp only at hR ⊢
  obtain ⟨s, hs⟩ : ∃ s, w.heap.size = s := ⟨_, rfl⟩
  have HG := Lib.hid (((Gw.refl w).alloc (.cells #[.int .i64 a1, .int .i64 a2, .int .i64 a3] 38)).alloc (.cells #[.int .i64 b1, .int .i64 b2, .int .i64 b3] 38))
  obtain ⟨W1, hW1⟩ : ∃ W, w.alloc (.cells #[.int .i64 a1, .int .i64 a2, .int .i64 a3] 38) = W := ⟨_, rfl⟩
  obtain ⟨W2, hW2⟩ : ∃ W, W1.alloc (.cells #[.int .i64 b1, .int .i64 b2, .int .i64 b3] 38) = W := ⟨_, rfl⟩
  have hz1 : W1.heap.size = s + 1 := by rw [← hW1, World.size_alloc, hs]
  have g1 : W1.heap[s]? = some (.cells #[.int .i64 a1, .int .i64 a2, .int .i64 a3] 38) := by rw [← hW1, ← hs]; exact heap_alloc_new w _
  have g2 : W2.heap[s]? = some (.cells #[.int .i64 a1, .int .i64 a2, .int .i64 a3] 38) := by rw [← hW2]; exact (((Below.refl W1.heap.size W1).alloc (Nat.le_refl _) _).block s (by omega)).trans g1
  have g3 : W2.heap[s + 1]? = some (.cells #[.int .i64 b1, .int .i64 b2, .int .i64 b3] 38) := by rw [← hW2, ← hz1]; exact heap_alloc_new W1 _
  have HS2 := Lib.hid (And.intro g2 g3)
  have HC := Lib.hid (fun x y W => cmpI_any x y W)
  obtain ⟨x, hx⟩ : ∃ x, cmI a1 b1 = x := ⟨_, rfl⟩
  obtain ⟨y, hy⟩ : ∃ x, cmI a2 b2 = x := ⟨_, rfl⟩
  obtain ⟨z, hz⟩ : ∃ x, cmI a3 b3 = x := ⟨_, rfl⟩
  rw [hx, hy, hz] at hR
  have HCx := Lib.hid (fun W => by have h := cmpI_any a1 b1 W; rw [hx] at h; exact h)
  have HCy := Lib.hid (fun W => by have h := cmpI_any a2 b2 W; rw [hy] at h; exact h)
  have HCz := Lib.hid (fun W => by have h := cmpI_any a3 b3 W; rw [hz] at h; exact h)
  have HO := Lib.hid (fun (k : Nat) (W : World) (h : W.heap[k]? = some (.cells #[.int .i64 x, .int .i64 y, .int .i64 z] 3)) => by have h := orQ_any (some ⟨k, 0, none⟩) 3 [x, y, z] 3 W rfl (by omega) (Rd.block h); rw [hR] at h; exact h)
  clear g1 g2 g3 hx hy hz hR
  go_enter Tryd.func28, Tryd.ntmps28
  go_upto_region 1 with fail
  have HAl : Hid (∀ (V : World) (o : Obj), EvS V s (a1, a2, a3) (b1, b2, b3) → EvS (V.alloc o) s (a1, a2, a3) (b1, b2, b3)) := Lib.hid (fun V o h => h.alloc o)
  have HDr := Lib.hid (EvS.of HS2.out.1 HS2.out.2 : EvS W2.drew s (a1, a2, a3) (b1, b2, b3))
  have HNw : Hid ((W2.alloc (.cells #[.int .i64 x, .int .i64 y, .int .i64 z] 3)).drew.heap[W2.heap.size]? = some (.cells #[.int .i64 x, .int .i64 y, .int .i64 z] 3)) := Lib.hid (by show (W2.alloc (.cells #[.int .i64 x, .int .i64 y, .int .i64 z] 3)).heap[W2.heap.size]? = _; exact heap_alloc_new W2 _)
  unfold EvS at HAl HDr
  dsimp only at HAl HDr
  go_region_held3 (fun V => V.cell? ⟨s, 0, none⟩ = some (.int .i64 a1) ∧ V.cell? ⟨s, 1, none⟩ = some (.int .i64 a2) ∧ V.cell? ⟨s, 2, none⟩ = some (.int .i64 a3) ∧ V.cell? ⟨s + 1, 0, none⟩ = some (.int .i64 b1) ∧ V.cell? ⟨s + 1, 1, none⟩ = some (.int .i64 b2) ∧ V.cell? ⟨s + 1, 2, none⟩ = some (.int .i64 b3)) (first | exact HDr.out | assumption | exact HAl.out _ _ (by assumption))
    (first
      | (with_reducible refine (HCx.out _).mono ?_; rintro e w' ⟨rfl, rfl⟩)
      | (with_reducible refine (HCy.out _).mono ?_; rintro e w' ⟨rfl, rfl⟩)
      | (with_reducible refine (HCz.out _).mono ?_; rintro e w' ⟨rfl, rfl⟩)
      | (with_reducible refine (HO.out _ _ ?_).mono ?_; (exact HNw.out); rintro e w' ⟨rfl, rfl⟩))
  go_wp2_with fail
  go_ret
  refine ⟨rfl, ?_⟩
  rw [hW1, hW2] at HG
  exact HG.out.drew.alloc _
theorem heap_new2q (w : World) (o p : Obj) : ((w.alloc o).alloc p).heap[w.heap.size + 1]? = some p := by
  have := heap_alloc_new (w.alloc o) p
  rw [World.size_alloc] at this
  exact this
set_option maxRecDepth 100000 in
theorem keyOf_any (e : Ev) (w : World) : Calls Tryd.prog 23 #[evV e] w fun x w' => x = .returned (kqV e.2.1 e.2.2) ∧ Below w.heap.size w w' := by
  obtain ⟨a1, a2, a3⟩ := e
  unfold evV kqV
  dsimp only
  go_enter Tryd.func23, Tryd.ntmps23
  go_wp2_with fail
  refine bodyPost_ret (results_cell_row rfl _ _ (w.heap.size + 1) _ _ (0, 0) _ rfl (heap_new2q w _ _) Tryd.underlying62 rfl (by kernel_rfl)) rfl ?_
  exact ⟨rfl, ((Below.refl w.heap.size w).alloc (Nat.le_refl _) _).alloc (by simp) _⟩
set_option maxRecDepth 100000 in
theorem isEvent_any (e : Ev) (w : World) : Calls Tryd.prog 22 #[evV e] w fun x w' => x = .returned (.bool (!badE15 e)) ∧ Below w.heap.size w w' := by
  obtain ⟨a1, a2, a3⟩ := e
  unfold evV badE15
  dsimp only
  have hb := Lib.hid ((Below.refl w.heap.size w).alloc (Nat.le_refl _) (.cells #[.int .i64 a1, .int .i64 a2, .int .i64 a3] 38))
  have hway : (∃ h1 : 0 ≤ a1, ∃ h2 : a1 ≤ 4611686018427387904, ∃ h3 : 0 ≤ a2, 0 ≤ a3) ∨ (∃ h1 : 0 ≤ a1, ∃ h2 : a1 ≤ 4611686018427387904, ∃ h3 : 0 ≤ a2, ¬ 0 ≤ a3) ∨ (∃ h1 : 0 ≤ a1, ∃ h2 : a1 ≤ 4611686018427387904, ¬ 0 ≤ a2) ∨ (∃ h1 : 0 ≤ a1, ¬ a1 ≤ 4611686018427387904) ∨ ¬ 0 ≤ a1 := by
    by_cases h1 : 0 ≤ a1
    · by_cases h2 : a1 ≤ 4611686018427387904
      · by_cases h3 : 0 ≤ a2
        · by_cases h4 : 0 ≤ a3
          · exact .inl ⟨h1, h2, h3, h4⟩
          · exact .inr (.inl ⟨h1, h2, h3, h4⟩)
        · exact .inr (.inr (.inl ⟨h1, h2, h3⟩))
      · exact .inr (.inr (.inr (.inl ⟨h1, h2⟩)))
    · exact .inr (.inr (.inr (.inr h1)))
  obtain ⟨R, hR⟩ : ∃ R, (!(decide (a1 < 0) || decide (4611686018427387904 < a1) || decide (a2 < 0) || decide (a3 < 0))) = R := ⟨_, rfl⟩
  rw [hR]
  have HR := Lib.hid hR
  clear hR
  rcases hway with ⟨h1, h2, h3, h4⟩ | ⟨h1, h2, h3, h4⟩ | ⟨h1, h2, h3⟩ | ⟨h1, h2⟩ | h1
  all_goals
    go_enter Tryd.func22, Tryd.ntmps22
    go_wp2_with fail
    go_ret
    refine ⟨?_, hb.out⟩
    rw [← HR.out]
  · rw [decide_eq_false (show ¬ a1 < 0 by omega), decide_eq_false (show ¬ 4611686018427387904 < a1 by omega), decide_eq_false (show ¬ a2 < 0 by omega), decide_eq_false (show ¬ a3 < 0 by omega)]
    rfl
  · rw [decide_eq_true (show a3 < 0 by omega), Bool.or_true]
    rfl
  · rw [decide_eq_true (show a2 < 0 by omega), Bool.or_true, Bool.true_or]
    rfl
  · rw [decide_eq_true (show 4611686018427387904 < a1 by omega), Bool.or_true, Bool.true_or, Bool.true_or]
    rfl
  · rw [decide_eq_true (show a1 < 0 by omega), Bool.true_or, Bool.true_or, Bool.true_or]
    rfl
set_option maxRecDepth 100000 in
theorem above_any (p : Nat) (w : World) (h0 : 0 < p) (hp : p ≤ 100000) : Calls Tryd.prog 44 #[.int .i64 (p : Nat)] w fun x w' => x = .returned (.int .i64 (parN p : Nat)) ∧ w' = w := by
  obtain ⟨a, ha⟩ : ∃ a : Nat, (p : Int) - 1 = a := ⟨p - 1, by omega⟩
  have ha0 : (0 : Int) ≤ a := by omega
  have ha1 : (a : Int) ≤ 100000 := by omega
  obtain ⟨b, hb⟩ : ∃ b : Nat, (a : Int) / 2 = b := ⟨a / 2, by omega⟩
  have hr : parN p = b := by unfold parN; omega
  have hb2 : (a : Int).tdiv 2 = b := by rw [Int.tdiv_eq_ediv_of_nonneg ha0]; exact hb
  rw [hr]
  clear hr
  go_enter Tryd.func44, Tryd.ntmps44
  go_wp2_with fail
  go_ret
  exact ⟨rfl, rfl⟩
set_option maxRecDepth 100000 in
theorem beneath_any (p : Nat) (w : World) (hp : p ≤ 100000) : Calls Tryd.prog 57 #[.int .i64 (p : Nat)] w fun x w' => x = .returned (.agg #[.int .i64 ((2 * p + 1 : Nat) : Int), .int .i64 ((2 * p + 2 : Nat) : Int)]) ∧ Below w.heap.size w w' := by
  obtain ⟨a, ha⟩ : ∃ a : Nat, (2 : Int) * p = a := ⟨2 * p, by omega⟩
  obtain ⟨b, hb⟩ : ∃ b : Nat, (a : Int) + 1 = b := ⟨a + 1, by omega⟩
  obtain ⟨c, hc⟩ : ∃ b : Nat, (a : Int) + 2 = b := ⟨a + 2, by omega⟩
  have e1 : 2 * p + 1 = b := by omega
  have e2 : 2 * p + 2 = c := by omega
  rw [e1, e2]
  have p0 : (0 : Int) ≤ p := by omega
  have p1 : (p : Int) ≤ 100000 := by omega
  have a0 : (0 : Int) ≤ a := by omega
  have a1 : (a : Int) ≤ 200000 := by omega
  clear e1 e2 hp
  go_enter Tryd.func57, Tryd.ntmps57
  go_wp2_with fail
  refine bodyPost_ret (results_cell_row rfl _ _ w.heap.size _ _ (0, 0) _ rfl (heap_alloc_new w _) Tryd.underlying112 rfl (by kernel_rfl)) rfl ?_
  exact ⟨rfl, (Below.refl w.heap.size w).alloc (Nat.le_refl _) _⟩
end Go.Proofs.YtkihfafkglkjnaaDoor

/- Layer 15: swap. -/
import Derived.Test.YtkihfafkglkjnaaDoorQuI
import Derived.Laws.OwnMore
import Derived.Deep.RegionLaw
namespace Go.Proofs.YtkihfafkglkjnaaDoor
open Go.RowKit

/-- An event stored at an address. -/
def setE (w : World) (X : Addr) (e : Ev) : World := ((w.setCell X (.int .i64 e.1)).setCell { block := X.block, off := X.off + 1 } (.int .i64 e.2.1)).setCell { block := X.block, off := X.off + 2 } (.int .i64 e.2.2)
theorem flat_set : ∀ (H : List Ev) (i : Nat) (e : Ev), i < H.length → (((H.flatMap evC).set (i * 3) (.int .i64 e.1)).set (i * 3 + 1) (.int .i64 e.2.1)).set (i * 3 + 2) (.int .i64 e.2.2) = (H.set i e).flatMap evC
  | [], _, _, h => absurd h (Nat.not_lt_zero _)
  | x :: r, 0, e, _ => rfl
  | x :: r, i + 1, e, h => by
    have ih := flat_set r i e (by simpa using h)
    have e1 : (i + 1) * 3 = i * 3 + 3 := by omega
    rw [e1, List.set_cons_succ, List.flatMap_cons, List.flatMap_cons, ← ih]
    rfl
theorem add_row (r i : Nat) : (⟨r, 0, none⟩ : Addr).add i = ⟨r, i, none⟩ := by unfold Addr.add; split <;> simp_all
theorem own_setE {w : World} {m c i : Nat} {H : List Ev} {ad X : Addr} (h : w.ownsRow 0 38 3 (.slice (some ad) m c) m (H.flatMap evC)) (hm : H.length = m) (hi : i < m) (hX : ad.add (i * 3) = X) (e : Ev) :
    (setE w X e).ownsRow 0 38 3 (.slice (some ad) m c) m ((H.set i e).flatMap evC) ∧ w.grownBy (setE w X e) (some ad.block) ∧ X.block = ad.block := by
  have h0 := h
  rcases h.2 with ⟨hv, _⟩ | ⟨r, cap, cur, hv, _⟩
  · cases hv
  injection hv with h1 h2 h3
  injection h1 with h1
  subst h1 h3
  rw [add_row] at hX
  subst hX
  obtain ⟨s1, g1⟩ := h0.stored (i * 3) (.int .i64 e.1)
  obtain ⟨s2, g2⟩ := s1.stored (i * 3 + 1) (.int .i64 e.2.1)
  obtain ⟨s3, g3⟩ := s2.stored (i * 3 + 2) (.int .i64 e.2.2)
  rw [flat_set H i e (by omega)] at s3
  exact ⟨s3, ⟨g3.os.trans (g2.os.trans g1.os), g3.tape.trans (g2.tape.trans g1.tape), g3.output.trans (g2.output.trans g1.output), Nat.le_trans g1.size (Nat.le_trans g2.size g3.size),
    fun k hk hn => (g3.block k (Nat.lt_of_lt_of_le hk (Nat.le_trans g1.size g2.size)) hn).trans ((g2.block k (Nat.lt_of_lt_of_le hk g1.size) hn).trans (g1.block k hk hn))⟩, rfl⟩
/-- A row's events. -/
theorem rowE_at {w : World} {r m c : Nat} {H : List Ev} (h : w.ownsRow 0 38 3 (.slice (some ⟨r, 0, none⟩) m c) m (H.flatMap evC)) (hm : H.length = m) (i : Nat) (hi : i < m) :
    (w.cell? ⟨r, i * 3, none⟩ = some (.int .i64 (evA H i).1) ∧ w.cell? ⟨r, i * 3 + 1, none⟩ = some (.int .i64 (evA H i).2.1) ∧ w.cell? ⟨r, i * 3 + 2, none⟩ = some (.int .i64 (evA H i).2.2)) ∧
    (w.frozen? ⟨r, i * 3, none⟩ = false ∧ w.frozen? ⟨r, i * 3 + 1, none⟩ = false ∧ w.frozen? ⟨r, i * 3 + 2, none⟩ = false) := by
  have hR := RowE.owned hm h
  obtain ⟨ad, X, e1, hX, c1, c2, c3⟩ := hR.parts.2.2.2.2 i hi _ (evA_at (by rw [hm]; exact hi))
  injection e1 with e1
  subst e1
  rw [add_row] at hX
  subst hX
  exact ⟨⟨c1, c2, c3⟩, h.frozenAt _, h.frozenAt _, h.frozenAt _⟩
/-- A queue that is not empty: its row. -/
theorem QuI.rows {w : World} {q g : Nat} {v : Value} {n : Int} {H : List Ev} (h : QuI w q g v n H) (h0 : 0 < H.length) : ∃ r c, v = .slice (some ⟨r, 0, none⟩) H.length c ∧ H.length ≤ c := by
  rcases h.row.2 with ⟨_, h1⟩ | ⟨r, cap, cur, hv, _, _, h2, _⟩
  · omega
  · exact ⟨r, cap, hv, h2⟩
theorem cell_other9 {W : World} {a b k j : Nat} {v u : Value} (h : W.cell? ⟨a, k, none⟩ = some v) (hne : a ≠ b) : (W.setCell ⟨b, j, none⟩ u).cell? ⟨a, k, none⟩ = some v :=
  (World.cell?_of_block (a := ⟨a, k, none⟩) (Below.heap_setCell W ⟨b, j, none⟩ u a hne)).trans h
/-- What is read of a queue and one of its events. -/
def ReM (V : World) (q g : Nat) (v : Value) (r x : Nat) (e : Ev) : Prop := V.cell? ⟨q, 1, none⟩ = some v ∧ V.cell? ⟨q, 2, none⟩ = some (.map (some g)) ∧
  V.cell? ⟨r, x, none⟩ = some (.int .i64 e.1) ∧ V.cell? ⟨r, x + 1, none⟩ = some (.int .i64 e.2.1) ∧ V.cell? ⟨r, x + 2, none⟩ = some (.int .i64 e.2.2)
theorem ReM.bl {V V' : World} {q g r x : Nat} {v : Value} {e : Ev} (h : ReM V q g v r x e) (hb : Below V.heap.size V V') : ReM V' q g v r x e :=
  ⟨cell9_below h.1 hb, cell9_below h.2.1 hb, cell9_below h.2.2.1 hb, cell9_below h.2.2.2.1 hb, cell9_below h.2.2.2.2 hb⟩
theorem cell9_grown {w w' : World} {a : Addr} {v : Value} {b : Nat} (h : w.cell? a = some v) (hg : w.grownBy w' (some b)) (hne : a.block ≠ b) : w'.cell? a = some v :=
  (World.cell?_of_block (hg.block _ (World.block_lt_of_cell? w a h) (fun e => hne (by injection e)))).trans h
theorem ReM.gr {V V' : World} {q g r x : Nat} {v : Value} {e : Ev} (h : ReM V q g v r x e) (hg : V.grownBy V' (some g)) (h1 : q ≠ g) (h2 : r ≠ g) : ReM V' q g v r x e :=
  ⟨cell9_grown h.1 hg h1, cell9_grown h.2.1 hg h1, cell9_grown h.2.2.1 hg h2, cell9_grown h.2.2.2.1 hg h2, cell9_grown h.2.2.2.2 hg h2⟩
theorem MapQ.bl {w w' : World} {b c : Nat} {f : Int × Int → Option Nat} (h : MapQ w b c f) (hb : Below w.heap.size w w') : MapQ w' b c f := h.block (hb.block b h.lt)
set_option maxRecDepth 100000 in
theorem step_qput {w : World} {o : Oper} {a : Act} {K : Act → World → Prop} {Q : Exit → Act → World → Prop} (b c : Nat) (f : Int × Int → Option Nat) (k i : Int) (j : Nat) (hown : MapQ w b c f) (hk : In64 k) (hi : In64 i) (hc : c ≤ 1000000)
    (h : ∀ w', MapQ w' b (if (f (k, i)).isSome = true then c else c + 1) (fun x => if x = (k, i) then some j else f x) → w.grownBy w' (some b) → K (a.put o.dst undef) w') :
    Oper.upon Tryd.prog o a K Q (((Instr.mapUpdate 54 (.map (some b)) (.agg #[.int .i64 k, .int .i64 i]) (.int .i64 (j : Nat))).run Tryd.prog w).andThen fun _ w' => .ok .skip w') := by
  obtain ⟨w', hrun, r1, r2⟩ := hown.upd hk hi hc j
  unfold kqV at hrun
  rw [hrun]
  exact h w' r1 r2
theorem gb_below {w w' : World} (row : Option Nat) (h : Below w.heap.size w w') : w.grownBy w' row := ⟨h.os, h.tape, h.output, h.size, fun k hk _ => h.block k hk⟩
theorem gb_trans {a b c : World} {row : Option Nat} (h : a.grownBy b row) (h' : b.grownBy c row) : a.grownBy c row :=
  ⟨h'.os.trans h.os, h'.tape.trans h.tape, h'.output.trans h.output, Nat.le_trans h.size h'.size, fun k hk hn => (h'.block k (Nat.lt_of_lt_of_le hk h.size) hn).trans (h.block k hk hn)⟩
theorem TuF.gr {F : Nat → Prop} {w w' : World} {b : Nat} (h : w.grownBy w' (some b)) (hb : F b) : TuF F F w w' :=
  ⟨h.os, h.tape, h.output, h.size, fun k hk hn => h.block k hk (fun e => hn (by injection e with e; rw [e]; exact hb)), fun _ hk => .inl hk⟩
theorem MapQ.sized {w : World} {b c : Nat} {f g : Int × Int → Option Nat} {x : Int × Int} (h : MapQ w b (if (f x).isSome = true then c else c + 1) g) (hs : (f x).isSome = true) : MapQ w b c g := by rwa [if_pos hs] at h
theorem keyOf3_any (a1 a2 a3 : Int) (w : World) : Calls Tryd.prog 23 #[.agg #[.int .i64 a1, .int .i64 a2, .int .i64 a3]] w fun x w' => x = .returned (.agg #[.int .i64 a2, .int .i64 a3]) ∧ Below w.heap.size w w' := keyOf_any (a1, a2, a3) w
set_option maxRecDepth 100000 in
set_option maxHeartbeats 4000000 in
theorem swap_any (q g : Nat) (v : Value) (n : Int) (H : List Ev) (i j : Nat) (w : World) (h : QuI w q g v n H) (hi : i < H.length) (hj : j < H.length) :
    Calls Tryd.prog 35 #[.pointer (some ⟨q, 0, none⟩), .int .i64 (i : Nat), .int .i64 (j : Nat)] w fun x w' => x = .returned (.tuple #[]) ∧ QuI w' q g v n (swL H i j) ∧ TuF (FqB q g v) (FqB q g v) w w' := by
  obtain ⟨r, c, rfl, hc⟩ := h.rows (by omega)
  have hat := rowE_at h.row rfl
  have hlen := h.len
  obtain ⟨m, hm⟩ : ∃ m, H.length = m := ⟨_, rfl⟩
  obtain ⟨⟨c1, c2, c3⟩, f1, f2, f3⟩ := hat i hi
  obtain ⟨⟨d1, d2, d3⟩, _⟩ := hat j hj
  have c0 := cell9_blk h.blk 1 rfl
  obtain ⟨⟨a1, a2, a3⟩, ha⟩ : ∃ a, evA H i = a := ⟨_, rfl⟩
  obtain ⟨⟨b1, b2, b3⟩, hb⟩ : ∃ a, evA H j = a := ⟨_, rfl⟩
  rw [ha] at c1 c2 c3
  rw [hb] at d1 d2 d3
  dsimp only at c1 c2 c3 d1 d2 d3
  have hrow := h.row
  have hd2 := h.d2
  rw [hm] at hi hj hc hlen hrow hd2 ⊢
  have i0 : (0 : Int) ≤ i := by omega
  have i1 : (i : Int) < m := by omega
  have j0 : (0 : Int) ≤ j := by omega
  have j1 : (j : Int) < m := by omega
  have HHI := Lib.hid h
  have HRW := Lib.hid hrow
  have hki : In64 b2 ∧ In64 b3 := by have := h.k64 _ (evA_mem (by rw [hm]; exact hj)); rw [hb] at this; exact this
  have hkj : In64 a2 ∧ In64 a3 := by have := h.k64 _ (evA_mem (by rw [hm]; exact hi)); rw [ha] at this; exact this
  have HK64 := Lib.hid (And.intro hki hkj)
  clear hki hkj
  have HMM := Lib.hid (And.intro hm (And.intro ha hb))
  have HDr : Hid (w.drew.cell? ⟨q, 1, none⟩ = some (.slice (some ⟨r, 0, none⟩) m c)) := Lib.hid (by rw [← hm]; exact c0)
  have hqad : q ≠ r := fun e => hd2 (by rw [e]; rfl)
  have HQA := Lib.hid hqad
  clear h hat hm ha hb c0 hd2 hqad hrow
  go_enter Tryd.func35, Tryd.ntmps35
  go_upto_region 0 with fail
  refine wp_region_noPanic ?_
  refine wp_region_held_drew (S := fun W => W.cell? { block := q, off := 1 } = some (.slice (some { block := r, off := 0 }) m c)) (by kernel_rfl) HDr.out (fun hHeld => ?_)
  refine' wpAnyH_take (i := 0) (oi := { dst := some 6, op := Go.Op.move (Go.Operand.tmp 0), type := 24, pos := "heap.go:38", after := #[], guard := none }) (v := _) rfl (by kernel_rfl) (by kernel_rfl) (by kernel_rfl) (fun _ _ _ h => h) (Or.inl ⟨by rfl, ?_⟩) (by assumption) ?_
  rotate_left
  · (intro W hSw; go_simp; try with_reducible rfl)
  try simp only [Act.put, List.setIfInBounds_toArray, List.set_cons_zero, List.set_cons_succ]
  refine' wpAnyH_take (i := 1) (oi := { dst := some 7, op := Go.Op.nilCheck (Go.Operand.tmp 6), type := 0, pos := "heap.go:38", after := #[{ on := 0, ground := Go.Ground.data }], guard := none }) (v := _) rfl (by kernel_rfl) (by kernel_rfl) (by kernel_rfl) (fun _ _ _ h => h) (Or.inl ⟨by rfl, ?_⟩) (by assumption) ?_
  rotate_left
  · (intro W hSw; go_simp; try with_reducible rfl)
  try simp only [Act.put, List.setIfInBounds_toArray, List.set_cons_zero, List.set_cons_succ]
  refine' wpAnyH_take (i := 2) (oi := { dst := some 8, op := Go.Op.fieldAddr 56 (Go.Operand.tmp 7) 1, type := 0, pos := "heap.go:38", after := #[{ on := 1, ground := Go.Ground.data }], guard := none }) (v := _) rfl (by kernel_rfl) (by kernel_rfl) (by kernel_rfl) (fun _ _ _ h => h) (Or.inl ⟨by rfl, ?_⟩) (by assumption) ?_
  rotate_left
  · (intro W hSw; go_simp; try with_reducible rfl)
  try simp only [Act.put, List.setIfInBounds_toArray, List.set_cons_zero, List.set_cons_succ]
  refine' wpAnyH_take (i := 3) (oi := { dst := some 9, op := Go.Op.load 48 (Go.Operand.tmp 8), type := 48, pos := "heap.go:38", after := #[{ on := 2, ground := Go.Ground.data }], guard := none }) (v := _) rfl (by kernel_rfl) (by kernel_rfl) (by kernel_rfl) (fun _ _ _ h => h) (Or.inl ⟨by rfl, ?_⟩) (by assumption) ?_
  rotate_left
  · (intro W hSw; have k0 := hSw; go_simp; try with_reducible rfl)
  try simp only [Act.put, List.setIfInBounds_toArray, List.set_cons_zero, List.set_cons_succ]
  refine' wpAnyH_take (i := 4) (oi := { dst := some 10, op := Go.Op.move (Go.Operand.tmp 1), type := 3, pos := "heap.go:38", after := #[], guard := none }) (v := _) rfl (by kernel_rfl) (by kernel_rfl) (by kernel_rfl) (fun _ _ _ h => h) (Or.inl ⟨by rfl, ?_⟩) (by assumption) ?_
  rotate_left
  · (intro W hSw; go_simp; try with_reducible rfl)
  try simp only [Act.put, List.setIfInBounds_toArray, List.set_cons_zero, List.set_cons_succ]
  refine' wpAnyH_take (i := 5) (oi := { dst := some 11, op := Go.Op.move (Go.Operand.tmp 0), type := 24, pos := "heap.go:38", after := #[], guard := none }) (v := _) rfl (by kernel_rfl) (by kernel_rfl) (by kernel_rfl) (fun _ _ _ h => h) (Or.inl ⟨by rfl, ?_⟩) (by assumption) ?_
  rotate_left
  · (intro W hSw; go_simp; try with_reducible rfl)
  try simp only [Act.put, List.setIfInBounds_toArray, List.set_cons_zero, List.set_cons_succ]
  refine' wpAnyH_take (i := 6) (oi := { dst := some 12, op := Go.Op.nilCheck (Go.Operand.tmp 11), type := 0, pos := "heap.go:38", after := #[{ on := 5, ground := Go.Ground.data }], guard := none }) (v := _) rfl (by kernel_rfl) (by kernel_rfl) (by kernel_rfl) (fun _ _ _ h => h) (Or.inl ⟨by rfl, ?_⟩) (by assumption) ?_
  rotate_left
  · (intro W hSw; go_simp; try with_reducible rfl)
  try simp only [Act.put, List.setIfInBounds_toArray, List.set_cons_zero, List.set_cons_succ]
  refine' wpAnyH_take (i := 7) (oi := { dst := some 13, op := Go.Op.fieldAddr 56 (Go.Operand.tmp 12) 1, type := 0, pos := "heap.go:38", after := #[{ on := 6, ground := Go.Ground.data }], guard := none }) (v := _) rfl (by kernel_rfl) (by kernel_rfl) (by kernel_rfl) (fun _ _ _ h => h) (Or.inl ⟨by rfl, ?_⟩) (by assumption) ?_
  rotate_left
  · (intro W hSw; go_simp; try with_reducible rfl)
  try simp only [Act.put, List.setIfInBounds_toArray, List.set_cons_zero, List.set_cons_succ]
  refine' wpAnyH_take (i := 8) (oi := { dst := some 14, op := Go.Op.load 48 (Go.Operand.tmp 13), type := 48, pos := "heap.go:38", after := #[{ on := 7, ground := Go.Ground.data }], guard := none }) (v := _) rfl (by kernel_rfl) (by kernel_rfl) (by kernel_rfl) (fun _ _ _ h => h) (Or.inl ⟨by rfl, ?_⟩) (by assumption) ?_
  rotate_left
  · (intro W hSw; have k0 := hSw; go_simp; try with_reducible rfl)
  try simp only [Act.put, List.setIfInBounds_toArray, List.set_cons_zero, List.set_cons_succ]
  refine' wpAnyH_take (i := 9) (oi := { dst := some 15, op := Go.Op.move (Go.Operand.tmp 2), type := 3, pos := "heap.go:38", after := #[{ on := 25, ground := Go.Ground.gcOnly Go.Departure.lateStores }], guard := none }) (v := _) rfl (by kernel_rfl) (by kernel_rfl) (by kernel_rfl) (fun _ _ _ h => h) (Or.inl ⟨by rfl, ?_⟩) (by assumption) ?_
  rotate_left
  · (intro W hSw; go_simp; try with_reducible rfl)
  try simp only [Act.put, List.setIfInBounds_toArray, List.set_cons_zero, List.set_cons_succ]
  refine' wpAnyH_take (i := 10) (oi := { dst := some 16, op := Go.Op.move (Go.Operand.tmp 0), type := 24, pos := "heap.go:38", after := #[], guard := none }) (v := _) rfl (by kernel_rfl) (by kernel_rfl) (by kernel_rfl) (fun _ _ _ h => h) (Or.inl ⟨by rfl, ?_⟩) (by assumption) ?_
  rotate_left
  · (intro W hSw; go_simp; try with_reducible rfl)
  try simp only [Act.put, List.setIfInBounds_toArray, List.set_cons_zero, List.set_cons_succ]
  refine' wpAnyH_take (i := 11) (oi := { dst := some 17, op := Go.Op.nilCheck (Go.Operand.tmp 16), type := 0, pos := "heap.go:38", after := #[{ on := 10, ground := Go.Ground.data }], guard := none }) (v := _) rfl (by kernel_rfl) (by kernel_rfl) (by kernel_rfl) (fun _ _ _ h => h) (Or.inl ⟨by rfl, ?_⟩) (by assumption) ?_
  rotate_left
  · (intro W hSw; go_simp; try with_reducible rfl)
  try simp only [Act.put, List.setIfInBounds_toArray, List.set_cons_zero, List.set_cons_succ]
  refine' wpAnyH_take (i := 12) (oi := { dst := some 18, op := Go.Op.fieldAddr 56 (Go.Operand.tmp 17) 1, type := 0, pos := "heap.go:38", after := #[{ on := 11, ground := Go.Ground.data }], guard := none }) (v := _) rfl (by kernel_rfl) (by kernel_rfl) (by kernel_rfl) (fun _ _ _ h => h) (Or.inl ⟨by rfl, ?_⟩) (by assumption) ?_
  rotate_left
  · (intro W hSw; go_simp; try with_reducible rfl)
  try simp only [Act.put, List.setIfInBounds_toArray, List.set_cons_zero, List.set_cons_succ]
  refine' wpAnyH_take (i := 13) (oi := { dst := some 19, op := Go.Op.load 48 (Go.Operand.tmp 18), type := 48, pos := "heap.go:38", after := #[{ on := 12, ground := Go.Ground.data }], guard := none }) (v := _) rfl (by kernel_rfl) (by kernel_rfl) (by kernel_rfl) (fun _ _ _ h => h) (Or.inl ⟨by rfl, ?_⟩) (by assumption) ?_
  rotate_left
  · (intro W hSw; have k0 := hSw; go_simp; try with_reducible rfl)
  try simp only [Act.put, List.setIfInBounds_toArray, List.set_cons_zero, List.set_cons_succ]
  refine' wpAnyH_take (i := 14) (oi := { dst := some 20, op := Go.Op.move (Go.Operand.tmp 2), type := 3, pos := "heap.go:38", after := #[], guard := none }) (v := _) rfl (by kernel_rfl) (by kernel_rfl) (by kernel_rfl) (fun _ _ _ h => h) (Or.inl ⟨by rfl, ?_⟩) (by assumption) ?_
  rotate_left
  · (intro W hSw; go_simp; try with_reducible rfl)
  try simp only [Act.put, List.setIfInBounds_toArray, List.set_cons_zero, List.set_cons_succ]
  refine' wpAnyH_take (i := 15) (oi := { dst := some 21, op := Go.Op.indexAddr 48 (Go.Operand.tmp 19) (Go.Operand.tmp 20), type := 0, pos := "heap.go:38", after := #[{ on := 13, ground := Go.Ground.data }, { on := 14, ground := Go.Ground.data }], guard := none }) (v := _) rfl (by kernel_rfl) (by kernel_rfl) (by kernel_rfl) (fun _ _ _ h => h) (Or.inl ⟨by rfl, ?_⟩) (by assumption) ?_
  rotate_left
  · (intro W hSw; go_simp; try with_reducible rfl)
  try simp only [Act.put, List.setIfInBounds_toArray, List.set_cons_zero, List.set_cons_succ]
  refine' wpAnyH_take (i := 17) (oi := { dst := some 23, op := Go.Op.move (Go.Operand.tmp 0), type := 24, pos := "heap.go:38", after := #[], guard := none }) (v := _) rfl (by kernel_rfl) (by kernel_rfl) (by kernel_rfl) (fun _ _ _ h => h) (Or.inl ⟨by rfl, ?_⟩) (by assumption) ?_
  rotate_left
  · (intro W hSw; go_simp; try with_reducible rfl)
  try simp only [Act.put, List.setIfInBounds_toArray, List.set_cons_zero, List.set_cons_succ]
  refine' wpAnyH_take (i := 18) (oi := { dst := some 24, op := Go.Op.nilCheck (Go.Operand.tmp 23), type := 0, pos := "heap.go:38", after := #[{ on := 17, ground := Go.Ground.data }], guard := none }) (v := _) rfl (by kernel_rfl) (by kernel_rfl) (by kernel_rfl) (fun _ _ _ h => h) (Or.inl ⟨by rfl, ?_⟩) (by assumption) ?_
  rotate_left
  · (intro W hSw; go_simp; try with_reducible rfl)
  try simp only [Act.put, List.setIfInBounds_toArray, List.set_cons_zero, List.set_cons_succ]
  refine' wpAnyH_take (i := 19) (oi := { dst := some 25, op := Go.Op.fieldAddr 56 (Go.Operand.tmp 24) 1, type := 0, pos := "heap.go:38", after := #[{ on := 18, ground := Go.Ground.data }], guard := none }) (v := _) rfl (by kernel_rfl) (by kernel_rfl) (by kernel_rfl) (fun _ _ _ h => h) (Or.inl ⟨by rfl, ?_⟩) (by assumption) ?_
  rotate_left
  · (intro W hSw; go_simp; try with_reducible rfl)
  try simp only [Act.put, List.setIfInBounds_toArray, List.set_cons_zero, List.set_cons_succ]
  refine' wpAnyH_take (i := 20) (oi := { dst := some 26, op := Go.Op.load 48 (Go.Operand.tmp 25), type := 48, pos := "heap.go:38", after := #[{ on := 19, ground := Go.Ground.data }], guard := none }) (v := _) rfl (by kernel_rfl) (by kernel_rfl) (by kernel_rfl) (fun _ _ _ h => h) (Or.inl ⟨by rfl, ?_⟩) (by assumption) ?_
  rotate_left
  · (intro W hSw; have k0 := hSw; go_simp; try with_reducible rfl)
  try simp only [Act.put, List.setIfInBounds_toArray, List.set_cons_zero, List.set_cons_succ]
  refine' wpAnyH_take (i := 21) (oi := { dst := some 27, op := Go.Op.move (Go.Operand.tmp 1), type := 3, pos := "heap.go:38", after := #[], guard := none }) (v := _) rfl (by kernel_rfl) (by kernel_rfl) (by kernel_rfl) (fun _ _ _ h => h) (Or.inl ⟨by rfl, ?_⟩) (by assumption) ?_
  rotate_left
  · (intro W hSw; go_simp; try with_reducible rfl)
  try simp only [Act.put, List.setIfInBounds_toArray, List.set_cons_zero, List.set_cons_succ]
  refine' wpAnyH_take (i := 22) (oi := { dst := some 28, op := Go.Op.indexAddr 48 (Go.Operand.tmp 26) (Go.Operand.tmp 27), type := 0, pos := "heap.go:38", after := #[{ on := 20, ground := Go.Ground.data }, { on := 21, ground := Go.Ground.data }], guard := none }) (v := _) rfl (by kernel_rfl) (by kernel_rfl) (by kernel_rfl) (fun _ _ _ h => h) (Or.inl ⟨by rfl, ?_⟩) (by assumption) ?_
  rotate_left
  · (intro W hSw; go_simp; try with_reducible rfl)
  try simp only [Act.put, List.setIfInBounds_toArray, List.set_cons_zero, List.set_cons_succ]
  refine wpAnyH_ready (rs := [16, 23]) (by kernel_rfl) (by simp) ?_
  refine AllReadyH.cons (o := { dst := some 22, op := Go.Op.load 38 (Go.Operand.tmp 21), type := 38, pos := "heap.go:38", after := #[{ on := 15, ground := Go.Ground.data }], guard := none }) rfl (fun K hK => ?_) (AllReadyH.cons (o := { dst := some 29, op := Go.Op.load 38 (Go.Operand.tmp 28), type := 38, pos := "heap.go:38", after := #[{ on := 22, ground := Go.Ground.data }], guard := none }) rfl (fun K hK => ?_) AllReadyH.nil)
  go_simp
  refine hK.out _ _ hHeld (fun hHeld => ?_)
  clear hK K
  try simp only [Act.put, List.setIfInBounds_toArray, List.set_cons_zero, List.set_cons_succ]
  refine wpAnyH_ready (rs := [23]) (by kernel_rfl) (by simp) ?_
  refine AllReadyH.cons (o := { dst := some 29, op := Go.Op.load 38 (Go.Operand.tmp 28), type := 38, pos := "heap.go:38", after := #[{ on := 22, ground := Go.Ground.data }], guard := none }) rfl (fun K hK => ?_) AllReadyH.nil
  go_simp
  refine hK.out _ _ hHeld (fun hHeld => ?_)
  clear hK K
  try simp only [Act.put, List.setIfInBounds_toArray, List.set_cons_zero, List.set_cons_succ]
  rotate_left
  go_simp
  refine hK.out _ _ hHeld (fun hHeld => ?_)
  clear hK K
  try simp only [Act.put, List.setIfInBounds_toArray, List.set_cons_zero, List.set_cons_succ]
  refine wpAnyH_ready (rs := [16]) (by kernel_rfl) (by simp) ?_
  refine AllReadyH.cons (o := { dst := some 22, op := Go.Op.load 38 (Go.Operand.tmp 21), type := 38, pos := "heap.go:38", after := #[{ on := 15, ground := Go.Ground.data }], guard := none }) rfl (fun K hK => ?_) AllReadyH.nil
  go_simp
  refine hK.out _ _ hHeld (fun hHeld => ?_)
  clear hK K
  try simp only [Act.put, List.setIfInBounds_toArray, List.set_cons_zero, List.set_cons_succ]
  all_goals
    refine' wpAnyH_take (i := 24) (oi := { dst := some 30, op := Go.Op.indexAddr 48 (Go.Operand.tmp 9) (Go.Operand.tmp 10), type := 0, pos := "heap.go:38", after := #[{ on := 3, ground := Go.Ground.data }, { on := 4, ground := Go.Ground.data }, { on := 0, ground := Go.Ground.phase }, { on := 1, ground := Go.Ground.phase }, { on := 2, ground := Go.Ground.phase }, { on := 3, ground := Go.Ground.phase }, { on := 4, ground := Go.Ground.phase }, { on := 5, ground := Go.Ground.textOnly Go.Departure.lateStores }, { on := 6, ground := Go.Ground.textOnly Go.Departure.lateStoresUnsure }, { on := 7, ground := Go.Ground.textOnly Go.Departure.lateStoresUnsure }, { on := 8, ground := Go.Ground.phase }, { on := 9, ground := Go.Ground.textOnly Go.Departure.lateStores }, { on := 10, ground := Go.Ground.phase }, { on := 11, ground := Go.Ground.phase }, { on := 12, ground := Go.Ground.phase }, { on := 13, ground := Go.Ground.phase }, { on := 14, ground := Go.Ground.phase }, { on := 15, ground := Go.Ground.phase }, { on := 16, ground := Go.Ground.phase }, { on := 17, ground := Go.Ground.textOnly Go.Departure.lateStores }, { on := 18, ground := Go.Ground.textOnly Go.Departure.lateStoresUnsure }, { on := 19, ground := Go.Ground.textOnly Go.Departure.lateStoresUnsure }, { on := 20, ground := Go.Ground.phase }, { on := 21, ground := Go.Ground.textOnly Go.Departure.lateStores }, { on := 22, ground := Go.Ground.textOnly Go.Departure.lateStoresUnsure }, { on := 23, ground := Go.Ground.phase }], guard := none }) (v := _) rfl (by kernel_rfl) (by kernel_rfl) (by kernel_rfl) (fun _ _ _ h => h) (Or.inl ⟨by rfl, ?_⟩) (by assumption) ?_
    rotate_left
    · (intro W hSw; go_simp; try with_reducible rfl)
    try simp only [Act.put, List.setIfInBounds_toArray, List.set_cons_zero, List.set_cons_succ]
    refine wpAnyH_ready (rs := [25]) (by kernel_rfl) (by simp) ?_
    refine AllReadyH.cons (o := { dst := none, op := Go.Op.store 38 (Go.Operand.tmp 30) (Go.Operand.tmp 22), type := 0, pos := "heap.go:38", after := #[{ on := 24, ground := Go.Ground.data }, { on := 16, ground := Go.Ground.data }, { on := 0, ground := Go.Ground.phase }, { on := 1, ground := Go.Ground.phase }, { on := 2, ground := Go.Ground.phase }, { on := 3, ground := Go.Ground.phase }, { on := 4, ground := Go.Ground.phase }, { on := 5, ground := Go.Ground.textOnly Go.Departure.lateStores }, { on := 6, ground := Go.Ground.textOnly Go.Departure.lateStoresUnsure }, { on := 7, ground := Go.Ground.textOnly Go.Departure.lateStoresUnsure }, { on := 8, ground := Go.Ground.phase }, { on := 9, ground := Go.Ground.textOnly Go.Departure.lateStores }, { on := 10, ground := Go.Ground.phase }, { on := 11, ground := Go.Ground.phase }, { on := 12, ground := Go.Ground.phase }, { on := 13, ground := Go.Ground.phase }, { on := 14, ground := Go.Ground.phase }, { on := 15, ground := Go.Ground.phase }, { on := 16, ground := Go.Ground.phase }, { on := 17, ground := Go.Ground.textOnly Go.Departure.lateStores }, { on := 18, ground := Go.Ground.textOnly Go.Departure.lateStoresUnsure }, { on := 19, ground := Go.Ground.textOnly Go.Departure.lateStoresUnsure }, { on := 20, ground := Go.Ground.phase }, { on := 21, ground := Go.Ground.textOnly Go.Departure.lateStores }, { on := 22, ground := Go.Ground.textOnly Go.Departure.lateStoresUnsure }, { on := 23, ground := Go.Ground.phase }], guard := none }) rfl (fun K hK => ?_) AllReadyH.nil
    go_simp
    refine hK.out _ _ (cell_other9 (cell_other9 (cell_other9 hHeld HQA.out) HQA.out) HQA.out) (fun hHeld => ?_)
    clear hK K
    obtain ⟨w5, hw5⟩ : ∃ W, setE w ⟨r, i * 3, none⟩ (b1, b2, b3) = W := ⟨_, rfl⟩
    have e5 : (((w.setCell { block := r, off := i * 3 } (.int .i64 b1)).setCell { block := r, off := i * 3 + 1 } (.int .i64 b2)).setCell { block := r, off := i * 3 + 2 } (.int .i64 b3)).drew = w5.drew := by rw [← hw5]; rfl
    rw [e5] at hHeld ⊢
    have h5 := own_setE HRW.out HMM.out.1 hi (add_row r (i * 3)) (b1, b2, b3)
    rw [hw5] at h5
    obtain ⟨⟨d1, d2, d3⟩, g1, g2, g3⟩ := rowE_at h5.1 (by rw [List.length_set]; exact HMM.out.1) j hj
    have H5 := Lib.hid (And.intro h5.1 h5.2.1)
    clear e5 hw5 h5
    try simp only [Act.put, List.setIfInBounds_toArray, List.set_cons_zero, List.set_cons_succ]
    refine' wpAnyH_take (i := 26) (oi := { dst := some 31, op := Go.Op.indexAddr 48 (Go.Operand.tmp 14) (Go.Operand.tmp 15), type := 0, pos := "heap.go:38", after := #[{ on := 8, ground := Go.Ground.data }, { on := 9, ground := Go.Ground.data }, { on := 0, ground := Go.Ground.phase }, { on := 1, ground := Go.Ground.phase }, { on := 2, ground := Go.Ground.phase }, { on := 3, ground := Go.Ground.phase }, { on := 4, ground := Go.Ground.phase }, { on := 5, ground := Go.Ground.phase }, { on := 6, ground := Go.Ground.phase }, { on := 7, ground := Go.Ground.phase }, { on := 8, ground := Go.Ground.phase }, { on := 9, ground := Go.Ground.phase }, { on := 10, ground := Go.Ground.phase }, { on := 11, ground := Go.Ground.phase }, { on := 12, ground := Go.Ground.phase }, { on := 13, ground := Go.Ground.phase }, { on := 14, ground := Go.Ground.phase }, { on := 15, ground := Go.Ground.phase }, { on := 16, ground := Go.Ground.phase }, { on := 17, ground := Go.Ground.phase }, { on := 18, ground := Go.Ground.phase }, { on := 19, ground := Go.Ground.phase }, { on := 20, ground := Go.Ground.phase }, { on := 21, ground := Go.Ground.phase }, { on := 22, ground := Go.Ground.phase }, { on := 23, ground := Go.Ground.phase }, { on := 24, ground := Go.Ground.phase }, { on := 25, ground := Go.Ground.phase }], guard := none }) (v := _) rfl (by kernel_rfl) (by kernel_rfl) (by kernel_rfl) (fun _ _ _ h => h) (Or.inl ⟨by rfl, ?_⟩) (by assumption) ?_
    rotate_left
    · (intro W hSw; go_simp; try with_reducible rfl)
    try simp only [Act.put, List.setIfInBounds_toArray, List.set_cons_zero, List.set_cons_succ]
    refine wpAnyH_ready (rs := [27]) (by kernel_rfl) (by simp) ?_
    refine AllReadyH.cons (o := { dst := none, op := Go.Op.store 38 (Go.Operand.tmp 31) (Go.Operand.tmp 29), type := 0, pos := "heap.go:38", after := #[{ on := 26, ground := Go.Ground.data }, { on := 23, ground := Go.Ground.data }, { on := 25, ground := Go.Ground.chain }, { on := 0, ground := Go.Ground.phase }, { on := 1, ground := Go.Ground.phase }, { on := 2, ground := Go.Ground.phase }, { on := 3, ground := Go.Ground.phase }, { on := 4, ground := Go.Ground.phase }, { on := 5, ground := Go.Ground.phase }, { on := 6, ground := Go.Ground.phase }, { on := 7, ground := Go.Ground.phase }, { on := 8, ground := Go.Ground.phase }, { on := 9, ground := Go.Ground.phase }, { on := 10, ground := Go.Ground.phase }, { on := 11, ground := Go.Ground.phase }, { on := 12, ground := Go.Ground.phase }, { on := 13, ground := Go.Ground.phase }, { on := 14, ground := Go.Ground.phase }, { on := 15, ground := Go.Ground.phase }, { on := 16, ground := Go.Ground.phase }, { on := 17, ground := Go.Ground.phase }, { on := 18, ground := Go.Ground.phase }, { on := 19, ground := Go.Ground.phase }, { on := 20, ground := Go.Ground.phase }, { on := 21, ground := Go.Ground.phase }, { on := 22, ground := Go.Ground.phase }, { on := 23, ground := Go.Ground.phase }, { on := 24, ground := Go.Ground.phase }, { on := 25, ground := Go.Ground.phase }], guard := none }) rfl (fun K hK => ?_) AllReadyH.nil
    go_simp
    refine hK.out _ _ (cell_other9 (cell_other9 (cell_other9 hHeld HQA.out) HQA.out) HQA.out) (fun hHeld => ?_)
    clear hK K
    try simp only [Act.put, List.setIfInBounds_toArray, List.set_cons_zero, List.set_cons_succ]
    refine wpAnyH_done (by kernel_rfl) ?_ _
    refine NoPanic.normal ?_
    obtain ⟨w6, hw6⟩ : ∃ W, setE w5 ⟨r, j * 3, none⟩ (a1, a2, a3) = W := ⟨_, rfl⟩
    have e6 : (((w5.setCell { block := r, off := j * 3 } (.int .i64 a1)).setCell { block := r, off := j * 3 + 1 } (.int .i64 a2)).setCell { block := r, off := j * 3 + 2 } (.int .i64 a3)).drew = w6.drew := by rw [← hw6]; rfl
    rw [e6]
    have h6 := own_setE H5.out.1 (by rw [List.length_set]; exact HMM.out.1) hj (add_row r (j * 3)) (a1, a2, a3)
    rw [hw6] at h6
    have hsw : (H.set i (b1, b2, b3)).set j (a1, a2, a3) = swL H i j := by unfold swL; rw [HMM.out.2.1, HMM.out.2.2]
    rw [hsw] at h6
    have hgr : w.grownBy w6 (some r) := ⟨h6.2.1.os.trans H5.out.2.os, h6.2.1.tape.trans H5.out.2.tape, h6.2.1.output.trans H5.out.2.output, Nat.le_trans H5.out.2.size h6.2.1.size, fun k hk hn => (h6.2.1.block k (Nat.lt_of_lt_of_le hk H5.out.2.size) hn).trans (H5.out.2.block k hk hn)⟩
    have hrg : r ≠ g := fun e => HHI.out.d3 (by rw [e]; rfl)
    have hl' : (swL H i j).length = m := by rw [swL_len]; exact HMM.out.1
    have hat6 := rowE_at h6.1 hl'
    have hbk6 : w6.heap[q]? = some (.cells #[.int .i64 n, .slice (some ⟨r, 0, none⟩) m c, .map (some g)] 56 (0, 0)) := by
      have h1 := (hgr.block q (blk9_lt HHI.out.blk) (fun e => HQA.out (by injection e))).trans HHI.out.blk
      rw [HMM.out.1] at h1
      exact h1
    have hmp6 : MapQ w6 g m (PosE H) := by
      have h1 := HHI.out.map.block (hgr.block g HHI.out.map.lt (fun e => hrg (by injection e with e; exact e.symm)))
      rw [HMM.out.1] at h1
      exact h1
    have hei := evA_sw (H := H) (a := i) (b := j) (by rw [HMM.out.1]; exact hi) (by rw [HMM.out.1]; exact hj)
    have H6 := Lib.hid (And.intro h6.1 (And.intro hgr (And.intro hbk6 hmp6)))
    have HRG := Lib.hid hrg
    have r6i : ReM w6.drew q g (.slice (some ⟨r, 0, none⟩) m c) r (i * 3) (evA (swL H i j) i) := ⟨cell9_blk hbk6 1 rfl, cell9_blk hbk6 2 rfl, (hat6 i hi).1⟩
    have r6j : ReM w6.drew q g (.slice (some ⟨r, 0, none⟩) m c) r (j * 3) (evA (swL H i j) j) := ⟨cell9_blk hbk6 1 rfl, cell9_blk hbk6 2 rfl, (hat6 j hj).1⟩
    obtain ⟨⟨x1, x2, x3⟩, hx⟩ : ∃ x, evA (swL H i j) i = x := ⟨_, rfl⟩
    obtain ⟨⟨y1, y2, y3⟩, hy⟩ : ∃ x, evA (swL H i j) j = x := ⟨_, rfl⟩
    have hkx : In64 x2 ∧ In64 x3 := by
      have h1 := hei i
      rw [hx, HMM.out.2.1, HMM.out.2.2, if_pos rfl] at h1
      split at h1
      · cases h1; exact HK64.out.2
      · cases h1; exact HK64.out.1
    have hky : In64 y2 ∧ In64 y3 := by
      have h1 := hei j
      rw [hy, HMM.out.2.1, if_pos rfl] at h1
      cases h1; exact HK64.out.2
    rw [hx] at r6i
    rw [hy] at r6j
    have HXY := Lib.hid (And.intro hx (And.intro hy (And.intro hkx hky)))
    have HSi := Lib.hid (And.intro (r6i.bl (Gw.refl w6.drew).drew.below) r6j)
    have HKb : Hid (∀ V V', ReM V q g (.slice (some ⟨r, 0, none⟩) m c) r (i * 3) (x1, x2, x3) → Below V.heap.size V V' → ReM V' q g (.slice (some ⟨r, 0, none⟩) m c) r (i * 3) (x1, x2, x3)) := Lib.hid (fun V V' h hb => h.bl hb)
    have HKg : Hid (∀ V V', ReM V q g (.slice (some ⟨r, 0, none⟩) m c) r (i * 3) (x1, x2, x3) → V.grownBy V' (some g) → ReM V' q g (.slice (some ⟨r, 0, none⟩) m c) r (i * 3) (x1, x2, x3)) := Lib.hid (fun V V' h hb => h.gr hb HHI.out.d1 HRG.out)
    have HKO := Lib.hid (fun W => keyOf3_any x1 x2 x3 W)
    clear e6 hw6 h6 hsw hgr hrg hl' hat6 hbk6 hmp6 hei r6i r6j hx hy hkx hky c1 c2 c3 d1 d2 d3 f1 f2 f3 g1 g2 g3 hHeld
    have HSd := Lib.hid HSi.out.1
    unfold ReM at HKb HKg HSd
    dsimp only at HKb HKg HSd
    go_wp2_with fail
    go_region_held3 (fun V => V.cell? ⟨q, 1, none⟩ = some (.slice (some ⟨r, 0, none⟩) m c) ∧ V.cell? ⟨q, 2, none⟩ = some (.map (some g)) ∧ V.cell? ⟨r, i * 3, none⟩ = some (.int .i64 x1) ∧ V.cell? ⟨r, i * 3 + 1, none⟩ = some (.int .i64 x2) ∧ V.cell? ⟨r, i * 3 + 2, none⟩ = some (.int .i64 x3))
      (first | exact HSd.out | assumption | exact HKb.out _ _ (by assumption) (by assumption) | exact HKg.out _ _ (by assumption) (by assumption))
      (first
        | (with_reducible refine (HKO.out _).mono ?_; rintro e w7 ⟨rfl, hb7⟩)
        | (refine step_qput g m (PosE H) x2 x3 i ((H6.out.2.2.2.bl (Gw.refl w6).drew.drew.below).bl hb7) HXY.out.2.2.1.1 HXY.out.2.2.1.2 (by omega) ?_
           intro w8 hm8 hg8))
    have hkey := HHI.out.key
    have him : i < H.length := by rw [HMM.out.1]; exact hi
    have hjm : j < H.length := by rw [HMM.out.1]; exact hj
    have hsx : (PosE H (x2, x3)).isSome = true := by
      have h1 : evA (swL H i j) i ∈ H := (swL_perm him hjm).mem_iff.1 (evA_mem (by rw [swL_len]; exact him))
      obtain ⟨t, ht, e⟩ := mem_evA h1
      rw [HXY.out.1] at e
      have h2 := PosE.hit hkey ht
      rw [e] at h2
      rw [h2]
      rfl
    have hsy : (PosE H (y2, y3)).isSome = true := by
      have h1 : evA (swL H i j) j ∈ H := (swL_perm him hjm).mem_iff.1 (evA_mem (by rw [swL_len]; exact hjm))
      obtain ⟨t, ht, e⟩ := mem_evA h1
      rw [HXY.out.2.1] at e
      have h2 := PosE.hit hkey ht
      rw [e] at h2
      rw [h2]
      rfl
    have hg68 : w6.grownBy w8 (some g) := gb_trans (gb_trans (gb_below (some g) (Gw.refl w6).drew.drew.below) (gb_below (some g) hb7)) hg8
    have r8j : ReM w8 q g (.slice (some ⟨r, 0, none⟩) m c) r (j * 3) (y1, y2, y3) := ((HSi.out.2.bl (Gw.refl w6.drew).drew.below).bl hb7).gr hg8 HHI.out.d1 HRG.out
    have H8 := Lib.hid (And.intro (hm8.sized hsx) hg68)
    have HKb2 : Hid (∀ V V', ReM V q g (.slice (some ⟨r, 0, none⟩) m c) r (j * 3) (y1, y2, y3) → Below V.heap.size V V' → ReM V' q g (.slice (some ⟨r, 0, none⟩) m c) r (j * 3) (y1, y2, y3)) := Lib.hid (fun V V' h hb => h.bl hb)
    have HKg2 : Hid (∀ V V', ReM V q g (.slice (some ⟨r, 0, none⟩) m c) r (j * 3) (y1, y2, y3) → V.grownBy V' (some g) → ReM V' q g (.slice (some ⟨r, 0, none⟩) m c) r (j * 3) (y1, y2, y3)) := Lib.hid (fun V V' h hb => h.gr hb HHI.out.d1 HRG.out)
    have HSd2 := Lib.hid (r8j.bl (Gw.refl w8).drew.below)
    have HKO2 := Lib.hid (fun W => keyOf3_any y1 y2 y3 W)
    have HSY := Lib.hid (by
      by_cases e : ((y2, y3) : Int × Int) = (x2, x3)
      · rw [if_pos e]; rfl
      · rw [if_neg e]; exact hsy : (if ((y2, y3) : Int × Int) = (x2, x3) then some i else PosE H (y2, y3)).isSome = true)
    clear hm8 hb7 hg8 hg68 r8j hkey him hjm hsx hsy
    unfold ReM at HKb2 HKg2 HSd2
    dsimp only at HKb2 HKg2 HSd2
    go_wp2_with fail
    go_region_held3 (fun V => V.cell? ⟨q, 1, none⟩ = some (.slice (some ⟨r, 0, none⟩) m c) ∧ V.cell? ⟨q, 2, none⟩ = some (.map (some g)) ∧ V.cell? ⟨r, j * 3, none⟩ = some (.int .i64 y1) ∧ V.cell? ⟨r, j * 3 + 1, none⟩ = some (.int .i64 y2) ∧ V.cell? ⟨r, j * 3 + 2, none⟩ = some (.int .i64 y3))
      (first | exact HSd2.out | assumption | exact HKb2.out _ _ (by assumption) (by assumption) | exact HKg2.out _ _ (by assumption) (by assumption))
      (first
        | (with_reducible refine (HKO2.out _).mono ?_; rintro e w9 ⟨rfl, hb9⟩)
        | (refine step_qput g m (fun x => if x = (x2, x3) then some i else PosE H x) y2 y3 j ((H8.out.1.bl (Gw.refl w8).drew.below).bl hb9) HXY.out.2.2.2.1 HXY.out.2.2.2.2 (by omega) ?_
           intro wt hmt hgt))
    go_wp2_with fail
    go_end0
    have hgt2 : w6.grownBy wt (some g) := gb_trans H8.out.2 (gb_trans (gb_trans (gb_below (some g) (Gw.refl w8).drew.below) (gb_below (some g) hb9)) hgt)
    have hmt2 := MapQ.sized (f := fun x => if x = (x2, x3) then some i else PosE H x) (x := (y2, y3)) hmt HSY.out
    have him : i < H.length := by rw [HMM.out.1]; exact hi
    have hjm : j < H.length := by rw [HMM.out.1]; exact hj
    refine ⟨rfl, ?_, ?_⟩
    · have h := HHI.out
      have hlen2 : (swL H i j).length = m := by rw [swL_len]; exact HMM.out.1
      refine ⟨(hgt2.block q (blk9_lt H6.out.2.2.1) (fun e => h.d1 (by injection e))).trans H6.out.2.2.1, ?_, ?_, h.d1, fun e => HQA.out (by injection e with e; exact e.symm), fun e => HRG.out (by injection e), h.key.perm (swL_perm him hjm), fun e he => h.k64 e ((swL_perm him hjm).mem_iff.1 he), by rw [hlen2]; exact hlen⟩
      · rw [hlen2]
        exact own_block9 H6.out.1 (fun k hk => hgt2.block k (H6.out.1.lt k hk).2 (fun e => HRG.out (by injection hk with hk; injection e with e; exact hk.trans e)))
      · rw [hlen2]
        refine hmt2.congr fun x => ?_
        have h1 := posE_sw h.key him hjm x
        rw [HXY.out.1, HXY.out.2.1] at h1
        exact h1
    · exact (TuF.gr H6.out.2.1 (.inr (.inr rfl))).trans (TuF.gr hgt2 (.inr (.inl rfl)))
end Go.Proofs.YtkihfafkglkjnaaDoor

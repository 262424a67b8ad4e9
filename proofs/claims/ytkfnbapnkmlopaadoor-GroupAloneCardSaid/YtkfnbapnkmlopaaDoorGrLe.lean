/- Contract: leads: for each place those at the other end of its ways (rows of rows in memory). -/
import Derived.Test.YtkfnbapnkmlopaaDoorGrAq
import Derived.Test.YtkfnbapnkmlopaaDoorGrKo
namespace Go.Proofs.YtkfnbapnkmlopaaDoor
open Go.RowKit

/-- One more place behind i's. -/
def upE (E : Nat → List Nat) (i x : Nat) : Nat → List Nat := fun j => if j = i then E j ++ [x] else E j
theorem upE_eM {N : Wt} {k : Nat} {q : Nat × Nat} (h : N[k]? = some q) : eM (N.take (k + 1)) = upE (eM (N.take k)) q.1 q.2 := by
  obtain ⟨hk, e⟩ := List.getElem?_eq_some_iff.1 h
  funext j
  unfold upE eM
  rw [List.take_succ_eq_append_getElem hk, e, List.filter_append, List.map_append]
  by_cases hj : j = q.1
  · rw [if_pos hj]
    simp [hj]
  · rw [if_neg hj]
    have : ¬ q.1 = j := fun e => hj e.symm
    simp [this]
theorem eM_len (N : Wt) (j : Nat) : (eM N j).length ≤ N.length := by
  unfold eM
  rw [List.length_map]
  exact List.length_filter_le _ _
theorem own_keptG {w w' : World} {base n : Nat} {e : TypeId} {v : Value} {xs : List Value} (h : w.ownsRow base e 1 v n xs) (hb : ∀ g, v.ownBlock = some g → w'.heap[g]? = w.heap[g]?) : w'.ownsRow base e 1 v n xs := by
  obtain ⟨h1, h2⟩ := h
  refine ⟨h1, h2.imp id ?_⟩
  rintro ⟨g, cap, cur, rfl, hb', hh, rest⟩
  exact ⟨g, cap, cur, rfl, hb', (hb g rfl).trans hh, rest⟩
theorem infoN9 : (Tryd.prog.info? 3).map (fun i => (i.zero, i.size, i.bytes)) = some (some (.int .i64 0), 1, 8) := by kernel_rfl
theorem oneI9 {i : Nat} : ∀ u ∈ ([.int .i64 (i : Int)] : List Value), u.oneCell' = true := fun u hu => by
  rw [List.mem_singleton.1 hu]
  rfl
/-- Rows of places, each one's own, in a block of slices. -/
structure NxO (w : World) (B g : Nat) (E : Nat → List Nat) (n : Nat) (Z : List Value) : Prop where
  ge : B ≤ g
  blk : w.heap[g]? = some (.cells Z.toArray 48 (0, 0))
  len : Z.length = n
  row : ∀ i v, Z[i]? = some v → w.ownsRow B 3 1 v (E i).length ((E i).map intC)
  apt : ∀ (i j : Nat) (v u : Value) (b : Nat), Z[i]? = some v → Z[j]? = some u → v.ownBlock = some b → u.ownBlock = some b → i = j
theorem NxO.lt {w B g E n Z} (h : NxO w B g E n Z) : g < w.heap.size := (Array.getElem?_eq_some_iff.1 h.blk).1
theorem NxO.ne {w B g E n Z} (h : NxO w B g E n Z) {i : Nat} {v : Value} (hv : Z[i]? = some v) : v.ownBlock ≠ some g := fun e => by
  obtain ⟨cur, fr, hc⟩ := own_typed (h.row i v hv) g e
  rw [h.blk] at hc
  injection hc with hc
  injection hc with _ hc
  exact absurd hc (by decide)
theorem NxO.below {w w' B g E n Z} (h : NxO w B g E n Z) (hb : Below w.heap.size w w') : NxO w' B g E n Z :=
  ⟨h.ge, (hb.block g h.lt).trans h.blk, h.len, fun i v hv => own_sameO (h.row i v hv) hb, h.apt⟩
theorem NxO.base {w B B' g E n Z} (h : NxO w B g E n Z) (hb : B' ≤ B) : NxO w B' g E n Z :=
  ⟨Nat.le_trans hb h.ge, h.blk, h.len, fun i v hv => by
    obtain ⟨h1, h2⟩ := h.row i v hv
    refine ⟨h1, h2.imp id ?_⟩
    rintro ⟨g', cap, cur, rfl, hg, rest⟩
    exact ⟨g', cap, cur, rfl, Nat.le_trans hb hg, rest⟩, h.apt⟩
theorem NxO.load {w B g E n Z} (h : NxO w B g E n Z) {i : Nat} {v : Value} (hv : Z[i]? = some v) : w.cell? ⟨g, i, none⟩ = some v := cell9_blk h.blk i (by rw [List.getElem?_toArray]; exact hv)
theorem NxO.get {w B g E n Z} (h : NxO w B g E n Z) {i : Nat} (hi : i < n) : ∃ v, Z[i]? = some v := ⟨_, List.getElem?_eq_getElem (by rw [h.len]; exact hi)⟩
theorem NxO.rowN {w B g E n Z} (h : NxO w B g E n Z) {i : Nat} {v : Value} (hv : Z[i]? = some v) : RowN w v (E i) := RowN.owned rfl (h.row i v hv)
theorem NxO.push {w w1 w2 : World} {B g n i x : Nat} {E : Nat → List Nat} {Z : List Value} {v v' : Value} (h : NxO w B g E n Z) (hi : i < n) (hv : Z[i]? = some v) (hb : Below w.heap.size w w1)
    (ho : w2.ownsRow B 3 1 v' ((E i).length + 1) ((E i).map intC ++ [intC x])) (hg : w1.grownBy w2 v.ownBlock) (hw : v'.ownBlock = v.ownBlock ∨ v'.ownBlock = some w1.heap.size) :
    NxO (w2.setCell ⟨g, i, none⟩ v') B g (upE E i x) n (Z.set i v') := by
  have h1 := h.below hb
  have hg2 : w2.heap[g]? = some (.cells Z.toArray 48 (0, 0)) := (hg.block g h1.lt (fun e => h.ne hv e.symm)).trans h1.blk
  have hvne : v'.ownBlock ≠ some g := fun e => by
    rcases hw with k | k
    · rw [k] at e; exact h.ne hv e
    · rw [k] at e
      injection e with e
      have := h1.lt
      omega
  have hil : i < Z.length := by rw [h.len]; exact hi
  refine ⟨h.ge, ?_, by rw [List.length_set]; exact h.len, fun j u hu => ?_, fun j k u1 u2 b h1' h2' h3 h4 => ?_⟩
  · rw [heap_setCell_same _ g i _ _ _ hg2, List.setIfInBounds_toArray]
  · by_cases hj : i = j
    · subst hj
      rw [List.getElem?_set_self hil] at hu
      injection hu with hu
      subst hu
      have e : upE E i x i = E i ++ [x] := by unfold upE; rw [if_pos rfl]
      rw [e, List.length_append, List.map_append]
      exact own_keptG ho (fun b hb => Below.heap_setCell _ _ _ _ (fun e => hvne (by rw [hb, e])))
    · rw [List.getElem?_set_ne hj] at hu
      have e : upE E i x j = E j := by unfold upE; rw [if_neg (fun e => hj e.symm)]
      rw [e]
      have hr := h1.row j u hu
      refine own_keptG (own_keptG hr (fun b hb => hg.block b (hr.lt b hb).2 (fun e => hj (h.apt i j v u b hv hu e.symm hb)))) (fun b hb => Below.heap_setCell _ _ _ _ (fun e => h.ne hu (by rw [hb, e])))
  · have fresh : ∀ j u b, Z[j]? = some u → u.ownBlock = some b → v'.ownBlock = some b → i = j := fun j u b hu hb hb' => by
      rcases hw with k | k
      · rw [k] at hb'
        exact h.apt i j v u b hv hu hb' hb
      · rw [k] at hb'
        injection hb' with hb'
        have := ((h1.row j u hu).lt b hb).2
        omega
    by_cases hj : i = j
    · by_cases hk : i = k
      · omega
      · subst hj
        rw [List.getElem?_set_self hil] at h1'
        injection h1' with h1'
        subst h1'
        rw [List.getElem?_set_ne hk] at h2'
        exact fresh k u2 b h2' h4 h3
    · rw [List.getElem?_set_ne hj] at h1'
      by_cases hk : i = k
      · subst hk
        rw [List.getElem?_set_self hil] at h2'
        injection h2' with h2'
        subst h2'
        exact (fresh j u1 b h1' h3 h4).symm
      · rw [List.getElem?_set_ne hk] at h2'
        exact h.apt j k u1 u2 b h1' h2' h3 h4
set_option maxRecDepth 100000 in
theorem NxO.make (w : World) (n : Nat) (hn : n ≤ 4096) : ∃ V, (Instr.makeSlice 30 (.int .i64 (n : Nat)) (.int .i64 (n : Nat))).run Tryd.prog w = .ok (.slice (some ⟨w.heap.size, 0, none⟩) n n) V ∧ NxO V w.heap.size w.heap.size (fun _ => []) n (List.replicate n nilS) ∧ Below w.heap.size w V := by
  refine ⟨w.alloc (.cells (List.replicate n nilS).toArray 48), ?_, ⟨Nat.le_refl _, (MapKept.heap_alloc w _).1, by simp, fun i v hv => ?_, fun i j v u b hv _ hb _ => ?_⟩, (Below.refl _ _).alloc (Nat.le_refl _) _⟩
  · have hel : Elem Tryd.prog 30 48 nilS 24 := ⟨Tryd.underlying30, by kernel_rfl, rfl⟩
    have h := run_mk hel (n : Nat) (n : Nat) (by omega) (Int.le_refl _) (by omega) (by omega) w
    rw [h]
    congr 3
    rw [Int.toNat_natCast]
    apply Array.toList_inj.1
    have h2 := toList_madeCells_one nilS n
    rw [show (nilS : Value).cells = #[nilS] from rfl, h2]
  · rw [(List.mem_replicate.1 (List.mem_of_getElem? hv)).2]
    exact ⟨rfl, .inl ⟨rfl, rfl⟩⟩
  · rw [(List.mem_replicate.1 (List.mem_of_getElem? hv)).2] at hb
    cases hb
set_option maxRecDepth 100000 in
set_option maxHeartbeats 4000000 in
theorem leads_any (n : Nat) (v : Value) (M N : Wt) (b e : Nat) (w : World) (hn : n ≤ 4096) (hN : Okw n N) (hl : M.length ≤ 1048576) (hv : RowW w v (cst M)) (hbe : (b = 0 ∧ e = 1 ∧ N = M) ∨ (b = 1 ∧ e = 0 ∧ N = rvM M)) :
    Calls Tryd.prog 59 #[.int .i64 (n : Nat), v, .int .i64 (b : Nat), .int .i64 (e : Nat)] w fun r w' => ∃ g Z, r = .returned (.slice (some ⟨g, 0, none⟩) n n) ∧ NxO w' w.heap.size g (eM N) n Z ∧ Below w.heap.size w w' := by
  obtain ⟨A, c, rfl, hr⟩ := hv.form
  obtain ⟨m, hm⟩ : ∃ m, M.length = m := ⟨_, rfl⟩
  rw [hm] at hl
  rw [cst_len, hm] at hr ⊢
  obtain ⟨V1, hmb, hK1, hb1⟩ := NxO.make w n hn
  obtain ⟨g, hg⟩ : ∃ x, w.heap.size = x := ⟨_, rfl⟩
  rw [hg] at hmb hK1
  have hpq : ∀ (k : Nat) (p : Nat × Nat), M[k]? = some p → ∃ q : Nat × Nat, N[k]? = some q ∧ q.1 < n ∧ q.2 < n ∧ (∀ (W : World) (gw : Nat), W.heap[gw]? = some (.cells #[.int .i64 (p.1 : Nat), .int .i64 (p.2 : Nat)] 87 (0, 0)) → W.cell? ⟨gw, b, none⟩ = some (.int .i64 (q.1 : Nat)) ∧ W.cell? ⟨gw, e, none⟩ = some (.int .i64 (q.2 : Nat))) := fun k p hp => by
    rcases hbe with ⟨rfl, rfl, rfl⟩ | ⟨rfl, rfl, rfl⟩
    · exact ⟨p, hp, (hN p (List.mem_of_getElem? hp)).1, (hN p (List.mem_of_getElem? hp)).2, fun W gw h => ⟨cell9_blk h 0 rfl, cell9_blk h 1 rfl⟩⟩
    · have hq : (rvM M)[k]? = some (p.2, p.1) := by unfold rvM; rw [List.getElem?_map, hp]; rfl
      exact ⟨(p.2, p.1), hq, (hN _ (List.mem_of_getElem? hq)).1, (hN _ (List.mem_of_getElem? hq)).2, fun W gw h => ⟨cell9_blk h 1 rfl, cell9_blk h 0 rfl⟩⟩
  have hb2 : b < 2 ∧ e < 2 := by rcases hbe with ⟨rfl, rfl, _⟩ | ⟨rfl, rfl, _⟩ <;> omega
  have hNl : N.length = m := by
    rcases hbe with ⟨_, _, rfl⟩ | ⟨_, _, rfl⟩
    · exact hm
    · unfold rvM; rw [List.length_map]; exact hm
  have H1 := Lib.hid (And.intro hb1 (And.intro hK1 (And.intro hr (And.intro hm (And.intro hg (And.intro hpq hNl))))))
  obtain ⟨hb2, he2⟩ := hb2
  have q0 : (0 : Int) ≤ n := by omega
  have x0 : (0 : Int) ≤ b := by omega
  have x1 : (b : Int) < 2 := by omega
  have y0 : (0 : Int) ≤ e := by omega
  have y1 : (e : Int) < 2 := by omega
  clear hb1 hK1 hr hv hm hpq hNl hbe hN hg
  go_enter Tryd.func59, Tryd.ntmps59
  go_wp2_with fail
  clear hmb
  go_loopw [16] (fun kv wr => ∃ (k : Nat) (Z : List Value), kv = .int .i64 k ∧ k ≤ m ∧ Below w.heap.size w wr ∧ NxO wr g g (eM (N.take k)) n Z) (fun kv _ => m - (intOf kv).toNat)
  case atStart => exact ⟨0, _, rfl, Nat.zero_le _, H1.out.1, by rw [List.take_zero]; exact H1.out.2.1⟩
  case round =>
    obtain ⟨k, Z, rfl, hk, hb, hZ⟩ := hrel
    by_cases hkm : k < m
    · have s0 : (0 : Int) ≤ k := by omega
      have s1 : (k : Int) < m := by omega
      have hil : k < M.length := by rw [H1.out.2.2.2.1]; exact hkm
      obtain ⟨p, hp⟩ : ∃ p, M[k]? = some p := ⟨_, List.getElem?_eq_getElem hil⟩
      obtain ⟨ad, X, rfl, hX, k0, k1⟩ := (H1.out.2.2.1.below hb).parts.2.2.2 k hkm _ (cst_get hp)
      obtain ⟨q, hq, hq1, hq2, hcell⟩ := H1.out.2.2.2.2.2.1 k p hp
      dsimp only at k0 k1
      obtain ⟨W1, hW1⟩ : ∃ x, wr.alloc (.cells #[.int .i64 (p.1 : Nat), .int .i64 (p.2 : Nat)] 87) = x := ⟨_, rfl⟩
      have hbW : Below wr.heap.size wr W1 := by rw [← hW1]; exact (Below.refl _ _).alloc (Nat.le_refl _) _
      obtain ⟨gw, hgw⟩ : ∃ x, wr.heap.size = x := ⟨_, rfl⟩
      have hWb : W1.heap[gw]? = some (.cells #[.int .i64 (p.1 : Nat), .int .i64 (p.2 : Nat)] 87 (0, 0)) := by
        rw [← hW1, ← hgw]
        exact (MapKept.heap_alloc wr _).1
      have hZ1 := hZ.below hbW
      obtain ⟨cb, ce⟩ := hcell W1 gw hWb
      obtain ⟨vz, hvz⟩ := hZ.get hq1
      have cz := hZ1.load hvz
      have HZ := Lib.hid (And.intro hb (And.intro hZ (And.intro hZ1 (And.intro hbW (And.intro hWb (And.intro hq (And.intro hvz hgw)))))))
      obtain ⟨i, hi⟩ : ∃ i, q.1 = i := ⟨_, rfl⟩
      obtain ⟨x, hx⟩ : ∃ i, q.2 = i := ⟨_, rfl⟩
      rw [hi] at cb hq1 cz
      rw [hx] at ce hq2
      have HQ := Lib.hid (And.intro hi hx)
      have i0 : (0 : Int) ≤ i := by omega
      have i1 : (i : Int) < n := by omega
      clear hb hZ hZ1 hbW hWb hp hq hcell hvz hi hx hil
      obtain ⟨r, hr9⟩ : ∃ r, (eM (N.take k) i).length = r := ⟨_, rfl⟩
      have hrl : r ≤ 1048576 := by
        have h1 := eM_len (N.take k) i
        rw [List.length_take, hr9] at h1
        omega
      have cza : (W1.alloc (.cells #[.int .i64 (x : Nat)] 3)).cell? { block := g, off := i } = some vz := (World.cell?_of_block (a := { block := g, off := i }) (Below.heap_alloc W1.drew _ g HZ.out.2.2.1.lt)).trans cz
      have HSS := Lib.hid (And.intro cb ce)
      have hgwl : gw < W1.heap.size := (Array.getElem?_eq_some_iff.1 HZ.out.2.2.2.2.1).1
      have hvg : ∀ b', vz.ownBlock = some b' → b' < gw := fun b' hb' => by
        have := ((HZ.out.2.1.row _ _ HZ.out.2.2.2.2.2.2.1).lt b' hb').2
        have := HZ.out.2.2.2.2.2.2.2
        omega
      have HGw := Lib.hid (show gw < (W1.drew.alloc (.cells #[.int .i64 (x : Nat)] 3)).heap.size ∧ vz.ownBlock ≠ some gw ∧ (W1.drew.alloc (.cells #[.int .i64 (x : Nat)] 3)).heap[gw]? = W1.heap[gw]? ∧ gw ≠ g from
        ⟨by rw [World.size_alloc]; exact Nat.lt_succ_of_lt hgwl, fun h => absurd (hvg gw h) (Nat.lt_irrefl _), Below.heap_alloc W1.drew _ gw hgwl, fun h => by have := HZ.out.2.1.lt; have := HZ.out.2.2.2.2.2.2.2; omega⟩)
      have HSA := Lib.hid (show (W1.drew.alloc (.cells #[.int .i64 (x : Nat)] 3)).cell? { block := gw, off := b } = some (.int .i64 (i : Nat)) ∧ (W1.drew.alloc (.cells #[.int .i64 (x : Nat)] 3)).cell? { block := gw, off := e } = some (.int .i64 (x : Nat)) from
        ⟨(World.cell?_of_block (a := { block := gw, off := b }) HGw.out.2.2.1).trans cb, (World.cell?_of_block (a := { block := gw, off := e }) HGw.out.2.2.1).trans ce⟩)
      have hZ2 : Z[i]? = some vz := by rw [← HQ.out.1]; exact HZ.out.2.2.2.2.2.2.1
      have HZ2 := Lib.hid hZ2
      have hal : Below W1.heap.size W1 (W1.drew.alloc (.cells #[.int .i64 (x : Nat)] 3)) := (show Below W1.heap.size W1 W1.drew from ⟨rfl, rfl, rfl, Nat.le_refl _, fun _ _ => rfl⟩).alloc (Nat.le_refl _) _
      have hrow := HZ.out.2.2.1.row i vz hZ2
      rw [hr9] at hrow
      have HRw := Lib.hid (And.intro (own_sameO hrow hal) (And.intro (Rd.block (MapKept.heap_alloc W1.drew (.cells #[.int .i64 (x : Nat)] 3)).1) (show g ≤ (W1.drew.alloc (.cells #[.int .i64 (x : Nat)] 3)).heap.size by rw [World.size_alloc]; exact Nat.le_succ_of_le (Nat.le_of_lt HZ.out.2.2.1.lt))))
      have hfin : ∀ (v9 : Value) (w9 : World), w9.ownsRow g 3 1 v9 (r + 1) ((eM (N.take k) i).map intC ++ [.int .i64 (x : Nat)]) → (W1.drew.alloc (.cells #[.int .i64 (x : Nat)] 3)).grownBy w9 vz.ownBlock → (v9.ownBlock = vz.ownBlock ∨ v9.ownBlock = some (W1.drew.alloc (.cells #[.int .i64 (x : Nat)] 3)).heap.size) →
          w9.heap[g]? = some (.cells Z.toArray 48 (0, 0)) ∧ Below w.heap.size w (w9.setCell ⟨g, i, none⟩ v9) ∧ NxO (w9.setCell ⟨g, i, none⟩ v9) g g (eM (N.take (k + 1))) n (Z.set i v9) := fun v9 w9 ho9 hg9 hb9 => by
        have hz := HZ.out.2.2.1
        refine ⟨(hg9.block g ((hz.below hal).lt) (fun h => hz.ne hZ2 h.symm)).trans (hz.below hal).blk, ?_, ?_⟩
        · have hwb : Below w.heap.size w (W1.drew.alloc (.cells #[.int .i64 (x : Nat)] 3)) := HZ.out.1.trans ((HZ.out.2.2.2.1.trans (hal.mono HZ.out.2.2.2.1.size)).mono HZ.out.1.size)
          have hg0 := H1.out.2.2.2.2.1
          refine Below.setCell ⟨hg9.os.trans hwb.os, hg9.tape.trans hwb.tape, hg9.output.trans hwb.output, Nat.le_trans hwb.size hg9.size, fun b' hb' => (hg9.block b' (Nat.lt_of_lt_of_le hb' hwb.size) (fun h => ?_)).trans (hwb.block b' hb')⟩ (by show _ ≤ g; rw [hg0]; exact Nat.le_refl _) _
          have := ((hz.row i vz hZ2).lt b' h.symm).1
          omega
        · rw [upE_eM HZ.out.2.2.2.2.2.1, HQ.out.1, HQ.out.2]
          exact hz.push hq1 hZ2 hal (by rw [hr9]; exact ho9) hg9 hb9
      have HFin := Lib.hid hfin
      have fz0 := frz9_blk HZ.out.2.2.1.blk i
      clear hfin hrow hal hZ2 hvg hgwl hr9 cb ce
      go_upto_region 5 with (fail)
      refine wp_region_noPanic ?_
      refine wp_region_held_drew (S := fun W => W.cell? { block := gw, off := b } = some (.int .i64 (i : Nat)) ∧ W.cell? { block := gw, off := e } = some (.int .i64 (x : Nat))) (by kernel_rfl) HSS.out (fun hHeld => ?_)
      refine' wpAnyH_take (i := 0) (oi := { dst := some 20, op := Go.Op.move (Go.Operand.tmp 9), type := 30, pos := "graph.go:102", after := #[], guard := none }) (v := _) rfl (by kernel_rfl) (by kernel_rfl) (by kernel_rfl) (fun _ _ _ h => h) (Or.inl ⟨by rfl, ?_⟩) (by assumption) ?_
      rotate_left
      · (intro W hSw; go_simp; try with_reducible rfl)
      try simp only [Act.put, List.setIfInBounds_toArray, List.set_cons_zero, List.set_cons_succ]
      refine' wpAnyH_take (i := 1) (oi := { dst := some 21, op := Go.Op.move (Go.Operand.tmp 2), type := 3, pos := "graph.go:102", after := #[], guard := none }) (v := _) rfl (by kernel_rfl) (by kernel_rfl) (by kernel_rfl) (fun _ _ _ h => h) (Or.inl ⟨by rfl, ?_⟩) (by assumption) ?_
      rotate_left
      · (intro W hSw; go_simp; try with_reducible rfl)
      try simp only [Act.put, List.setIfInBounds_toArray, List.set_cons_zero, List.set_cons_succ]
      refine' wpAnyH_take (i := 2) (oi := { dst := some 22, op := Go.Op.indexAddr 87 (Go.Operand.tmp 11) (Go.Operand.tmp 21), type := 0, pos := "graph.go:102", after := #[{ on := 1, ground := Go.Ground.data }], guard := none }) (v := _) rfl (by kernel_rfl) (by kernel_rfl) (by kernel_rfl) (fun _ _ _ h => h) (Or.inl ⟨by rfl, ?_⟩) (by assumption) ?_
      rotate_left
      · (intro W hSw; go_simp; try with_reducible rfl)
      try simp only [Act.put, List.setIfInBounds_toArray, List.set_cons_zero, List.set_cons_succ]
      refine' wpAnyH_take (i := 3) (oi := { dst := some 23, op := Go.Op.load 3 (Go.Operand.tmp 22), type := 3, pos := "graph.go:102", after := #[{ on := 2, ground := Go.Ground.data }], guard := none }) (v := _) rfl (by kernel_rfl) (by kernel_rfl) (by kernel_rfl) (fun _ _ _ h => h) (Or.inl ⟨by rfl, ?_⟩) (by assumption) ?_
      rotate_left
      · (intro W hSw; obtain ⟨a0, a1⟩ := hSw; go_simp; try with_reducible rfl)
      try simp only [Act.put, List.setIfInBounds_toArray, List.set_cons_zero, List.set_cons_succ]
      refine' wpAnyH_take (i := 4) (oi := { dst := some 24, op := Go.Op.move (Go.Operand.tmp 9), type := 30, pos := "graph.go:102", after := #[], guard := none }) (v := _) rfl (by kernel_rfl) (by kernel_rfl) (by kernel_rfl) (fun _ _ _ h => h) (Or.inl ⟨by rfl, ?_⟩) (by assumption) ?_
      rotate_left
      · (intro W hSw; go_simp; try with_reducible rfl)
      try simp only [Act.put, List.setIfInBounds_toArray, List.set_cons_zero, List.set_cons_succ]
      refine' wpAnyH_take (i := 5) (oi := { dst := some 25, op := Go.Op.move (Go.Operand.tmp 2), type := 3, pos := "graph.go:102", after := #[], guard := none }) (v := _) rfl (by kernel_rfl) (by kernel_rfl) (by kernel_rfl) (fun _ _ _ h => h) (Or.inl ⟨by rfl, ?_⟩) (by assumption) ?_
      rotate_left
      · (intro W hSw; go_simp; try with_reducible rfl)
      try simp only [Act.put, List.setIfInBounds_toArray, List.set_cons_zero, List.set_cons_succ]
      refine' wpAnyH_take (i := 6) (oi := { dst := some 26, op := Go.Op.indexAddr 87 (Go.Operand.tmp 11) (Go.Operand.tmp 25), type := 0, pos := "graph.go:102", after := #[{ on := 5, ground := Go.Ground.data }], guard := none }) (v := _) rfl (by kernel_rfl) (by kernel_rfl) (by kernel_rfl) (fun _ _ _ h => h) (Or.inl ⟨by rfl, ?_⟩) (by assumption) ?_
      rotate_left
      · (intro W hSw; go_simp; try with_reducible rfl)
      try simp only [Act.put, List.setIfInBounds_toArray, List.set_cons_zero, List.set_cons_succ]
      refine' wpAnyH_take (i := 7) (oi := { dst := some 27, op := Go.Op.load 3 (Go.Operand.tmp 26), type := 3, pos := "graph.go:102", after := #[{ on := 6, ground := Go.Ground.data }], guard := none }) (v := _) rfl (by kernel_rfl) (by kernel_rfl) (by kernel_rfl) (fun _ _ _ h => h) (Or.inl ⟨by rfl, ?_⟩) (by assumption) ?_
      rotate_left
      · (intro W hSw; obtain ⟨a0, a1⟩ := hSw; go_simp; try with_reducible rfl)
      try simp only [Act.put, List.setIfInBounds_toArray, List.set_cons_zero, List.set_cons_succ]
      refine' wpAnyH_take (i := 8) (oi := { dst := some 28, op := Go.Op.indexAddr 30 (Go.Operand.tmp 24) (Go.Operand.tmp 27), type := 0, pos := "graph.go:102", after := #[{ on := 4, ground := Go.Ground.data }, { on := 7, ground := Go.Ground.data }], guard := none }) (v := _) rfl (by kernel_rfl) (by kernel_rfl) (by kernel_rfl) (fun _ _ _ h => h) (Or.inl ⟨by rfl, ?_⟩) (by assumption) ?_
      rotate_left
      · (intro W hSw; go_simp; try with_reducible rfl)
      try simp only [Act.put, List.setIfInBounds_toArray, List.set_cons_zero, List.set_cons_succ]
      refine' wpAnyH_take (i := 10) (oi := { dst := some 30, op := Go.Op.move (Go.Operand.tmp 3), type := 3, pos := "graph.go:102", after := #[], guard := none }) (v := _) rfl (by kernel_rfl) (by kernel_rfl) (by kernel_rfl) (fun _ _ _ h => h) (Or.inl ⟨by rfl, ?_⟩) (by assumption) ?_
      rotate_left
      · (intro W hSw; go_simp; try with_reducible rfl)
      try simp only [Act.put, List.setIfInBounds_toArray, List.set_cons_zero, List.set_cons_succ]
      refine' wpAnyH_take (i := 11) (oi := { dst := some 31, op := Go.Op.indexAddr 87 (Go.Operand.tmp 11) (Go.Operand.tmp 30), type := 0, pos := "graph.go:102", after := #[{ on := 10, ground := Go.Ground.data }], guard := none }) (v := _) rfl (by kernel_rfl) (by kernel_rfl) (by kernel_rfl) (fun _ _ _ h => h) (Or.inl ⟨by rfl, ?_⟩) (by assumption) ?_
      rotate_left
      · (intro W hSw; go_simp; try with_reducible rfl)
      try simp only [Act.put, List.setIfInBounds_toArray, List.set_cons_zero, List.set_cons_succ]
      refine' wpAnyH_take (i := 12) (oi := { dst := some 32, op := Go.Op.load 3 (Go.Operand.tmp 31), type := 3, pos := "graph.go:102", after := #[{ on := 11, ground := Go.Ground.data }], guard := none }) (v := _) rfl (by kernel_rfl) (by kernel_rfl) (by kernel_rfl) (fun _ _ _ h => h) (Or.inl ⟨by rfl, ?_⟩) (by assumption) ?_
      rotate_left
      · (intro W hSw; obtain ⟨a0, a1⟩ := hSw; go_simp; try with_reducible rfl)
      try simp only [Act.put, List.setIfInBounds_toArray, List.set_cons_zero, List.set_cons_succ]
      refine wpAnyH_ready (rs := [9, 13]) (by kernel_rfl) (by simp) ?_
      refine AllReadyH.cons (o := { dst := some 29, op := Go.Op.load 48 (Go.Operand.tmp 28), type := 48, pos := "graph.go:102", after := #[{ on := 8, ground := Go.Ground.data }], guard := none }) rfl (fun K hK => ?_) (AllReadyH.cons (o := { dst := some 33, op := Go.Op.buildSlice 48 1 #[(0, Go.Operand.tmp 32)], type := 48, pos := "graph.go:102", after := #[{ on := 12, ground := Go.Ground.data }], guard := none }) rfl (fun K hK => ?_) AllReadyH.nil)
      go_simp
      refine hK.out _ _ (by first | exact hHeld | exact HSA.out) (fun hHeld => ?_)
      clear hK K
      try simp only [Act.put, List.setIfInBounds_toArray, List.set_cons_zero, List.set_cons_succ]
      refine wpAnyH_ready (rs := [13]) (by kernel_rfl) (by simp) ?_
      refine AllReadyH.cons (o := { dst := some 33, op := Go.Op.buildSlice 48 1 #[(0, Go.Operand.tmp 32)], type := 48, pos := "graph.go:102", after := #[{ on := 12, ground := Go.Ground.data }], guard := none }) rfl (fun K hK => ?_) AllReadyH.nil
      go_simp
      refine hK.out _ _ (by first | exact hHeld | exact HSA.out) (fun hHeld => ?_)
      clear hK K
      try simp only [Act.put, List.setIfInBounds_toArray, List.set_cons_zero, List.set_cons_succ]
      rotate_left
      go_simp
      refine hK.out _ _ (by first | exact hHeld | exact HSA.out) (fun hHeld => ?_)
      clear hK K
      try simp only [Act.put, List.setIfInBounds_toArray, List.set_cons_zero, List.set_cons_succ]
      refine wpAnyH_ready (rs := [9]) (by kernel_rfl) (by simp) ?_
      refine AllReadyH.cons (o := { dst := some 29, op := Go.Op.load 48 (Go.Operand.tmp 28), type := 48, pos := "graph.go:102", after := #[{ on := 8, ground := Go.Ground.data }], guard := none }) rfl (fun K hK => ?_) AllReadyH.nil
      go_simp
      refine hK.out _ _ (by first | exact hHeld | exact HSA.out) (fun hHeld => ?_)
      clear hK K
      try simp only [Act.put, List.setIfInBounds_toArray, List.set_cons_zero, List.set_cons_succ]
      all_goals
        refine wpAnyH_ready (rs := [14]) (by kernel_rfl) (by simp) ?_
        refine AllReadyH.cons (o := { dst := some 34, op := Go.Op.call { callee := Go.Callee.builtin Go.Builtin.append, args := #[Go.Operand.tmp 29, Go.Operand.tmp 33], argTypes := #[48, 48] }, type := 48, pos := "graph.go:102", after := #[{ on := 9, ground := Go.Ground.data }, { on := 13, ground := Go.Ground.data }], guard := none }) rfl (fun K hK => ?_) AllReadyH.nil
        refine step_appK (by rfl) (.tmp 29) (.tmp 33) _ (by rfl) Tryd.underlying48 infoN9 rfl (by omega) g vz r ((eM (N.take k) i).map intC) (by rfl) HRw.out.1 (some ⟨W1.heap.size, 0, none⟩) 1 1 [.int .i64 (x : Nat)] (by rfl) rfl HRw.out.2.1 oneI9 (by unfold maxLen; omega) (by omega) HRw.out.2.2 ?_
        intro v9 w9 ho9 hg9 hb9
        have hcl : ∀ o, w9.cell? ⟨gw, o, none⟩ = W1.cell? ⟨gw, o, none⟩ := fun o => World.cell?_of_block (a := ⟨gw, o, none⟩) ((hg9.block gw HGw.out.1 (fun h => HGw.out.2.1 h.symm)).trans HGw.out.2.2.1)
        refine hK.out _ _ ⟨(hcl _).trans HSS.out.1, (hcl _).trans HSS.out.2⟩ (fun hHeld => ?_)
        clear hK K
        try simp only [Act.put, List.setIfInBounds_toArray, List.set_cons_zero, List.set_cons_succ]
        obtain ⟨gF, capF, hv9, _, _⟩ := ho9.form (by omega)
        subst hv9
        have hfin := HFin.out _ w9 ho9 ⟨hg9.os, hg9.tape, hg9.output, hg9.size, hg9.block⟩ hb9
        have ez := cell9_blk hfin.1 i (v := vz) (by rw [List.getElem?_toArray]; exact HZ2.out)
        have fz := frz9_blk hfin.1 i
        have HX := Lib.hid hfin.2
        clear ho9 hg9 hb9 hfin hcl
        refine' wpAnyH_take (i := 15) (oi := { dst := some 35, op := Go.Op.indexAddr 30 (Go.Operand.tmp 20) (Go.Operand.tmp 23), type := 0, pos := "graph.go:102", after := #[{ on := 0, ground := Go.Ground.data }, { on := 3, ground := Go.Ground.data }, { on := 0, ground := Go.Ground.phase }, { on := 1, ground := Go.Ground.phase }, { on := 2, ground := Go.Ground.phase }, { on := 3, ground := Go.Ground.phase }, { on := 4, ground := Go.Ground.phase }, { on := 5, ground := Go.Ground.phase }, { on := 6, ground := Go.Ground.phase }, { on := 7, ground := Go.Ground.phase }, { on := 8, ground := Go.Ground.phase }, { on := 9, ground := Go.Ground.phase }, { on := 10, ground := Go.Ground.phase }, { on := 11, ground := Go.Ground.phase }, { on := 12, ground := Go.Ground.phase }, { on := 13, ground := Go.Ground.phase }, { on := 14, ground := Go.Ground.phase }], guard := none }) (v := _) rfl (by kernel_rfl) (by kernel_rfl) (by kernel_rfl) (fun _ _ _ h => h) (Or.inl ⟨by rfl, ?_⟩) (by assumption) ?_
        rotate_left
        · (intro W hSw; go_simp; try with_reducible rfl)
        try simp only [Act.put, List.setIfInBounds_toArray, List.set_cons_zero, List.set_cons_succ]
        refine wpAnyH_ready (rs := [16]) (by kernel_rfl) (by simp) ?_
        refine AllReadyH.cons (o := { dst := none, op := Go.Op.store 48 (Go.Operand.tmp 35) (Go.Operand.tmp 34), type := 0, pos := "graph.go:102", after := #[{ on := 15, ground := Go.Ground.data }, { on := 14, ground := Go.Ground.data }, { on := 14, ground := Go.Ground.chain }, { on := 0, ground := Go.Ground.phase }, { on := 1, ground := Go.Ground.phase }, { on := 2, ground := Go.Ground.phase }, { on := 3, ground := Go.Ground.phase }, { on := 4, ground := Go.Ground.phase }, { on := 5, ground := Go.Ground.phase }, { on := 6, ground := Go.Ground.phase }, { on := 7, ground := Go.Ground.phase }, { on := 8, ground := Go.Ground.phase }, { on := 9, ground := Go.Ground.phase }, { on := 10, ground := Go.Ground.phase }, { on := 11, ground := Go.Ground.phase }, { on := 12, ground := Go.Ground.phase }, { on := 13, ground := Go.Ground.phase }, { on := 14, ground := Go.Ground.phase }], guard := none }) rfl (fun K hK => ?_) AllReadyH.nil
        go_simp
        refine hK.out _ _ ⟨(World.cell?_of_block (a := { block := gw, off := b }) (Below.heap_setCell _ ⟨g, i, none⟩ _ gw HGw.out.2.2.2)).trans hHeld.1, (World.cell?_of_block (a := { block := gw, off := e }) (Below.heap_setCell _ ⟨g, i, none⟩ _ gw HGw.out.2.2.2)).trans hHeld.2⟩ (fun hHeld => ?_)
        clear hK K
        try simp only [Act.put, List.setIfInBounds_toArray, List.set_cons_zero, List.set_cons_succ]
        refine wpAnyH_done (by kernel_rfl) ?_ _
        refine NoPanic.normal ?_
        simp only [Exit.inBlock, Exit.then]
        clear ez fz fz0 cz cza hHeld
        go_wp2_with fail
        exact ⟨⟨k + 1, Z.set i _, by go_num, hkm, HX.out.1, HX.out.2⟩, by simp [intOf]; omega⟩
    · have s1 : ¬ (k : Int) < m := by omega
      obtain rfl : m = k := by omega
      have hfl : N.take m = N := List.take_of_length_le (by rw [H1.out.2.2.2.2.2.2]; exact Nat.le_refl _)
      rw [hfl] at hZ
      have HZ := Lib.hid (And.intro hb hZ)
      clear hb hZ hfl
      go_wp2_with fail
      go_ret
      have hfx := HZ.out.2.base (B' := w.heap.size) (by rw [H1.out.2.2.2.2.1]; exact Nat.le_refl _)
      first | exact ⟨g, Z, rfl, hfx, HZ.out.1⟩ | exact ⟨g, rfl, ⟨Z, hfx⟩, HZ.out.1⟩ | exact ⟨g, rfl, Z, hfx, HZ.out.1⟩
end Go.Proofs.YtkfnbapnkmlopaaDoor

/- Contract: lookAtValues. -/
import Derived.Test.YthnogakjaaopkaaGreatDoorIhTa
namespace Go.Proofs.YthnogakjaaopkaaGreatDoor
open Go.RowKit

/-- Has a block's table a value that is too long? -/
def lngP (l : List MB) (i : Nat) : Prop := ∃ k f, gotP l k i = some f ∧ 4096 < f.2.2.length
set_option maxRecDepth 100000 in
theorem indexL_any (tt n : Nat) (l : List MB) (Zt : List Value) (w : World) (hn : l.length = n) (hl : n ≤ 1000000) (hT : TbS w tt l Zt (fun j => j < n)) :
    Calls Tryz.prog 52 #[.slice (some ⟨tt, 0, none⟩) n n, .func (.func 53) #[] #[]] w fun e w' => Below w.heap.size w w' ∧ ((∃ k : Nat, e = .returned (.int .i64 k) ∧ k < n ∧ lngP l k ∧ ∀ j, j < k → ¬ lngP l j) ∨ (e = .returned (.int .i64 (-1)) ∧ ∀ j, j < n → ¬ lngP l j)) := by
  have HR := Lib.hid (And.intro hn hT)
  have eg : Ent1 53 := enters_of Tryz.func53 (by kernel_rfl) rfl
  unfold Ent1 at eg
  clear hT
  go_enter Tryz.func52, Tryz.ntmps52
  go_wp2_with fail
  go_loopw [8] (fun i wr => ∃ k : Nat, k ≤ n ∧ i = .int .i64 k ∧ Below w.heap.size w wr ∧ ∀ j, j < k → ¬ lngP l j) (fun i _ => n - (intOf i).toNat)
  case atStart => exact ⟨0, Nat.zero_le _, rfl, Below.refl _ _, fun j hj => absurd hj (Nat.not_lt_zero j)⟩
  case round =>
    obtain ⟨k, hk, rfl, hb, hno⟩ := hrel
    have HK := Lib.hid (And.intro hb hno)
    by_cases hlk : k < n
    · obtain ⟨bj, hz, hTj⟩ := (HR.out.2.below hb).2.2 k hlk
      have c0 := cell9_blk (HR.out.2.below hb).1 k (by rw [List.getElem?_toArray]; exact hz)
      have HI := Lib.hid (isLong_any bj _ wr hTj)
      have q0 : (0 : Int) ≤ k := by omega
      have q1 : (k : Int) < n := by omega
      clear hz hTj hb hno
      go_wp2_with fail
      with_reducible refine HI.out.mono ?_
      rintro e w' ⟨hb2, ⟨rfl, kk, f, hf, hlg⟩ | ⟨rfl, hall⟩⟩
      · have HL := Lib.hid (And.intro hb2 (show lngP l k from ⟨kk, f, hf, hlg⟩))
        clear hb2 hf hlg
        go_wp2_with fail
        go_ret
        exact ⟨HK.out.1.trans (HL.out.1.mono HK.out.1.size), .inl ⟨k, rfl, hlk, HL.out.2, HK.out.2⟩⟩
      · have hnl : ¬ lngP l k := by
          rintro ⟨kk, f, hf, hlg⟩
          have := hall kk f hf
          omega
        have HL := Lib.hid (And.intro hb2 hnl)
        clear hb2 hall hnl
        go_wp2_with fail
        go_roundw
        case rel =>
          refine ⟨k + 1, by omega, by go_num, HK.out.1.trans (HL.out.1.mono HK.out.1.size), fun j hj => ?_⟩
          rcases Nat.lt_succ_iff_lt_or_eq.1 hj with h | rfl
          · exact HK.out.2 j h
          · exact HL.out.2
        case measure => simp [intOf]; omega
    · obtain rfl : k = n := by omega
      clear hb hno
      go_wp2_with fail
      go_ret
      exact ⟨HK.out.1, .inr ⟨rfl, HK.out.2⟩⟩
theorem TmZ.grown {w w' : World} {bt g : Nat} {Z : List Value} {l : List MB} (h : TmZ w bt Z l) (hg : w.grownBy w' (some g)) (hne : bt ≠ g) (hz : ∀ j x, w.cell? ⟨g, j, none⟩ ≠ some (intC x)) : TmZ w' bt Z l :=
  ⟨⟨(hg.block bt h.1.lt (fun e => by injection e with e; exact hne e)).trans h.1.1, h.1.2⟩, h.2.1, fun i b hb => by
    obtain ⟨v, e1, e2⟩ := h.2.2 i b hb
    exact ⟨v, e1, rowN_grown e2 hg hz⟩⟩
theorem set_noint {w : World} {ps mb bt n r : Nat} {A A2 A3 A4 : Option Addr} {c c2 n4 c4 : Nat} {t : TypeId} (h : w.heap[ps]? = some (.cells #[.slice A n c, .map (some mb), .slice A2 n c2, .slice A3 r bt, .slice A4 n4 c4] t (0, 0))) (j : Nat) (x : Nat) : w.cell? ⟨ps, j, none⟩ ≠ some (intC x) := by
  unfold World.cell? intC
  simp only [h]
  rcases j with _ | _ | _ | _ | _ | j <;> simp
theorem cell_other9 {W : World} {a b k j : Nat} {v u : Value} (h : W.cell? ⟨a, k, none⟩ = some v) (hne : a ≠ b) : (W.setCell ⟨b, j, none⟩ u).cell? ⟨a, k, none⟩ = some v :=
  (World.cell?_of_block (a := ⟨a, k, none⟩) (Below.heap_setCell W ⟨b, j, none⟩ u a hne)).trans h
set_option maxRecDepth 100000 in
set_option maxHeartbeats 4000000 in
theorem lookValues_any (W0 : World) (ps mb bt : Nat) (lv rv : Value) (R : List Nat) (Z : List Value) (l : List MB) (n : Nat) (w : World) (hn : l.length = n) (hl : n ≤ 1000000) (hf : ∀ b ∈ l, b.2.2.length ≤ 1000000 ∧ ∀ f ∈ b.2.2, f.2.1.length ≤ 1000000 ∧ f.2.2.length ≤ 900000) (hN : (allN l).length ≤ 1000000)
    (hbel : Below W0.heap.size W0 w) (hps : W0.heap.size ≤ ps) (hE : ErrT W0) (hv : RowB W0 lv l) (hS : w.heap[ps]? = some (.cells #[lv, .map (some mb), .slice (some ⟨bt, 0, none⟩) n n, rv, .slice none 0 0] 67 (0, 0))) (hZ : TmZ w bt Z l) (hbp : bt ≠ ps) (hR : RowN w rv R) (hW : WaR (edg l) n R (fun _ => false)) :
    Calls Tryz.prog 30 #[.pointer (some ⟨ps, 0, none⟩)] w fun e w' => LkE (fstB (wrgV l) 0 l) e ∧ w.grownBy w' (some ps) ∧
      (fstB (wrgV l) 0 l = none → ∃ tt Zt, w'.heap[ps]? = some (.cells #[lv, .map (some mb), .slice (some ⟨bt, 0, none⟩) n n, rv, .slice (some ⟨tt, 0, none⟩) n n] 67 (0, 0)) ∧ TbS w' tt l Zt (fun j => j < n) ∧ w.heap.size ≤ tt ∧ ∀ j, j < n → ∀ bj, Zt[j]? = some (.map (some bj)) → w.heap.size ≤ bj) := by
  have hcy : ¬ Cyc (edg l) := no_cyc fun j hj h => by
    have := (hW.lp j (by omega)).2 h
    cases this
  obtain ⟨A, c, rfl, hr⟩ := hv.form
  obtain ⟨AR, cR, rfl, hcR, hmR, hrR⟩ := hR
  obtain ⟨r, hr9⟩ : ∃ r, R.length = r := ⟨_, rfl⟩
  rw [hn] at hr hS
  rw [hr9] at hS hcR
  have hrn : r ≤ n := by rw [← hr9]; exact hW.len
  obtain ⟨g, hg⟩ : ∃ g, w.heap.size = g := ⟨_, rfl⟩
  have q0 : (0 : Int) ≤ n := by omega
  have hmk : ∀ W, (Instr.makeSlice 65 (.int .i64 (n : Nat)) (.int .i64 (n : Nat))).run Tryz.prog W = .ok (.slice (some ⟨W.heap.size, 0, none⟩) n n) (W.alloc (.cells (List.replicate n (Value.map none)).toArray 61)) := fun W => by
    have hel : Elem Tryz.prog 65 61 (.map none) 8 := ⟨Tryz.underlying65, by kernel_rfl, rfl⟩
    have h := run_mk hel (n : Nat) (n : Nat) q0 (Int.le_refl _) (by omega) (by omega) W
    rw [h]
    congr 3
    rw [Int.toNat_natCast]
    apply Array.toList_inj.1
    have h2 := toList_madeCells_one (Value.map none) n
    rw [show (Value.map none : Value).cells = #[Value.map none] from rfl, h2]
  obtain ⟨Z0, hZ0⟩ : ∃ Z, (List.replicate n (Value.map none)).toArray = Z := ⟨_, rfl⟩
  rw [hZ0] at hmk
  have HZ0 := Lib.hid hZ0
  obtain ⟨w1, hw1⟩ : ∃ x, w.alloc (.cells #[.int .i64 0, .int .i64 0] 29) = x := ⟨_, rfl⟩
  have hb1 : Below w.heap.size w w1 := by rw [← hw1]; exact (Below.refl _ _).alloc (Nat.le_refl _) _
  have b0 : w1.heap[g]? = some (.cells #[.int .i64 0, .int .i64 0] 29 (0, 0)) := by
    rw [← hw1, ← hg]
    exact (MapKept.heap_alloc w _).1
  have hs1 : w1.heap.size = g + 1 := by rw [← hw1]; simp [hg]
  have hS1 := (hb1.block ps (blk9_lt hS)).trans hS
  have s0 := cell9_blk hS1 0 rfl
  have hz2 : Below w1.heap.size w1 (w1.alloc (.cells Z0 61)) := (Below.refl _ _).alloc (Nat.le_refl _) _
  have bt0 : (w1.alloc (.cells Z0 61)).heap[g + 1]? = some (.cells Z0 61 (0, 0)) := by
    have h := (MapKept.heap_alloc w1 (.cells Z0 61)).1
    rwa [hs1] at h
  have hS2 := (hz2.block ps (blk9_lt hS1)).trans hS1
  have p4 := cell9_blk hS2 4 rfl
  have y4 := frz9_blk hS2 4
  have hpw := blk9_lt hS
  have hbw0 := hZ.1.lt
  have hni := set_noint (w := w) (t := 67) hS
  have HW := Lib.hid (And.intro hb1 (And.intro b0 (And.intro hbel (And.intro hr (And.intro hE (And.intro hZ (And.intro hni (And.intro hr9 (And.intro hW (And.intro hcy (And.intro hf (And.intro hmR (And.intro hv hrR)))))))))))))
  have HS2 := Lib.hid (And.intro hS2 (And.intro bt0 hz2))
  obtain ⟨R0, hRR⟩ : ∃ R, fstB (wrgV l) 0 l = R := ⟨_, rfl⟩
  rw [hRR]
  have HRR := Lib.hid hRR
  clear hRR hS hv hE hS1 hb1 hS2 bt0 hz2 hZ0 hZ hni hW hr9 hf hrR
  go_enter Tryz.func30, Tryz.ntmps30
  go_upto_region 2 with (fail)
  obtain ⟨w2, hw2⟩ : ∃ x, (w1.alloc (.cells Z0 61)).setCell ⟨ps, 4, none⟩ (.slice (some ⟨g + 1, 0, none⟩) n n) = x := ⟨_, rfl⟩
  have hpg : ps ≠ g := by omega
  have hpg1 : ps ≠ g + 1 := by omega
  have hsS : w2.heap[ps]? = some (.cells #[.slice A n c, .map (some mb), .slice (some ⟨bt, 0, none⟩) n n, .slice AR r cR, .slice (some ⟨g + 1, 0, none⟩) n n] 67 (0, 0)) := by
    rw [← hw2, heap_setCell_same _ ps 4 _ _ _ HS2.out.1]
    rfl
  have hsB : TbS w2 (g + 1) l (List.replicate n (Value.map none)) (fun j => j ∈ R.take 0) := by
    refine ⟨?_, by simp [hn], fun j hj => by simp at hj⟩
    rw [← hw2, Below.heap_setCell _ _ _ _ (fun e => hpg1 e.symm), HS2.out.2.1, HZ0.out]
  have hsG : w2.heap[g]? = some (.cells #[.int .i64 0, .int .i64 0] 29 (0, 0)) := by
    rw [← hw2, Below.heap_setCell _ _ _ _ (fun e => hpg e.symm)]
    exact (HS2.out.2.2.block g (by omega)).trans HW.out.2.1
  have hsz2 : w2.heap.size = g + 2 := by rw [← hw2]; simp [World.setCell, World.size_alloc, hs1]
  have hgr2 : w.grownBy w2 (some ps) := by
    rw [← hw2]
    refine ⟨HW.out.1.os, HW.out.1.tape, HW.out.1.output, by simp [World.setCell, World.size_alloc, hs1]; omega, fun k hk hkp => ?_⟩
    rw [Below.heap_setCell _ _ _ _ (fun e => hkp (by rw [e]))]
    exact (HS2.out.2.2.block k (by omega)).trans (HW.out.1.block k hk)
  have H2 := Lib.hid (And.intro hsS (And.intro hsB (And.intro hsG hgr2)))
  have s3 := cell9_blk hsS 3 rfl
  rw [hw2]
  clear hsS hsB hsG hgr2 hw2
  go_wp2_with fail
  go_loopw [21] (fun kv wr => ∃ (k : Nat) (Zt : List Value), k ≤ r ∧ kv = .int .i64 k ∧ w2.grownBy wr (some (g + 1)) ∧ TbS wr (g + 1) l Zt (fun j => j ∈ R.take k) ∧ ∀ j ∈ R.take k, ∀ bj, Zt[j]? = some (.map (some bj)) → g + 2 ≤ bj) (fun kv _ => r - (intOf kv).toNat)
  case atStart => exact ⟨0, _, Nat.zero_le _, rfl, World.grownBy.refl _ _, H2.out.2.1, fun j hj => by simp at hj⟩
  case round =>
    obtain ⟨k, Zt, hk, rfl, hgr, hTb, hup⟩ := hrel
    have hgblk : ∀ i, i < g + 2 → i ≠ g + 1 → wr.heap[i]? = w2.heap[i]? := fun i hi hm => hgr.block i (by omega) (fun e => by injection e with e; exact hm e)
    have hszr := hgr.size
    have hSr := (hgblk ps (by omega) hpg1).trans H2.out.1
    have hGr := (hgblk g (by omega) (by omega)).trans H2.out.2.2.1
    have hgw : w.grownBy wr (some ps) := ⟨hgr.os.trans H2.out.2.2.2.os, hgr.tape.trans H2.out.2.2.2.tape, hgr.output.trans H2.out.2.2.2.output, by omega, fun i hi hip => (hgblk i (by omega) (by omega)).trans (H2.out.2.2.2.block i hi hip)⟩
    have hbw : Below W0.heap.size W0 wr := grown_belowW HW.out.2.2.1 hgw (fun k e => by injection e with e; omega)
    by_cases hlk : k < r
    · have hkR : k < R.length := by rw [HW.out.2.2.2.2.2.2.2.1]; exact hlk
      obtain ⟨i, hi⟩ : ∃ i, R[k] = i := ⟨_, rfl⟩
      have hRk : R[k]? = some i := by rw [← hi]; exact List.getElem?_eq_getElem hkR
      have hin : i < n := (HW.out.2.2.2.2.2.2.2.2.1.all i).1 (List.mem_of_getElem? hRk)
      have hRw : RowN wr (.slice AR r cR) R := rowN_grown (w := w) ⟨AR, cR, by rw [HW.out.2.2.2.2.2.2.2.1], by rw [HW.out.2.2.2.2.2.2.2.1]; exact hcR, hmR, HW.out.2.2.2.2.2.2.2.2.2.2.2.2.2⟩ hgw HW.out.2.2.2.2.2.2.1
      have hRd : Rd wr AR (R.map intC) := by
        obtain ⟨A9, c9, e9, _, _, h9⟩ := hRw
        injection e9 with e9
        rw [e9]
        exact h9
      obtain ⟨adR, hAR, hcI⟩ := hRd.at_ (k := k) (by rw [List.length_map]; exact hkR)
      rw [List.getElem_map, hi] at hcI
      unfold intC at hcI
      clear hRw hRd
      subst hAR
      have hZr : TmZ wr bt Z l := HW.out.2.2.2.2.2.1.grown hgw hbp HW.out.2.2.2.2.2.2.1
      have hil : i < l.length := by omega
      obtain ⟨b, hb⟩ : ∃ b, l[i]? = some b := ⟨_, List.getElem?_eq_getElem hil⟩
      have hiz : i < Zt.length := by rw [hTb.2.1]; exact hil
      obtain ⟨vz, hvz⟩ : ∃ v, Zt[i]? = some v := ⟨_, List.getElem?_eq_getElem hiz⟩
      have hspl : R = R.take k ++ i :: R.drop (k + 1) := by
        conv => lhs; rw [← List.take_append_drop k R]
        rw [List.drop_eq_getElem_cons hkR, hi]
      have hDk : ∀ j ∈ edg l i, j ∈ R.take k := HW.out.2.2.2.2.2.2.2.2.1.ord HW.out.2.2.2.2.2.2.2.2.2.1 _ _ _ hspl
      have HTa := Lib.hid (fun W (h1 : Below wr.heap.size wr W) => tableOf_any ps bt (g + 1) n i (.slice A n c) (.map (some mb)) (.slice (some adR) r cR) Z Zt l (fun j => j ∈ R.take k) b W hn hl hb ((h1.block ps (blk9_lt hSr)).trans hSr) (HW.out.2.2.2.1.below (hbw.trans (h1.mono hbw.size))) (hZr.below h1) (hTb.below h1) hDk HW.out.2.2.2.2.2.2.2.2.2.1 HW.out.2.2.2.2.2.2.2.2.2.2.1 hN)
      have HTd := Lib.hid (HTa.out wr.drew ⟨rfl, rfl, rfl, Nat.le_refl _, fun _ _ => rfl⟩)
      clear HTa
      have t4 := cell9_blk hSr 4 rfl
      have ct := cell9_blk hTb.1 i (by rw [List.getElem?_toArray]; exact hvz)
      have fz := frz9_blk hTb.1 i
      have HSS := Lib.hid (And.intro t4 (And.intro ct fz))
      have HSt : Hid (∀ W, Below wr.drew.heap.size wr.drew W → W.cell? { block := ps, off := 4 } = some (.slice (some { block := g + 1, off := 0 }) n n) ∧ W.cell? { block := g + 1, off := i } = some vz ∧ W.frozen? { block := g + 1, off := i } = false) := fun W h => ⟨cell9_below (w := wr.drew) t4 h, cell9_below (w := wr.drew) ct h, frz9_blk ((h.block (g + 1) (blk9_lt (w := wr.drew) hTb.1)).trans hTb.1) i⟩
      have HH := Lib.hid (And.intro hgr (And.intro hTb (And.intro hup hRk)))
      have z0 : (0 : Int) ≤ i := by omega
      have z1 : (i : Int) < n := by omega
      have z2 : (0 : Int) ≤ k := by omega
      have z3 : (k : Int) < r := by omega
      clear hgr hTb hup hgblk hSr hGr hgw hbw hkR hi hRk hZr hb hiz hvz hspl hDk t4 ct fz
      go_wp2_with fail
      refine wp_region_noPanic ?_
      refine wp_region_held_drew (S := fun W => W.cell? { block := ps, off := 4 } = some (.slice (some { block := g + 1, off := 0 }) n n)) (by kernel_rfl) HSS.out.1 (fun hHeld => ?_)
      refine' wpAnyH_take (i := 0) (oi := { dst := some 25, op := Go.Op.move (Go.Operand.tmp 0), type := 56, pos := "inherit.go:203", after := #[], guard := none }) (v := _) rfl (by kernel_rfl) (by kernel_rfl) (by kernel_rfl) (fun _ _ _ h => h) (Or.inl ⟨by rfl, ?_⟩) (by assumption) ?_
      rotate_left
      · (intro W hSw; go_simp; try with_reducible rfl)
      try simp only [Act.put, List.setIfInBounds_toArray, List.set_cons_zero, List.set_cons_succ]
      refine' wpAnyH_take (i := 1) (oi := { dst := some 26, op := Go.Op.nilCheck (Go.Operand.tmp 25), type := 0, pos := "inherit.go:203", after := #[{ on := 0, ground := Go.Ground.data }], guard := none }) (v := _) rfl (by kernel_rfl) (by kernel_rfl) (by kernel_rfl) (fun _ _ _ h => h) (Or.inl ⟨by rfl, ?_⟩) (by assumption) ?_
      rotate_left
      · (intro W hSw; go_simp; try with_reducible rfl)
      try simp only [Act.put, List.setIfInBounds_toArray, List.set_cons_zero, List.set_cons_succ]
      refine' wpAnyH_take (i := 2) (oi := { dst := some 27, op := Go.Op.fieldAddr 67 (Go.Operand.tmp 26) 4, type := 0, pos := "inherit.go:203", after := #[{ on := 1, ground := Go.Ground.data }], guard := none }) (v := _) rfl (by kernel_rfl) (by kernel_rfl) (by kernel_rfl) (fun _ _ _ h => h) (Or.inl ⟨by rfl, ?_⟩) (by assumption) ?_
      rotate_left
      · (intro W hSw; go_simp; try with_reducible rfl)
      try simp only [Act.put, List.setIfInBounds_toArray, List.set_cons_zero, List.set_cons_succ]
      refine' wpAnyH_take (i := 3) (oi := { dst := some 28, op := Go.Op.load 65 (Go.Operand.tmp 27), type := 65, pos := "inherit.go:203", after := #[{ on := 2, ground := Go.Ground.data }], guard := none }) (v := _) rfl (by kernel_rfl) (by kernel_rfl) (by kernel_rfl) (fun _ _ _ h => h) (Or.inl ⟨by rfl, ?_⟩) (by assumption) ?_
      rotate_left
      · (intro W hSw; go_simp; try with_reducible rfl)
      try simp only [Act.put, List.setIfInBounds_toArray, List.set_cons_zero, List.set_cons_succ]
      refine' wpAnyH_take (i := 4) (oi := { dst := some 29, op := Go.Op.move (Go.Operand.tmp 5), type := 3, pos := "inherit.go:203", after := #[], guard := none }) (v := _) rfl (by kernel_rfl) (by kernel_rfl) (by kernel_rfl) (fun _ _ _ h => h) (Or.inl ⟨by rfl, ?_⟩) (by assumption) ?_
      rotate_left
      · (intro W hSw; go_simp; try with_reducible rfl)
      try simp only [Act.put, List.setIfInBounds_toArray, List.set_cons_zero, List.set_cons_succ]
      refine' wpAnyH_take (i := 5) (oi := { dst := some 30, op := Go.Op.move (Go.Operand.tmp 0), type := 56, pos := "inherit.go:203", after := #[], guard := none }) (v := _) rfl (by kernel_rfl) (by kernel_rfl) (by kernel_rfl) (fun _ _ _ h => h) (Or.inl ⟨by rfl, ?_⟩) (by assumption) ?_
      rotate_left
      · (intro W hSw; go_simp; try with_reducible rfl)
      try simp only [Act.put, List.setIfInBounds_toArray, List.set_cons_zero, List.set_cons_succ]
      refine' wpAnyH_take (i := 6) (oi := { dst := some 31, op := Go.Op.move (Go.Operand.tmp 5), type := 3, pos := "inherit.go:203", after := #[], guard := none }) (v := _) rfl (by kernel_rfl) (by kernel_rfl) (by kernel_rfl) (fun _ _ _ h => h) (Or.inl ⟨by rfl, ?_⟩) (by assumption) ?_
      rotate_left
      · (intro W hSw; go_simp; try with_reducible rfl)
      try simp only [Act.put, List.setIfInBounds_toArray, List.set_cons_zero, List.set_cons_succ]
      refine wpAnyH_ready (rs := [7]) (by kernel_rfl) (by simp) ?_
      refine AllReadyH.cons (o := { dst := some 32, op := Go.Op.call { callee := Go.Callee.value (Go.Operand.func 51), args := #[Go.Operand.tmp 30, Go.Operand.tmp 31], argTypes := #[56, 3] }, type := 61, pos := "inherit.go:203", after := #[{ on := 5, ground := Go.Ground.data }, { on := 6, ground := Go.Ground.data }], guard := none }) rfl (fun K hK => ?_) AllReadyH.nil
      go_simp
      with_reducible refine (HTd.out).mono ?_
      rintro e V ⟨tb, rfl, hT, hb, htb⟩
      clear hHeld
      try go_wp2_with fail
      refine hK.out _ _ (HSt.out V hb).1 (fun hHeld => ?_)
      clear hK K
      have ct2 := (HSt.out V hb).2.1
      have fz2 := (HSt.out V hb).2.2
      try simp only [Act.put, List.setIfInBounds_toArray, List.set_cons_zero, List.set_cons_succ]
      refine' wpAnyH_take (i := 8) (oi := { dst := some 33, op := Go.Op.indexAddr 65 (Go.Operand.tmp 28) (Go.Operand.tmp 29), type := 0, pos := "inherit.go:203", after := #[{ on := 3, ground := Go.Ground.data }, { on := 4, ground := Go.Ground.data }, { on := 0, ground := Go.Ground.phase }, { on := 1, ground := Go.Ground.phase }, { on := 2, ground := Go.Ground.phase }, { on := 3, ground := Go.Ground.phase }, { on := 4, ground := Go.Ground.phase }, { on := 5, ground := Go.Ground.phase }, { on := 6, ground := Go.Ground.phase }, { on := 7, ground := Go.Ground.phase }], guard := none }) (v := _) rfl (by kernel_rfl) (by kernel_rfl) (by kernel_rfl) (fun _ _ _ h => h) (Or.inl ⟨by rfl, ?_⟩) (by assumption) ?_
      rotate_left
      · (intro W hSw; go_simp; try with_reducible rfl)
      try simp only [Act.put, List.setIfInBounds_toArray, List.set_cons_zero, List.set_cons_succ]
      refine wpAnyH_ready (rs := [9]) (by kernel_rfl) (by simp) ?_
      refine AllReadyH.cons (o := { dst := none, op := Go.Op.store 61 (Go.Operand.tmp 33) (Go.Operand.tmp 32), type := 0, pos := "inherit.go:203", after := #[{ on := 8, ground := Go.Ground.data }, { on := 7, ground := Go.Ground.data }, { on := 7, ground := Go.Ground.chain }, { on := 0, ground := Go.Ground.phase }, { on := 1, ground := Go.Ground.phase }, { on := 2, ground := Go.Ground.phase }, { on := 3, ground := Go.Ground.phase }, { on := 4, ground := Go.Ground.phase }, { on := 5, ground := Go.Ground.phase }, { on := 6, ground := Go.Ground.phase }, { on := 7, ground := Go.Ground.phase }], guard := none }) rfl (fun K hK => ?_) AllReadyH.nil
      go_simp
      refine hK.out _ _ (cell_other9 hHeld hpg1) (fun hHeld => ?_)
      clear hK K
      try simp only [Act.put, List.setIfInBounds_toArray, List.set_cons_zero, List.set_cons_succ]
      refine wpAnyH_done (by kernel_rfl) ?_ _
      refine NoPanic.normal ?_
      have hbV : Below wr.heap.size wr V := ⟨hb.os, hb.tape, hb.output, hb.size, hb.block⟩
      have htw : wr.heap.size ≤ tb := htb
      have HV := Lib.hid (And.intro hT (And.intro hbV htw))
      clear hT hb htb hbV htw ct2 fz2 hHeld
      simp only [Exit.inBlock, Exit.then]
      go_wp2_with fail
      have hset : ∀ i', i' ≠ g + 1 → (V.setCell ⟨g + 1, i, none⟩ (.map (some tb))).heap[i']? = V.heap[i']? := fun i' hi => Below.heap_setCell _ _ _ _ hi
      have hsV := HV.out.2.1.size
      have hgrow : w2.grownBy (V.setCell ⟨g + 1, i, none⟩ (.map (some tb))) (some (g + 1)) := by
        have h1 := HH.out.1.trans (grow_ofB HV.out.2.1 (some (g + 1)))
        refine ⟨h1.os, h1.tape, h1.output, by have := h1.size; simpa [World.setCell] using this, fun i' hi him => ?_⟩
        rw [hset i' (fun e => him (by rw [e]))]
        exact h1.block i' hi him
      have hTV := HH.out.2.1.below HV.out.2.1
      have htk : ∀ j, j ∈ R.take (k + 1) ↔ j ∈ R.take k ∨ j = i := fun j => by
        rw [List.take_add_one, HH.out.2.2.2]
        simp
      refine ⟨⟨k + 1, Zt.set i (.map (some tb)), hlk, by go_num, hgrow, ⟨?_, by rw [List.length_set]; exact hTV.2.1, fun j hj => ?_⟩, fun j hj bj hbj => ?_⟩, by simp [intOf]; omega⟩
      · rw [heap_setCell_same V (g + 1) i _ _ _ hTV.1, List.setIfInBounds_toArray]
      · by_cases e : j = i
        · subst e
          exact ⟨tb, by rw [List.getElem?_set_self (by rw [hTV.2.1, hn]; exact hin)], HV.out.1.block (hset tb (by have := HV.out.2.2; omega))⟩
        · have hj2 := ((htk j).1 hj).resolve_right e
          obtain ⟨bj, e1, e2⟩ := hTV.2.2 j hj2
          have h3 := HH.out.2.2.1 j hj2 bj e1
          exact ⟨bj, by rw [List.getElem?_set_ne (fun h => e h.symm)]; exact e1, e2.block (hset bj (by omega))⟩
      · by_cases e : j = i
        · subst e
          rw [List.getElem?_set_self (by rw [hTV.2.1, hn]; exact hin)] at hbj
          injection hbj with hbj
          injection hbj with hbj
          injection hbj with hbj
          have := HV.out.2.2
          omega
        · rw [List.getElem?_set_ne (fun h => e h.symm)] at hbj
          exact HH.out.2.2.1 j (((htk j).1 hj).resolve_right e) bj hbj
    · obtain rfl : k = r := by omega
      have hall : ∀ j, j < n → j ∈ R.take k := fun j hj => by
        rw [List.take_of_length_le (by rw [HW.out.2.2.2.2.2.2.2.1]; exact Nat.le_refl _)]
        exact (HW.out.2.2.2.2.2.2.2.2.1.all j).2 hj
      have hTn : TbS wr (g + 1) l Zt (fun j => j < n) := ⟨hTb.1, hTb.2.1, fun j hj => hTb.2.2 j (hall j hj)⟩
      have hIx := indexL_any (g + 1) n l Zt wr hn hl hTn
      have HIx := Lib.hid hIx
      have s4 := cell9_blk hSr 4 rfl
      have HF := Lib.hid (And.intro hTn (And.intro hGr (And.intro hSr (And.intro hgw (And.intro hbw (fun j (hj : j < n) => hup j (hall j hj)))))))
      clear hall hTn hIx hGr hSr hgw hgr hgblk hTb hup hbw
      go_wp2_with fail
      with_reducible refine HIx.out.mono ?_
      rintro e w3 ⟨hb3, ⟨i, rfl, hin, hlg, hno⟩ | ⟨rfl, hno⟩⟩
      · have hil : i < l.length := by omega
        obtain ⟨b, hb⟩ : ∃ b, l[i]? = some b := ⟨_, List.getElem?_eq_getElem hil⟩
        have hfst : fstB (wrgV l) 0 l = some (b.1, 2) := fstB_hit l 0 i b hb (by rw [Nat.zero_add]; exact if_pos ((tooL_P HW.out.2.2.2.2.2.2.2.2.2.1 hil).2 hlg)) (fun j c hj hc => by rw [Nat.zero_add]; exact if_neg fun h => hno j hj ((tooL_P HW.out.2.2.2.2.2.2.2.2.2.1 (by omega)).1 h))
        have hR0 : R0 = some (b.1, 2) := by rw [← HRR.out]; exact hfst
        have hbw3 : Below W0.heap.size W0 w3 := HF.out.2.2.2.2.1.trans (hb3.mono HF.out.2.2.2.2.1.size)
        obtain ⟨ad, X, vF, rfl, hX, k0', k1', k2', hrf⟩ := HW.out.2.2.2.1.parts.2.2.2 i hin b hb
        have k0 := cell9_below k0' hbw3
        have hS3 := (hb3.block ps (blk9_lt HF.out.2.2.1)).trans HF.out.2.2.1
        have s0 := cell9_blk hS3 0 rfl
        have HWr := Lib.hid (fun W h => wrong_any b.1 2 W h)
        unfold errK at HWr
        have H3 := Lib.hid (And.intro hb3 (And.intro hbw3 hR0))
        have r0 : (0 : Int) ≤ i := by omega
        have r1 : (i : Int) < n := by omega
        clear hb3 hbw3 hR0 hfst hno hlg hrf k0' k1' k2' hS3 HRR
        go_wp2_with fail
        with_reducible refine (HWr.out _ (HW.out.2.2.2.2.1.below H3.out.2.1)).mono ?_
        rintro e w7 ⟨rfl, hb7⟩
        have hg3 := (H3.out.1.block g (blk9_lt HF.out.2.1)).trans HF.out.2.1
        have hg7 := (hb7.block g (blk9_lt hg3)).trans hg3
        have z0 := cell9_blk hg7 0 rfl
        have z1 := cell9_blk hg7 1 rfl
        have y0 := frz9_blk hg7 0
        have y1 := frz9_blk hg7 1
        have H7 := Lib.hid (And.intro hg7 (H3.out.1.trans (hb7.mono H3.out.1.size)))
        clear hb7 hg7 hg3
        unfold plV
        go_wp2_with fail
        refine bodyPost_ret (results_cellO rfl _ _ g _ #[.int .i64 b.1, .int .i64 2] (0, 0) _ rfl (set2P H7.out.1) Tryz.underlying29 rfl (by kernel_rfl)) rfl ?_
        rw [H3.out.2.2]
        exact ⟨rfl, grown_set2' HF.out.2.2.2.1 H7.out.2 (by omega), fun h => by cases h⟩
      · have hfst : fstB (wrgV l) 0 l = none := fstB_none l 0 (fun j c hc => by
          have hj := (List.getElem?_eq_some_iff.1 hc).1
          rw [Nat.zero_add]
          exact if_neg fun h => hno j (by omega) ((tooL_P HW.out.2.2.2.2.2.2.2.2.2.1 hj).1 h))
        have hR0 : R0 = none := by rw [← HRR.out]; exact hfst
        have H3 := Lib.hid (And.intro hb3 hR0)
        clear hb3 hR0 hfst hno HRR
        go_wp2_with fail
        with_reducible refine (right_any _).mono ?_
        rintro e w8 ⟨rfl, hb8⟩
        have hb38 := H3.out.1.trans (hb8.mono H3.out.1.size)
        have h8 := (hb38.block g (blk9_lt HF.out.2.1)).trans HF.out.2.1
        have z0 := cell9_blk h8 0 rfl
        have z1 := cell9_blk h8 1 rfl
        have y0 := frz9_blk h8 0
        have y1 := frz9_blk h8 1
        have H8 := Lib.hid (And.intro h8 hb38)
        clear h8 hb8 hb38
        unfold plV
        go_wp2_with fail
        refine bodyPost_ret (results_cellO rfl _ _ g _ #[.int .i64 0, .int .i64 0] (0, 0) _ rfl (set2P H8.out.1) Tryz.underlying29 rfl (by kernel_rfl)) rfl ?_
        rw [H3.out.2]
        refine ⟨rfl, grown_set2' HF.out.2.2.2.1 H8.out.2 (by omega), fun _ => ⟨g + 1, Zt, ?_, ?_, by omega, fun j hj bj hbj => by have := HF.out.2.2.2.2.2 j (by omega) bj hbj; omega⟩⟩
        · rw [set2_other hpg, hn, HW.out.2.2.2.2.2.2.2.1]
          exact (H8.out.2.block ps (blk9_lt HF.out.2.2.1)).trans HF.out.2.2.1
        · have hT := HF.out.1.below H8.out.2
          refine ⟨(set2_other (by omega)).trans hT.1, hT.2.1, fun j hj => ?_⟩
          obtain ⟨bj, e1, e2⟩ := hT.2.2 j hj
          have := HF.out.2.2.2.2.2 j hj bj e1
          exact ⟨bj, e1, e2.block (set2_other (by omega))⟩
end Go.Proofs.YthnogakjaaopkaaGreatDoor

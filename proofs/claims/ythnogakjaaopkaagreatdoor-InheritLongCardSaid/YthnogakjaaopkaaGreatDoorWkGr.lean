/- WkG, WkR, WkA, in one text. -/
import Derived.Test.YthnogakjaaopkaaGreatDoorWkMc
import Derived.Test.YthnogakjaaopkaaGreatDoorShelfI
import Derived.Laws.CopyOwn
import Derived.Deep.RegionLaw
/- Contract: goTo. -/
namespace Go.Proofs.YthnogakjaaopkaaGreatDoor
open Go.RowKit

theorem oneI {i : Nat} : ∀ u ∈ ([.int .i64 (i : Int)] : List Value), u.oneCell' = true := fun u hu => by
  rw [List.mem_singleton.1 hu]
  rfl
def GoC (W0 : World) (pw bb bl n : Nat) (tv : Value) (E : Nat → List Nat) (m : Nat) : Prop :=
  ∀ (G : List Nat) (s : Tj) (i : Nat) (ov rv : Value) (w : World), newT n s.b ≤ m → TJ E n G s → i < n → s.b i = -1 → (∀ g ∈ G, Rch E g i) → WkM W0 pw bb bl n tv ov rv s w →
    Calls Tryz.prog 68 #[.pointer (some ⟨pw, 0, none⟩), .int .i64 (i : Nat)] w fun e w' => e = .returned (.tuple #[]) ∧ ∃ s' ov' rv', GoP E n G i s s' ∧ WkM W0 pw bb bl n tv ov' rv' s' w'
set_option maxRecDepth 100000 in
set_option maxHeartbeats 4000000 in
theorem goTo_step (W0 : World) (pw bb bl n : Nat) (tv : Value) (E : Nat → List Nat) (hn : n ≤ 1000000) (hT : TmR W0 tv E n) (hE : ∀ v, v < n → ∀ j ∈ E v, j < n) (hEl : ∀ v, v < n → (E v).length ≤ 1000000) (m : Nat) (ih : GoC W0 pw bb bl n tv E m) : GoC W0 pw bb bl n tv E (m + 1) := by
  intro G s i ov rv w hm hJ hi hb hg hM
  have hn63 : n < 9223372036854775807 := by omega
  have hiG : i ∉ G := fun h => by
    obtain ⟨a, ha, _⟩ := hJ.gr i h
    exact (hJ.opn hn63 ha).1 hb
  obtain ⟨AO, cO, hov, _, _, _, _, _⟩ := owns_form hM.ow
  subst hov
  obtain ⟨L, hL⟩ : ∃ L, s.O.length = L := ⟨_, rfl⟩
  have hLn : L ≤ n := by rw [← hL]; exact hJ.len
  have HK0 := Lib.hid (GoK.init hJ hn63 hi hb hg)
  have HM := Lib.hid hM
  have HJ := Lib.hid (And.intro hJ (And.intro hm (And.intro hb (And.intro hg hiG))))
  have HI := Lib.hid ih
  have hMa := hM.below ((Below.refl w.heap.size w).alloc (Nat.le_refl _) (.cells #[.int .i64 (i : Nat)] 3))
  have c1 := hM.c1
  have a1 := hMa.c1
  have HMa := Lib.hid hMa
  rw [hL] at c1 a1
  have q0 : (0 : Int) ≤ i := by omega
  have q1 : (i : Int) < n := by omega
  have q2 : (0 : Int) ≤ L := by omega
  clear hM hMa hJ hm hb hg hiG ih
  go_enter Tryz.func68, Tryz.ntmps68
  go_upto_region 2 with
    (at_builtin
     refine wpList_app rfl (.tmp 16) (.tmp 18) 64 rfl elN W0.heap.size (.slice AO L cO) L (s.O.map intC) rfl (by have h := HMa.out.ow; rw [hL] at h; exact h) (some ⟨w.heap.size, 0, none⟩) 1 1 [.int .i64 i] rfl rfl (Rd.block (MapKept.heap_alloc w (.cells #[.int .i64 (i : Nat)] 3)).1) oneI (by unfold maxLen; omega) (by omega) (by have := HMa.out.bel.size; exact this) ?_
     intro v' w1 ho hgr hob
     obtain ⟨A1, k1, rfl, _, _, _, _, _⟩ := owns_form ho
     have HA := Lib.hid (And.intro ho (And.intro hgr hob))
     have b1 := (hgr.block pw (Array.getElem?_eq_some_iff.1 HMa.out.st).1 (fun e => (HMa.out.no pw (by rw [hL]; exact e.symm)).1 rfl)).trans HMa.out.st
     have d1 := cell9_blk b1 1 rfl
     have d2 := frz9_blk b1 1
     clear ho hgr hob b1)
  have hM2 := HMa.out.putO (w' := w1) (ov' := .slice A1 (L + 1) k1) (O' := s.O ++ [i]) (by
    have h := HA.out.1
    rw [List.length_append, hL, List.map_append]
    exact h) (by have h := HA.out.2.1; rw [hL]; exact h) (by
    rw [hL]
    rcases HA.out.2.2 with h | h
    · exact .inl h
    · exact .inr ⟨_, h, Nat.le_refl _⟩)
  obtain ⟨w2, hw2⟩ : ∃ x, w1.setCell ⟨pw, 1, none⟩ (.slice A1 (L + 1) k1) = x := ⟨_, rfl⟩
  rw [hw2] at hM2
  have c2 := hM2.c2
  have g2 := hM2.bk.load hi
  have f2 := hM2.bk.frz i
  have hM3 := hM2.setB i L
  obtain ⟨w3, hw3⟩ : ∃ x, w2.setCell ⟨bb, i, none⟩ (.int .i64 (L : Nat)) = x := ⟨_, rfl⟩
  rw [hw3] at hM3
  obtain ⟨AT, Z, rfl, hZ, hZl, hZr⟩ := hT
  have hZi : i < Z.length := by rw [hZl]; exact hi
  have c0 := hM3.c0
  obtain ⟨adz, hAz, lz⟩ := (hZ.below hM3.bel).at_ hZi
  subst hAz
  obtain ⟨AE, cE, hZe, _, _, hrE⟩ := hZr i _ (List.getElem?_eq_getElem hZi)
  rw [hZe] at lz
  obtain ⟨q, hq⟩ : ∃ q, (E i).length = q := ⟨_, rfl⟩
  rw [hq] at lz
  have HE := Lib.hid (And.intro hrE hq)
  have hq9 : q ≤ 1000000 := by rw [← hq]; exact hEl i hi
  have HK : Hid (GoK E n G i s ⟨s.O ++ [i], upI s.b i (L : Nat), s.R, s.p⟩ 0) := by have h := HK0.out; rw [hL] at h; exact h
  have HM3 := Lib.hid hM3
  have HZ := Lib.hid (And.intro hZ (And.intro hZl hZr))
  have hyb : (⟨s.O ++ [i], s.b, s.R, s.p⟩ : Tj).b i = s.b i := rfl
  rw [hyb] at g2
  generalize s.b i = y2 at g2
  clear hM2 hM3 hZ hZr hrE hZe hq hyb HK0
  go_wp2_with fail
  go_loopw [37] (fun kv wr => ∃ (k : Nat) (s' : Tj) (ov' rv' : Value), k ≤ q ∧ kv = .int .i64 k ∧ GoK E n G i s s' k ∧ WkM W0 pw bb bl n (.slice (some adz) n n) ov' rv' s' wr) (fun kv _ => q - (intOf kv).toNat)
  case atStart => exact ⟨0, _, _, _, Nat.zero_le _, rfl, HK.out, HM3.out⟩
  case round =>
    obtain ⟨k, s', ov', rv', hk, rfl, hK', hM'⟩ := hrel
    by_cases hlk : k < q
    · have hkE : k < (E i).length := by rw [HE.out.2]; exact hlk
      obtain ⟨t, ht⟩ : ∃ t, (E i)[k] = t := ⟨_, rfl⟩
      have htm : t ∈ E i := by rw [← ht]; exact List.getElem_mem hkE
      have htn : t < n := hE i hi t htm
      obtain ⟨ae, hAe, ce⟩ := (HE.out.1.below hM'.bel).at_ (k := k) (by rw [List.length_map]; exact hkE)
      subst hAe
      rw [List.getElem_map, ht] at ce
      unfold intC at ce
      have c2' := hM'.c2
      have gt' := hM'.bk.load htn
      have gi' := hM'.bk.load hi
      have fi' := hM'.bk.frz i
      have r0 : (0 : Int) ≤ k := by omega
      have r1 : (k : Int) < q := by omega
      have r2 : (0 : Int) ≤ t := by omega
      have r3 : (t : Int) < n := by omega
      have HKK := Lib.hid hK'
      have HMM := Lib.hid hM'
      have HT := Lib.hid (And.intro htm htn)
      have hstep := fun h => hK'.step hn63 hkE ht htn h HJ.out.2.2.1
      have hback := fun s9 h => hK'.back hn63 hkE ht htn HJ.out.2.2.1 (s' := s9) h
      have HST := Lib.hid (And.intro hstep hback)
      clear hstep hback
      by_cases hs : s'.b t = -1
      · have hcall := HI.out (i :: G) s' t ov' rv' wr (by
          have h1 := newT_lt (n := n) (b := s.b) (b' := s'.b) hi HJ.out.2.2.1 (hK'.T.opn hn63 hK'.at_i).1 (fun v hv => by rw [(hK'.old v hv).1]; exact hv)
          have := HJ.out.2.1
          omega) hK'.T htn hs (fun g hgm => by
          rcases List.mem_cons.1 hgm with rfl | hgm
          · exact .inr (.one htm)
          · exact .inr ((HJ.out.2.2.2.1 g hgm).wy (.one htm))) hM'
        have HC := Lib.hid hcall
        rw [hs] at gt'
        clear hK' hM' hcall gi' fi' hs hkE ht htm
        go_wp2_with fail
        with_reducible refine HC.out.mono ?_
        rintro e w5 ⟨rfl, s5, ov5, rv5, hP5, hM5⟩
        have c2' := hM5.c2
        have gt' := hM5.bk.load htn
        have gi' := hM5.bk.load hi
        have fi' := hM5.bk.frz i
        have hmin : (if s5.b t < s5.b i then s5.b t else s5.b i) = min (s5.b i) (s5.b t) := by split <;> omega
        have hres : WkM W0 pw bb bl n (.slice (some adz) n n) ov5 rv5 ⟨s5.O, upI s5.b i (if s5.b t < s5.b i then s5.b t else s5.b i), s5.R, s5.p⟩ (w5.drew.setCell ⟨bb, i, none⟩ (.int .i64 (if s5.b t < s5.b i then s5.b t else s5.b i))) := (hM5.below ⟨rfl, rfl, rfl, Nat.le_refl _, fun _ _ => rfl⟩ : WkM W0 pw bb bl n (.slice (some adz) n n) ov5 rv5 s5 w5.drew).setB i _
        have HRS := Lib.hid hres
        have HP := Lib.hid (HST.out.2 s5 hP5)
        have HMN := Lib.hid hmin
        obtain ⟨xi, hxi⟩ : ∃ x, s5.b i = x := ⟨_, rfl⟩
        obtain ⟨xt, hxt⟩ : ∃ x, s5.b t = x := ⟨_, rfl⟩
        rw [hxi, hxt] at HRS HMN HP
        rw [hxi] at gi'
        rw [hxt] at gt'
        have HSS : Hid (∀ u, (w5.drew.setCell ⟨bb, i, none⟩ u).cell? ⟨pw, 2, none⟩ = some (.slice (some ⟨bb, 0, none⟩) n n)) := fun u => (World.cell?_of_block (Below.heap_setCell w5.drew ⟨bb, i, none⟩ u pw (fun e => HM3.out.ne.1 e))).trans c2'
        clear hP5 hM5 hmin hres hxi hxt
        go_wp2_with fail
        have gtd : w5.drew.cell? { block := bb, off := t } = some (.int .i64 xt) := gt'
        have gid : w5.drew.cell? { block := bb, off := i } = some (.int .i64 xi) := gi'
        have fid : w5.drew.frozen? { block := bb, off := i } = false := fi'
        have c2d : w5.drew.cell? { block := pw, off := 2 } = some (.slice (some ⟨bb, 0, none⟩) n n) := c2'
        refine wp_region_noPanic ?_
        refine wp_region_held_drew (S := fun W => W.cell? ⟨pw, 2, none⟩ = some (.slice (some ⟨bb, 0, none⟩) n n)) (by kernel_rfl) c2d (fun hHeld => ?_)
        refine' wpAnyH_take (i := 0) (oi := { dst := some 52, op := Go.Op.move (Go.Operand.tmp 0), type := 178, pos := "walk.go:50", after := #[], guard := none }) (v := _) rfl (by kernel_rfl) (by kernel_rfl) (by kernel_rfl) (fun _ _ _ h => h) (Or.inl ⟨by rfl, ?_⟩) (by assumption) ?_
        rotate_left
        · (intro W hSw; go_simp; try with_reducible rfl)
        try simp only [Act.put, List.setIfInBounds_toArray, List.set_cons_zero, List.set_cons_succ]
        refine' wpAnyH_take (i := 1) (oi := { dst := some 53, op := Go.Op.nilCheck (Go.Operand.tmp 52), type := 0, pos := "walk.go:50", after := #[{ on := 0, ground := Go.Ground.data }], guard := none }) (v := _) rfl (by kernel_rfl) (by kernel_rfl) (by kernel_rfl) (fun _ _ _ h => h) (Or.inl ⟨by rfl, ?_⟩) (by assumption) ?_
        rotate_left
        · (intro W hSw; go_simp; try with_reducible rfl)
        try simp only [Act.put, List.setIfInBounds_toArray, List.set_cons_zero, List.set_cons_succ]
        refine' wpAnyH_take (i := 2) (oi := { dst := some 54, op := Go.Op.fieldAddr 152 (Go.Operand.tmp 53) 2, type := 0, pos := "walk.go:50", after := #[{ on := 1, ground := Go.Ground.data }], guard := none }) (v := _) rfl (by kernel_rfl) (by kernel_rfl) (by kernel_rfl) (fun _ _ _ h => h) (Or.inl ⟨by rfl, ?_⟩) (by assumption) ?_
        rotate_left
        · (intro W hSw; go_simp; try with_reducible rfl)
        try simp only [Act.put, List.setIfInBounds_toArray, List.set_cons_zero, List.set_cons_succ]
        refine' wpAnyH_take (i := 3) (oi := { dst := some 55, op := Go.Op.load 64 (Go.Operand.tmp 54), type := 64, pos := "walk.go:50", after := #[{ on := 2, ground := Go.Ground.data }], guard := none }) (v := _) rfl (by kernel_rfl) (by kernel_rfl) (by kernel_rfl) (fun _ _ _ h => h) (Or.inl ⟨by rfl, ?_⟩) (by assumption) ?_
        rotate_left
        · (intro W hSw; have f0 : W.cell? ⟨pw, 2, none⟩ = some (.slice (some ⟨bb, 0, none⟩) n n) := hSw; go_simp; try with_reducible rfl)
        try simp only [Act.put, List.setIfInBounds_toArray, List.set_cons_zero, List.set_cons_succ]
        refine' wpAnyH_take (i := 4) (oi := { dst := some 56, op := Go.Op.move (Go.Operand.tmp 1), type := 3, pos := "walk.go:50", after := #[], guard := none }) (v := _) rfl (by kernel_rfl) (by kernel_rfl) (by kernel_rfl) (fun _ _ _ h => h) (Or.inl ⟨by rfl, ?_⟩) (by assumption) ?_
        rotate_left
        · (intro W hSw; go_simp; try with_reducible rfl)
        try simp only [Act.put, List.setIfInBounds_toArray, List.set_cons_zero, List.set_cons_succ]
        refine' wpAnyH_take (i := 5) (oi := { dst := some 57, op := Go.Op.move (Go.Operand.tmp 0), type := 178, pos := "walk.go:50", after := #[], guard := none }) (v := _) rfl (by kernel_rfl) (by kernel_rfl) (by kernel_rfl) (fun _ _ _ h => h) (Or.inl ⟨by rfl, ?_⟩) (by assumption) ?_
        rotate_left
        · (intro W hSw; go_simp; try with_reducible rfl)
        try simp only [Act.put, List.setIfInBounds_toArray, List.set_cons_zero, List.set_cons_succ]
        refine' wpAnyH_take (i := 6) (oi := { dst := some 58, op := Go.Op.nilCheck (Go.Operand.tmp 57), type := 0, pos := "walk.go:50", after := #[{ on := 5, ground := Go.Ground.data }], guard := none }) (v := _) rfl (by kernel_rfl) (by kernel_rfl) (by kernel_rfl) (fun _ _ _ h => h) (Or.inl ⟨by rfl, ?_⟩) (by assumption) ?_
        rotate_left
        · (intro W hSw; go_simp; try with_reducible rfl)
        try simp only [Act.put, List.setIfInBounds_toArray, List.set_cons_zero, List.set_cons_succ]
        refine' wpAnyH_take (i := 7) (oi := { dst := some 59, op := Go.Op.fieldAddr 152 (Go.Operand.tmp 58) 2, type := 0, pos := "walk.go:50", after := #[{ on := 6, ground := Go.Ground.data }], guard := none }) (v := _) rfl (by kernel_rfl) (by kernel_rfl) (by kernel_rfl) (fun _ _ _ h => h) (Or.inl ⟨by rfl, ?_⟩) (by assumption) ?_
        rotate_left
        · (intro W hSw; go_simp; try with_reducible rfl)
        try simp only [Act.put, List.setIfInBounds_toArray, List.set_cons_zero, List.set_cons_succ]
        refine' wpAnyH_take (i := 8) (oi := { dst := some 60, op := Go.Op.load 64 (Go.Operand.tmp 59), type := 64, pos := "walk.go:50", after := #[{ on := 7, ground := Go.Ground.data }], guard := none }) (v := _) rfl (by kernel_rfl) (by kernel_rfl) (by kernel_rfl) (fun _ _ _ h => h) (Or.inl ⟨by rfl, ?_⟩) (by assumption) ?_
        rotate_left
        · (intro W hSw; have f0 : W.cell? ⟨pw, 2, none⟩ = some (.slice (some ⟨bb, 0, none⟩) n n) := hSw; go_simp; try with_reducible rfl)
        try simp only [Act.put, List.setIfInBounds_toArray, List.set_cons_zero, List.set_cons_succ]
        refine' wpAnyH_take (i := 9) (oi := { dst := some 61, op := Go.Op.move (Go.Operand.tmp 1), type := 3, pos := "walk.go:50", after := #[], guard := none }) (v := _) rfl (by kernel_rfl) (by kernel_rfl) (by kernel_rfl) (fun _ _ _ h => h) (Or.inl ⟨by rfl, ?_⟩) (by assumption) ?_
        rotate_left
        · (intro W hSw; go_simp; try with_reducible rfl)
        try simp only [Act.put, List.setIfInBounds_toArray, List.set_cons_zero, List.set_cons_succ]
        refine' wpAnyH_take (i := 10) (oi := { dst := some 62, op := Go.Op.indexAddr 64 (Go.Operand.tmp 60) (Go.Operand.tmp 61), type := 0, pos := "walk.go:50", after := #[{ on := 8, ground := Go.Ground.data }, { on := 9, ground := Go.Ground.data }], guard := none }) (v := _) rfl (by kernel_rfl) (by kernel_rfl) (by kernel_rfl) (fun _ _ _ h => h) (Or.inl ⟨by rfl, ?_⟩) (by assumption) ?_
        rotate_left
        · (intro W hSw; go_simp; try with_reducible rfl)
        try simp only [Act.put, List.setIfInBounds_toArray, List.set_cons_zero, List.set_cons_succ]
        refine' wpAnyH_take (i := 12) (oi := { dst := some 64, op := Go.Op.move (Go.Operand.tmp 0), type := 178, pos := "walk.go:50", after := #[], guard := none }) (v := _) rfl (by kernel_rfl) (by kernel_rfl) (by kernel_rfl) (fun _ _ _ h => h) (Or.inl ⟨by rfl, ?_⟩) (by assumption) ?_
        rotate_left
        · (intro W hSw; go_simp; try with_reducible rfl)
        try simp only [Act.put, List.setIfInBounds_toArray, List.set_cons_zero, List.set_cons_succ]
        refine' wpAnyH_take (i := 13) (oi := { dst := some 65, op := Go.Op.nilCheck (Go.Operand.tmp 64), type := 0, pos := "walk.go:50", after := #[{ on := 12, ground := Go.Ground.data }], guard := none }) (v := _) rfl (by kernel_rfl) (by kernel_rfl) (by kernel_rfl) (fun _ _ _ h => h) (Or.inl ⟨by rfl, ?_⟩) (by assumption) ?_
        rotate_left
        · (intro W hSw; go_simp; try with_reducible rfl)
        try simp only [Act.put, List.setIfInBounds_toArray, List.set_cons_zero, List.set_cons_succ]
        refine' wpAnyH_take (i := 14) (oi := { dst := some 66, op := Go.Op.fieldAddr 152 (Go.Operand.tmp 65) 2, type := 0, pos := "walk.go:50", after := #[{ on := 13, ground := Go.Ground.data }], guard := none }) (v := _) rfl (by kernel_rfl) (by kernel_rfl) (by kernel_rfl) (fun _ _ _ h => h) (Or.inl ⟨by rfl, ?_⟩) (by assumption) ?_
        rotate_left
        · (intro W hSw; go_simp; try with_reducible rfl)
        try simp only [Act.put, List.setIfInBounds_toArray, List.set_cons_zero, List.set_cons_succ]
        refine' wpAnyH_take (i := 15) (oi := { dst := some 67, op := Go.Op.load 64 (Go.Operand.tmp 66), type := 64, pos := "walk.go:50", after := #[{ on := 14, ground := Go.Ground.data }], guard := none }) (v := _) rfl (by kernel_rfl) (by kernel_rfl) (by kernel_rfl) (fun _ _ _ h => h) (Or.inl ⟨by rfl, ?_⟩) (by assumption) ?_
        rotate_left
        · (intro W hSw; have f0 : W.cell? ⟨pw, 2, none⟩ = some (.slice (some ⟨bb, 0, none⟩) n n) := hSw; go_simp; try with_reducible rfl)
        try simp only [Act.put, List.setIfInBounds_toArray, List.set_cons_zero, List.set_cons_succ]
        refine' wpAnyH_take (i := 16) (oi := { dst := some 68, op := Go.Op.move (Go.Operand.tmp 6), type := 3, pos := "walk.go:50", after := #[], guard := none }) (v := _) rfl (by kernel_rfl) (by kernel_rfl) (by kernel_rfl) (fun _ _ _ h => h) (Or.inl ⟨by rfl, ?_⟩) (by assumption) ?_
        rotate_left
        · (intro W hSw; go_simp; try with_reducible rfl)
        try simp only [Act.put, List.setIfInBounds_toArray, List.set_cons_zero, List.set_cons_succ]
        refine' wpAnyH_take (i := 17) (oi := { dst := some 69, op := Go.Op.indexAddr 64 (Go.Operand.tmp 67) (Go.Operand.tmp 68), type := 0, pos := "walk.go:50", after := #[{ on := 15, ground := Go.Ground.data }, { on := 16, ground := Go.Ground.data }], guard := none }) (v := _) rfl (by kernel_rfl) (by kernel_rfl) (by kernel_rfl) (fun _ _ _ h => h) (Or.inl ⟨by rfl, ?_⟩) (by assumption) ?_
        rotate_left
        · (intro W hSw; go_simp; try with_reducible rfl)
        try simp only [Act.put, List.setIfInBounds_toArray, List.set_cons_zero, List.set_cons_succ]
        refine wpAnyH_ready (rs := [11, 18]) (by kernel_rfl) (by simp) ?_
        refine AllReadyH.cons (o := { dst := some 63, op := Go.Op.load 3 (Go.Operand.tmp 62), type := 3, pos := "walk.go:50", after := #[{ on := 10, ground := Go.Ground.data }], guard := none }) rfl (fun K hK => ?_) (AllReadyH.cons (o := { dst := some 70, op := Go.Op.load 3 (Go.Operand.tmp 69), type := 3, pos := "walk.go:50", after := #[{ on := 17, ground := Go.Ground.data }], guard := none }) rfl (fun K hK => ?_) AllReadyH.nil)
        go_simp
        refine hK.out _ _ c2d (fun hHeld => ?_)
        clear hK K
        try simp only [Act.put, List.setIfInBounds_toArray, List.set_cons_zero, List.set_cons_succ]
        refine wpAnyH_ready (rs := [18]) (by kernel_rfl) (by simp) ?_
        refine AllReadyH.cons (o := { dst := some 70, op := Go.Op.load 3 (Go.Operand.tmp 69), type := 3, pos := "walk.go:50", after := #[{ on := 17, ground := Go.Ground.data }], guard := none }) rfl (fun K hK => ?_) AllReadyH.nil
        go_simp
        refine hK.out _ _ c2d (fun hHeld => ?_)
        clear hK K
        try simp only [Act.put, List.setIfInBounds_toArray, List.set_cons_zero, List.set_cons_succ]
        rotate_left
        go_simp
        refine hK.out _ _ c2d (fun hHeld => ?_)
        clear hK K
        try simp only [Act.put, List.setIfInBounds_toArray, List.set_cons_zero, List.set_cons_succ]
        refine wpAnyH_ready (rs := [11]) (by kernel_rfl) (by simp) ?_
        refine AllReadyH.cons (o := { dst := some 63, op := Go.Op.load 3 (Go.Operand.tmp 62), type := 3, pos := "walk.go:50", after := #[{ on := 10, ground := Go.Ground.data }], guard := none }) rfl (fun K hK => ?_) AllReadyH.nil
        go_simp
        refine hK.out _ _ c2d (fun hHeld => ?_)
        clear hK K
        try simp only [Act.put, List.setIfInBounds_toArray, List.set_cons_zero, List.set_cons_succ]
        all_goals
          refine' wpAnyH_take (i := 19) (oi := { dst := some 71, op := Go.Op.call { callee := Go.Callee.builtin Go.Builtin.min, args := #[Go.Operand.tmp 63, Go.Operand.tmp 70], argTypes := #[3, 3] }, type := 3, pos := "walk.go:50", after := #[{ on := 11, ground := Go.Ground.data }, { on := 18, ground := Go.Ground.data }], guard := none }) (v := _) rfl (by kernel_rfl) (by kernel_rfl) (by kernel_rfl) (fun _ _ _ h => h) (Or.inl ⟨by rfl, ?_⟩) (by assumption) ?_
          rotate_left
          · (intro W hSw; go_simp; try with_reducible rfl)
          try simp only [Act.put, List.setIfInBounds_toArray, List.set_cons_zero, List.set_cons_succ]
          refine' wpAnyH_take (i := 20) (oi := { dst := some 72, op := Go.Op.indexAddr 64 (Go.Operand.tmp 55) (Go.Operand.tmp 56), type := 0, pos := "walk.go:50", after := #[{ on := 3, ground := Go.Ground.data }, { on := 4, ground := Go.Ground.data }, { on := 0, ground := Go.Ground.phase }, { on := 1, ground := Go.Ground.phase }, { on := 2, ground := Go.Ground.phase }, { on := 3, ground := Go.Ground.phase }, { on := 4, ground := Go.Ground.phase }, { on := 5, ground := Go.Ground.phase }, { on := 6, ground := Go.Ground.phase }, { on := 7, ground := Go.Ground.phase }, { on := 8, ground := Go.Ground.phase }, { on := 9, ground := Go.Ground.phase }, { on := 10, ground := Go.Ground.phase }, { on := 11, ground := Go.Ground.phase }, { on := 12, ground := Go.Ground.phase }, { on := 13, ground := Go.Ground.phase }, { on := 14, ground := Go.Ground.phase }, { on := 15, ground := Go.Ground.phase }, { on := 16, ground := Go.Ground.phase }, { on := 17, ground := Go.Ground.phase }, { on := 18, ground := Go.Ground.phase }, { on := 19, ground := Go.Ground.phase }], guard := none }) (v := _) rfl (by kernel_rfl) (by kernel_rfl) (by kernel_rfl) (fun _ _ _ h => h) (Or.inl ⟨by rfl, ?_⟩) (by assumption) ?_
          rotate_left
          · (intro W hSw; go_simp; try with_reducible rfl)
          try simp only [Act.put, List.setIfInBounds_toArray, List.set_cons_zero, List.set_cons_succ]
          refine wpAnyH_ready (rs := [21]) (by kernel_rfl) (by simp) ?_
          refine AllReadyH.cons (o := { dst := none, op := Go.Op.store 3 (Go.Operand.tmp 72) (Go.Operand.tmp 71), type := 0, pos := "walk.go:50", after := #[{ on := 20, ground := Go.Ground.data }, { on := 19, ground := Go.Ground.data }, { on := 0, ground := Go.Ground.phase }, { on := 1, ground := Go.Ground.phase }, { on := 2, ground := Go.Ground.phase }, { on := 3, ground := Go.Ground.phase }, { on := 4, ground := Go.Ground.phase }, { on := 5, ground := Go.Ground.phase }, { on := 6, ground := Go.Ground.phase }, { on := 7, ground := Go.Ground.phase }, { on := 8, ground := Go.Ground.phase }, { on := 9, ground := Go.Ground.phase }, { on := 10, ground := Go.Ground.phase }, { on := 11, ground := Go.Ground.phase }, { on := 12, ground := Go.Ground.phase }, { on := 13, ground := Go.Ground.phase }, { on := 14, ground := Go.Ground.phase }, { on := 15, ground := Go.Ground.phase }, { on := 16, ground := Go.Ground.phase }, { on := 17, ground := Go.Ground.phase }, { on := 18, ground := Go.Ground.phase }, { on := 19, ground := Go.Ground.phase }], guard := none }) rfl (fun K hK => ?_) AllReadyH.nil
          go_simp
          refine hK.out _ _ (HSS.out _) (fun hHeld => ?_)
          clear hK K
          try simp only [Act.put, List.setIfInBounds_toArray, List.set_cons_zero, List.set_cons_succ]
          refine wpAnyH_done (by kernel_rfl) ?_ _
          refine NoPanic.normal ?_
        all_goals
          go_wp2_with fail
          refine ⟨⟨k + 1, _, ov5, rv5, hlk, by go_num, HP.out, ?_⟩, by simp [intOf]; omega⟩
          rw [← HMN.out]
          exact HRS.out
      · have hmin : (if s'.b t < s'.b i then s'.b t else s'.b i) = min (s'.b i) (s'.b t) := by split <;> omega
        have hres : WkM W0 pw bb bl n (.slice (some adz) n n) ov' rv' ⟨s'.O, upI s'.b i (if s'.b t < s'.b i then s'.b t else s'.b i), s'.R, s'.p⟩ (wr.drew.setCell ⟨bb, i, none⟩ (.int .i64 (if s'.b t < s'.b i then s'.b t else s'.b i))) := (hM'.below ⟨rfl, rfl, rfl, Nat.le_refl _, fun _ _ => rfl⟩ : WkM W0 pw bb bl n (.slice (some adz) n n) ov' rv' s' wr.drew).setB i _
        have HRS := Lib.hid hres
        have HP := Lib.hid (HST.out.1 hs)
        have HMN := Lib.hid hmin
        obtain ⟨xi, hxi⟩ : ∃ x, s'.b i = x := ⟨_, rfl⟩
        obtain ⟨xt, hxt⟩ : ∃ x, s'.b t = x := ⟨_, rfl⟩
        rw [hxi, hxt] at HRS HMN HP
        rw [hxi] at gi'
        rw [hxt] at gt' hs
        have HSS : Hid (∀ u, (wr.drew.setCell ⟨bb, i, none⟩ u).cell? ⟨pw, 2, none⟩ = some (.slice (some ⟨bb, 0, none⟩) n n)) := fun u => (World.cell?_of_block (Below.heap_setCell wr.drew ⟨bb, i, none⟩ u pw (fun e => HM3.out.ne.1 e))).trans c2'
        clear hK' hM' hmin hres hxi hxt hkE ht htm
        go_wp2_with fail
        have gtd : wr.drew.cell? { block := bb, off := t } = some (.int .i64 xt) := gt'
        have gid : wr.drew.cell? { block := bb, off := i } = some (.int .i64 xi) := gi'
        have fid : wr.drew.frozen? { block := bb, off := i } = false := fi'
        have c2d : wr.drew.cell? { block := pw, off := 2 } = some (.slice (some ⟨bb, 0, none⟩) n n) := c2'
        refine wp_region_noPanic ?_
        refine wp_region_held_drew (S := fun W => W.cell? ⟨pw, 2, none⟩ = some (.slice (some ⟨bb, 0, none⟩) n n)) (by kernel_rfl) c2d (fun hHeld => ?_)
        refine' wpAnyH_take (i := 0) (oi := { dst := some 52, op := Go.Op.move (Go.Operand.tmp 0), type := 178, pos := "walk.go:50", after := #[], guard := none }) (v := _) rfl (by kernel_rfl) (by kernel_rfl) (by kernel_rfl) (fun _ _ _ h => h) (Or.inl ⟨by rfl, ?_⟩) (by assumption) ?_
        rotate_left
        · (intro W hSw; go_simp; try with_reducible rfl)
        try simp only [Act.put, List.setIfInBounds_toArray, List.set_cons_zero, List.set_cons_succ]
        refine' wpAnyH_take (i := 1) (oi := { dst := some 53, op := Go.Op.nilCheck (Go.Operand.tmp 52), type := 0, pos := "walk.go:50", after := #[{ on := 0, ground := Go.Ground.data }], guard := none }) (v := _) rfl (by kernel_rfl) (by kernel_rfl) (by kernel_rfl) (fun _ _ _ h => h) (Or.inl ⟨by rfl, ?_⟩) (by assumption) ?_
        rotate_left
        · (intro W hSw; go_simp; try with_reducible rfl)
        try simp only [Act.put, List.setIfInBounds_toArray, List.set_cons_zero, List.set_cons_succ]
        refine' wpAnyH_take (i := 2) (oi := { dst := some 54, op := Go.Op.fieldAddr 152 (Go.Operand.tmp 53) 2, type := 0, pos := "walk.go:50", after := #[{ on := 1, ground := Go.Ground.data }], guard := none }) (v := _) rfl (by kernel_rfl) (by kernel_rfl) (by kernel_rfl) (fun _ _ _ h => h) (Or.inl ⟨by rfl, ?_⟩) (by assumption) ?_
        rotate_left
        · (intro W hSw; go_simp; try with_reducible rfl)
        try simp only [Act.put, List.setIfInBounds_toArray, List.set_cons_zero, List.set_cons_succ]
        refine' wpAnyH_take (i := 3) (oi := { dst := some 55, op := Go.Op.load 64 (Go.Operand.tmp 54), type := 64, pos := "walk.go:50", after := #[{ on := 2, ground := Go.Ground.data }], guard := none }) (v := _) rfl (by kernel_rfl) (by kernel_rfl) (by kernel_rfl) (fun _ _ _ h => h) (Or.inl ⟨by rfl, ?_⟩) (by assumption) ?_
        rotate_left
        · (intro W hSw; have f0 : W.cell? ⟨pw, 2, none⟩ = some (.slice (some ⟨bb, 0, none⟩) n n) := hSw; go_simp; try with_reducible rfl)
        try simp only [Act.put, List.setIfInBounds_toArray, List.set_cons_zero, List.set_cons_succ]
        refine' wpAnyH_take (i := 4) (oi := { dst := some 56, op := Go.Op.move (Go.Operand.tmp 1), type := 3, pos := "walk.go:50", after := #[], guard := none }) (v := _) rfl (by kernel_rfl) (by kernel_rfl) (by kernel_rfl) (fun _ _ _ h => h) (Or.inl ⟨by rfl, ?_⟩) (by assumption) ?_
        rotate_left
        · (intro W hSw; go_simp; try with_reducible rfl)
        try simp only [Act.put, List.setIfInBounds_toArray, List.set_cons_zero, List.set_cons_succ]
        refine' wpAnyH_take (i := 5) (oi := { dst := some 57, op := Go.Op.move (Go.Operand.tmp 0), type := 178, pos := "walk.go:50", after := #[], guard := none }) (v := _) rfl (by kernel_rfl) (by kernel_rfl) (by kernel_rfl) (fun _ _ _ h => h) (Or.inl ⟨by rfl, ?_⟩) (by assumption) ?_
        rotate_left
        · (intro W hSw; go_simp; try with_reducible rfl)
        try simp only [Act.put, List.setIfInBounds_toArray, List.set_cons_zero, List.set_cons_succ]
        refine' wpAnyH_take (i := 6) (oi := { dst := some 58, op := Go.Op.nilCheck (Go.Operand.tmp 57), type := 0, pos := "walk.go:50", after := #[{ on := 5, ground := Go.Ground.data }], guard := none }) (v := _) rfl (by kernel_rfl) (by kernel_rfl) (by kernel_rfl) (fun _ _ _ h => h) (Or.inl ⟨by rfl, ?_⟩) (by assumption) ?_
        rotate_left
        · (intro W hSw; go_simp; try with_reducible rfl)
        try simp only [Act.put, List.setIfInBounds_toArray, List.set_cons_zero, List.set_cons_succ]
        refine' wpAnyH_take (i := 7) (oi := { dst := some 59, op := Go.Op.fieldAddr 152 (Go.Operand.tmp 58) 2, type := 0, pos := "walk.go:50", after := #[{ on := 6, ground := Go.Ground.data }], guard := none }) (v := _) rfl (by kernel_rfl) (by kernel_rfl) (by kernel_rfl) (fun _ _ _ h => h) (Or.inl ⟨by rfl, ?_⟩) (by assumption) ?_
        rotate_left
        · (intro W hSw; go_simp; try with_reducible rfl)
        try simp only [Act.put, List.setIfInBounds_toArray, List.set_cons_zero, List.set_cons_succ]
        refine' wpAnyH_take (i := 8) (oi := { dst := some 60, op := Go.Op.load 64 (Go.Operand.tmp 59), type := 64, pos := "walk.go:50", after := #[{ on := 7, ground := Go.Ground.data }], guard := none }) (v := _) rfl (by kernel_rfl) (by kernel_rfl) (by kernel_rfl) (fun _ _ _ h => h) (Or.inl ⟨by rfl, ?_⟩) (by assumption) ?_
        rotate_left
        · (intro W hSw; have f0 : W.cell? ⟨pw, 2, none⟩ = some (.slice (some ⟨bb, 0, none⟩) n n) := hSw; go_simp; try with_reducible rfl)
        try simp only [Act.put, List.setIfInBounds_toArray, List.set_cons_zero, List.set_cons_succ]
        refine' wpAnyH_take (i := 9) (oi := { dst := some 61, op := Go.Op.move (Go.Operand.tmp 1), type := 3, pos := "walk.go:50", after := #[], guard := none }) (v := _) rfl (by kernel_rfl) (by kernel_rfl) (by kernel_rfl) (fun _ _ _ h => h) (Or.inl ⟨by rfl, ?_⟩) (by assumption) ?_
        rotate_left
        · (intro W hSw; go_simp; try with_reducible rfl)
        try simp only [Act.put, List.setIfInBounds_toArray, List.set_cons_zero, List.set_cons_succ]
        refine' wpAnyH_take (i := 10) (oi := { dst := some 62, op := Go.Op.indexAddr 64 (Go.Operand.tmp 60) (Go.Operand.tmp 61), type := 0, pos := "walk.go:50", after := #[{ on := 8, ground := Go.Ground.data }, { on := 9, ground := Go.Ground.data }], guard := none }) (v := _) rfl (by kernel_rfl) (by kernel_rfl) (by kernel_rfl) (fun _ _ _ h => h) (Or.inl ⟨by rfl, ?_⟩) (by assumption) ?_
        rotate_left
        · (intro W hSw; go_simp; try with_reducible rfl)
        try simp only [Act.put, List.setIfInBounds_toArray, List.set_cons_zero, List.set_cons_succ]
        refine' wpAnyH_take (i := 12) (oi := { dst := some 64, op := Go.Op.move (Go.Operand.tmp 0), type := 178, pos := "walk.go:50", after := #[], guard := none }) (v := _) rfl (by kernel_rfl) (by kernel_rfl) (by kernel_rfl) (fun _ _ _ h => h) (Or.inl ⟨by rfl, ?_⟩) (by assumption) ?_
        rotate_left
        · (intro W hSw; go_simp; try with_reducible rfl)
        try simp only [Act.put, List.setIfInBounds_toArray, List.set_cons_zero, List.set_cons_succ]
        refine' wpAnyH_take (i := 13) (oi := { dst := some 65, op := Go.Op.nilCheck (Go.Operand.tmp 64), type := 0, pos := "walk.go:50", after := #[{ on := 12, ground := Go.Ground.data }], guard := none }) (v := _) rfl (by kernel_rfl) (by kernel_rfl) (by kernel_rfl) (fun _ _ _ h => h) (Or.inl ⟨by rfl, ?_⟩) (by assumption) ?_
        rotate_left
        · (intro W hSw; go_simp; try with_reducible rfl)
        try simp only [Act.put, List.setIfInBounds_toArray, List.set_cons_zero, List.set_cons_succ]
        refine' wpAnyH_take (i := 14) (oi := { dst := some 66, op := Go.Op.fieldAddr 152 (Go.Operand.tmp 65) 2, type := 0, pos := "walk.go:50", after := #[{ on := 13, ground := Go.Ground.data }], guard := none }) (v := _) rfl (by kernel_rfl) (by kernel_rfl) (by kernel_rfl) (fun _ _ _ h => h) (Or.inl ⟨by rfl, ?_⟩) (by assumption) ?_
        rotate_left
        · (intro W hSw; go_simp; try with_reducible rfl)
        try simp only [Act.put, List.setIfInBounds_toArray, List.set_cons_zero, List.set_cons_succ]
        refine' wpAnyH_take (i := 15) (oi := { dst := some 67, op := Go.Op.load 64 (Go.Operand.tmp 66), type := 64, pos := "walk.go:50", after := #[{ on := 14, ground := Go.Ground.data }], guard := none }) (v := _) rfl (by kernel_rfl) (by kernel_rfl) (by kernel_rfl) (fun _ _ _ h => h) (Or.inl ⟨by rfl, ?_⟩) (by assumption) ?_
        rotate_left
        · (intro W hSw; have f0 : W.cell? ⟨pw, 2, none⟩ = some (.slice (some ⟨bb, 0, none⟩) n n) := hSw; go_simp; try with_reducible rfl)
        try simp only [Act.put, List.setIfInBounds_toArray, List.set_cons_zero, List.set_cons_succ]
        refine' wpAnyH_take (i := 16) (oi := { dst := some 68, op := Go.Op.move (Go.Operand.tmp 6), type := 3, pos := "walk.go:50", after := #[], guard := none }) (v := _) rfl (by kernel_rfl) (by kernel_rfl) (by kernel_rfl) (fun _ _ _ h => h) (Or.inl ⟨by rfl, ?_⟩) (by assumption) ?_
        rotate_left
        · (intro W hSw; go_simp; try with_reducible rfl)
        try simp only [Act.put, List.setIfInBounds_toArray, List.set_cons_zero, List.set_cons_succ]
        refine' wpAnyH_take (i := 17) (oi := { dst := some 69, op := Go.Op.indexAddr 64 (Go.Operand.tmp 67) (Go.Operand.tmp 68), type := 0, pos := "walk.go:50", after := #[{ on := 15, ground := Go.Ground.data }, { on := 16, ground := Go.Ground.data }], guard := none }) (v := _) rfl (by kernel_rfl) (by kernel_rfl) (by kernel_rfl) (fun _ _ _ h => h) (Or.inl ⟨by rfl, ?_⟩) (by assumption) ?_
        rotate_left
        · (intro W hSw; go_simp; try with_reducible rfl)
        try simp only [Act.put, List.setIfInBounds_toArray, List.set_cons_zero, List.set_cons_succ]
        refine wpAnyH_ready (rs := [11, 18]) (by kernel_rfl) (by simp) ?_
        refine AllReadyH.cons (o := { dst := some 63, op := Go.Op.load 3 (Go.Operand.tmp 62), type := 3, pos := "walk.go:50", after := #[{ on := 10, ground := Go.Ground.data }], guard := none }) rfl (fun K hK => ?_) (AllReadyH.cons (o := { dst := some 70, op := Go.Op.load 3 (Go.Operand.tmp 69), type := 3, pos := "walk.go:50", after := #[{ on := 17, ground := Go.Ground.data }], guard := none }) rfl (fun K hK => ?_) AllReadyH.nil)
        go_simp
        refine hK.out _ _ c2d (fun hHeld => ?_)
        clear hK K
        try simp only [Act.put, List.setIfInBounds_toArray, List.set_cons_zero, List.set_cons_succ]
        refine wpAnyH_ready (rs := [18]) (by kernel_rfl) (by simp) ?_
        refine AllReadyH.cons (o := { dst := some 70, op := Go.Op.load 3 (Go.Operand.tmp 69), type := 3, pos := "walk.go:50", after := #[{ on := 17, ground := Go.Ground.data }], guard := none }) rfl (fun K hK => ?_) AllReadyH.nil
        go_simp
        refine hK.out _ _ c2d (fun hHeld => ?_)
        clear hK K
        try simp only [Act.put, List.setIfInBounds_toArray, List.set_cons_zero, List.set_cons_succ]
        rotate_left
        go_simp
        refine hK.out _ _ c2d (fun hHeld => ?_)
        clear hK K
        try simp only [Act.put, List.setIfInBounds_toArray, List.set_cons_zero, List.set_cons_succ]
        refine wpAnyH_ready (rs := [11]) (by kernel_rfl) (by simp) ?_
        refine AllReadyH.cons (o := { dst := some 63, op := Go.Op.load 3 (Go.Operand.tmp 62), type := 3, pos := "walk.go:50", after := #[{ on := 10, ground := Go.Ground.data }], guard := none }) rfl (fun K hK => ?_) AllReadyH.nil
        go_simp
        refine hK.out _ _ c2d (fun hHeld => ?_)
        clear hK K
        try simp only [Act.put, List.setIfInBounds_toArray, List.set_cons_zero, List.set_cons_succ]
        all_goals
          refine' wpAnyH_take (i := 19) (oi := { dst := some 71, op := Go.Op.call { callee := Go.Callee.builtin Go.Builtin.min, args := #[Go.Operand.tmp 63, Go.Operand.tmp 70], argTypes := #[3, 3] }, type := 3, pos := "walk.go:50", after := #[{ on := 11, ground := Go.Ground.data }, { on := 18, ground := Go.Ground.data }], guard := none }) (v := _) rfl (by kernel_rfl) (by kernel_rfl) (by kernel_rfl) (fun _ _ _ h => h) (Or.inl ⟨by rfl, ?_⟩) (by assumption) ?_
          rotate_left
          · (intro W hSw; go_simp; try with_reducible rfl)
          try simp only [Act.put, List.setIfInBounds_toArray, List.set_cons_zero, List.set_cons_succ]
          refine' wpAnyH_take (i := 20) (oi := { dst := some 72, op := Go.Op.indexAddr 64 (Go.Operand.tmp 55) (Go.Operand.tmp 56), type := 0, pos := "walk.go:50", after := #[{ on := 3, ground := Go.Ground.data }, { on := 4, ground := Go.Ground.data }, { on := 0, ground := Go.Ground.phase }, { on := 1, ground := Go.Ground.phase }, { on := 2, ground := Go.Ground.phase }, { on := 3, ground := Go.Ground.phase }, { on := 4, ground := Go.Ground.phase }, { on := 5, ground := Go.Ground.phase }, { on := 6, ground := Go.Ground.phase }, { on := 7, ground := Go.Ground.phase }, { on := 8, ground := Go.Ground.phase }, { on := 9, ground := Go.Ground.phase }, { on := 10, ground := Go.Ground.phase }, { on := 11, ground := Go.Ground.phase }, { on := 12, ground := Go.Ground.phase }, { on := 13, ground := Go.Ground.phase }, { on := 14, ground := Go.Ground.phase }, { on := 15, ground := Go.Ground.phase }, { on := 16, ground := Go.Ground.phase }, { on := 17, ground := Go.Ground.phase }, { on := 18, ground := Go.Ground.phase }, { on := 19, ground := Go.Ground.phase }], guard := none }) (v := _) rfl (by kernel_rfl) (by kernel_rfl) (by kernel_rfl) (fun _ _ _ h => h) (Or.inl ⟨by rfl, ?_⟩) (by assumption) ?_
          rotate_left
          · (intro W hSw; go_simp; try with_reducible rfl)
          try simp only [Act.put, List.setIfInBounds_toArray, List.set_cons_zero, List.set_cons_succ]
          refine wpAnyH_ready (rs := [21]) (by kernel_rfl) (by simp) ?_
          refine AllReadyH.cons (o := { dst := none, op := Go.Op.store 3 (Go.Operand.tmp 72) (Go.Operand.tmp 71), type := 0, pos := "walk.go:50", after := #[{ on := 20, ground := Go.Ground.data }, { on := 19, ground := Go.Ground.data }, { on := 0, ground := Go.Ground.phase }, { on := 1, ground := Go.Ground.phase }, { on := 2, ground := Go.Ground.phase }, { on := 3, ground := Go.Ground.phase }, { on := 4, ground := Go.Ground.phase }, { on := 5, ground := Go.Ground.phase }, { on := 6, ground := Go.Ground.phase }, { on := 7, ground := Go.Ground.phase }, { on := 8, ground := Go.Ground.phase }, { on := 9, ground := Go.Ground.phase }, { on := 10, ground := Go.Ground.phase }, { on := 11, ground := Go.Ground.phase }, { on := 12, ground := Go.Ground.phase }, { on := 13, ground := Go.Ground.phase }, { on := 14, ground := Go.Ground.phase }, { on := 15, ground := Go.Ground.phase }, { on := 16, ground := Go.Ground.phase }, { on := 17, ground := Go.Ground.phase }, { on := 18, ground := Go.Ground.phase }, { on := 19, ground := Go.Ground.phase }], guard := none }) rfl (fun K hK => ?_) AllReadyH.nil
          go_simp
          refine hK.out _ _ (HSS.out _) (fun hHeld => ?_)
          clear hK K
          try simp only [Act.put, List.setIfInBounds_toArray, List.set_cons_zero, List.set_cons_succ]
          refine wpAnyH_done (by kernel_rfl) ?_ _
          refine NoPanic.normal ?_
        all_goals
          go_wp2_with fail
          refine ⟨⟨k + 1, _, ov', rv', hlk, by go_num, HP.out, ?_⟩, by simp [intOf]; omega⟩
          rw [← HMN.out]
          exact HRS.out
    · obtain rfl : k = q := by omega
      have hK2 : GoK E n G i s s' (E i).length := by rw [HE.out.2]; exact hK'
      obtain ⟨AR, cR, hrv, _, _, _, _, _⟩ := owns_form hM'.rw_
      subst hrv
      obtain ⟨r, hr⟩ : ∃ r, s'.R.length = r := ⟨_, rfl⟩
      have hrn : r ≤ n := by
        have := hK'.T.cnt
        omega
      have hMb := hM'.below ((Below.refl wr.heap.size wr).alloc (Nat.le_refl _) (.cells #[.int .i64 (i : Nat)] 3))
      have e3 := hM'.c3
      have e4 := hMb.c3
      have HMb := Lib.hid hMb
      have HMM := Lib.hid hM'
      have HKK := Lib.hid hK2
      rw [hr] at e3 e4
      have hlk' : ¬ ((k : Int) < k) := by omega
      clear hK' hK2 hM' hMb
      go_upto_region 11 with
        (at_builtin
         refine wpList_app rfl (.tmp 78) (.tmp 80) 64 rfl elN W0.heap.size (.slice AR r cR) r (s'.R.map intC) rfl (by have h := HMb.out.rw_; rw [hr] at h; exact h) (some ⟨wr.heap.size, 0, none⟩) 1 1 [.int .i64 i] rfl rfl (Rd.block (MapKept.heap_alloc wr (.cells #[.int .i64 (i : Nat)] 3)).1) oneI (by unfold maxLen; omega) (by omega) (by have := HMb.out.bel.size; exact this) ?_
         intro v' w5 ho hgr hob
         obtain ⟨A5, k5, rfl, _, _, _, _, _⟩ := owns_form ho
         have HA5 := Lib.hid (And.intro ho (And.intro hgr hob))
         have b1 := (hgr.block pw (Array.getElem?_eq_some_iff.1 HMb.out.st).1 (fun e => (HMb.out.nr pw (by rw [hr]; exact e.symm)).1 rfl)).trans HMb.out.st
         have d1 := cell9_blk b1 3 rfl
         have d2 := frz9_blk b1 3
         clear ho hgr hob b1)
      have hM6 := HMb.out.putR (w' := w5) (rv' := .slice A5 (r + 1) k5) (R' := s'.R ++ [i]) (by
        have h := HA5.out.1
        rw [List.length_append, hr, List.map_append]
        exact h) (by have h := HA5.out.2.1; rw [hr]; exact h) (by
        rw [hr]
        rcases HA5.out.2.2 with h | h
        · exact .inl h
        · exact .inr ⟨_, h, Nat.le_refl _⟩)
      obtain ⟨w6, hw6⟩ : ∃ x, w5.setCell ⟨pw, 3, none⟩ (.slice A5 (r + 1) k5) = x := ⟨_, rfl⟩
      rw [hw6] at hM6
      have c26 := hM6.c2
      have gi6 := hM6.bk.load hi
      have HM6 := Lib.hid hM6
      have hbi : (⟨s'.O, s'.b, s'.R ++ [i], s'.p⟩ : Tj).b i = s'.b i := rfl
      rw [hbi] at gi6
      have hAt := HKK.out.at_i
      have hOl := HKK.out.T.len
      have hOn : ∀ v ∈ s'.O, v < n := fun v hv => by
        obtain ⟨a, ha⟩ := List.mem_iff_getElem?.1 hv
        exact (HKK.out.T.op a v ha).1
      have HCl := Lib.hid (close_any W0 pw bb bl n (.slice (some adz) n n) ov' (.slice A5 (r + 1) k5) E ⟨s'.O, s'.b, s'.R ++ [i], s'.p⟩ L w6 hn hM6 ⟨_, Z, rfl, HZ.out.1, HZ.out.2.1, HZ.out.2.2⟩ hOn hOl (by
        have h := lt_of_at hAt
        rw [hL] at h
        exact h) hEl)
      by_cases hcl : s'.b i = L
      · rw [hcl] at gi6
        have hP := HKK.out.close hn63 HJ.out.1 (hE i hi) hE HJ.out.2.2.2.1 HJ.out.2.2.2.2 (by rw [hL]; exact hcl)
        have hS : ringS E L ⟨s'.O, s'.b, s'.R ++ [i], s'.p⟩ (s'.O.drop L).length = clsT E s s' i := by
          unfold ringS clsT ringT
          rw [hL, List.take_length]
        rw [hS] at HCl
        have HP := Lib.hid hP
        clear hP hS hcl hAt hOl hOn hbi hM6
        go_wp2_with fail
        with_reducible refine HCl.out.mono ?_
        rintro e w7 ⟨rfl, ov7, hM7⟩
        have HM7 := Lib.hid hM7
        clear hM7
        go_wp2_with fail
        go_end0
        exact ⟨rfl, _, _, _, HP.out, HM7.out⟩
      · have hP := HKK.out.stay hn63 (hE i hi) HJ.out.2.2.2.1 HJ.out.2.2.2.2 (by rw [hL]; exact hcl)
        have HP := Lib.hid hP
        obtain ⟨xi, hxi⟩ : ∃ x, s'.b i = x := ⟨_, rfl⟩
        rw [hxi] at gi6 hcl
        clear hP hAt hOl hOn hbi hM6 hxi
        go_wp2_with fail
        go_end0
        exact ⟨rfl, _, HP.out, _, _, HM6.out⟩
theorem goTo_all (W0 : World) (pw bb bl n : Nat) (tv : Value) (E : Nat → List Nat) (hn : n ≤ 1000000) (hT : TmR W0 tv E n) (hE : ∀ v, v < n → ∀ j ∈ E v, j < n) (hEl : ∀ v, v < n → (E v).length ≤ 1000000) : ∀ m, GoC W0 pw bb bl n tv E m
  | 0 => fun G s i ov rv w hm hJ hi hb hg hM => by
    exfalso
    have h1 := newT_lt (n := n) (b := s.b) (b' := upI s.b i 0) hi hb (by rw [upI_same]; decide) (fun v hv => by
      by_cases e : v = i
      · subst e; rw [upI_same]; decide
      · rw [upI_ne _ _ e]; exact hv)
    omega
  | m + 1 => goTo_step W0 pw bb bl n tv E hn hT hE hEl m (goTo_all W0 pw bb bl n tv E hn hT hE hEl m)
end Go.Proofs.YthnogakjaaopkaaGreatDoor
/- Contract: slices.Repeat of one place, n times. -/
namespace Go.Proofs.YthnogakjaaopkaaGreatDoor
open Go.RowKit Go.Shelf

theorem mul_any (x y : Nat) (hx : x < 18446744073709551616) (hy : y < 18446744073709551616) (w : World) :
    Calls Tryz.prog 87 #[.int .u64 x, .int .u64 y] w fun e w' => e = .returned (.tuple #[.int .u64 ((x * y / 18446744073709551616 : Nat) : Int), .int .u64 ((x * y % 18446744073709551616 : Nat) : Int)]) ∧ w' = w := by
  have h := Any.bits_Mul Tryz.mulL x y hx hy w
  exact h
def neg1 : Value := .int .i64 (-1)
def zer0 : Value := .int .i64 0
def repL (n m : Nat) : List Value := List.replicate m neg1 ++ List.replicate (n - m) zer0
theorem repL_len {n m : Nat} (h : m ≤ n) : (repL n m).length = n := by
  unfold repL
  rw [List.length_append, List.length_replicate, List.length_replicate]
  omega
theorem repL_splice {n m c : Nat} (hm : m + c ≤ n) : splice (repL n m) m (List.replicate c neg1) = repL n (m + c) := by
  unfold splice repL
  rw [List.length_replicate, List.take_append, List.length_replicate, Nat.sub_self, List.take_zero, List.append_nil, List.take_of_length_le (by rw [List.length_replicate]; exact Nat.le_refl _), List.drop_append, List.length_replicate, List.drop_eq_nil_of_le (by rw [List.length_replicate]; omega), List.nil_append, List.drop_replicate, ← List.append_assoc, List.replicate_append_replicate]
  congr 2
  omega
theorem copy_rep (W : World) (bb n m c sLen sCap dLen dCap : Nat) (sa : Addr) (hm : m + c ≤ n) (hc : min sLen dLen = c) (hb : W.heap[bb]? = some (.cells (repL n m).toArray 3 (0, 0)))
    (hs : ∀ j v, (List.replicate c neg1)[j]? = some v → W.cell? (sa.add j) = some v) (ty : TypeId) :
    ∃ W', (Builtin.copy_ #[64, 64] ty #[.slice (some ⟨bb, m, none⟩) dLen dCap, .slice (some sa) sLen sCap]).run Tryz.prog W = .ok (.int .i64 (c : Nat)) W' ∧ W'.heap[bb]? = some (.cells (repL n (m + c)).toArray 3 (0, 0)) ∧ ∀ B W0, B ≤ bb → Below B W0 W → Below B W0 W' := by
  have h := run_copy_row (P := Tryz.prog) W 64 64 ty 3 bb m dLen dCap sa sLen sCap (repL n m).toArray 3 (List.replicate c neg1) Tryz.underlying64 (by kernel_rfl) hb (by rw [List.length_replicate]; exact hc.symm) hs (by rw [List.length_replicate, List.size_toArray, repL_len (by omega)]; exact hm) (fun v hv => by rw [(List.mem_replicate.1 hv).2]; rfl)
  refine ⟨_, by rw [List.length_replicate] at h; exact h, ?_, fun B W0 hB h0 => below_setRow h0 hB _⟩
  have h2 := setRow_heap W bb _ (splice (repL n m) m (List.replicate c neg1)).toArray 3 (0, 0) hb
  rw [repL_splice hm] at h2
  have h3 : (splice (repL n m) m (List.replicate c neg1)).toArray = ((repL n m).toArray.toList.take m ++ List.replicate c neg1 ++ (repL n m).toArray.toList.drop (m + (List.replicate c neg1).length)).toArray := by
    unfold splice
    simp
  rw [repL_splice hm, List.length_replicate] at h3
  rw [← h3]
  exact h2
theorem add_pos (bb m : Nat) (h : 0 < m) : (⟨bb, 0, none⟩ : Addr).add m = ⟨bb, m, none⟩ := by
  unfold Addr.add
  rw [if_neg (by omega)]
  simp
set_option maxRecDepth 100000 in
set_option maxHeartbeats 2000000 in
theorem repeat_any (n g : Nat) (w : World) (hn : n ≤ 1000000) (hg : w.cell? ⟨g, 0, none⟩ = some neg1) :
    Calls Tryz.prog 67 #[.slice (some ⟨g, 0, none⟩) 1 1, .int .i64 (n : Nat)] w fun e w' => ∃ bb, e = .returned (.slice (some ⟨bb, 0, none⟩) n n) ∧ InB bb n (fun _ => -1) w' ∧ Below w.heap.size w w' ∧ w.heap.size ≤ bb := by
  have HMu := Lib.hid (mul_any 1 n (by decide) (by omega) w)
  have e1 : 1 * n / 18446744073709551616 = 0 := by rw [Nat.one_mul]; exact Nat.div_eq_of_lt (by omega)
  have e2 : 1 * n % 18446744073709551616 = n := by rw [Nat.one_mul]; exact Nat.mod_eq_of_lt (by omega)
  rw [e1, e2, show ((1 : Nat) : Int) = 1 from rfl, show ((0 : Nat) : Int) = 0 from rfl] at HMu
  have w1 : IntKind.u64.wrap (n : Int) = n := by simp [IntKind.wrap, IntKind.bits, IntKind.signed]; omega
  have w2 : IntKind.i64.wrap (n : Int) = n := by simp [IntKind.wrap, IntKind.bits, IntKind.signed]; omega
  have q0 : (0 : Int) ≤ n := by omega
  have q1 : ¬ ((n : Int) < 0) := by omega
  have q2 : ¬ ((9223372036854775807 : Int) < n) := by omega
  have hmk : ∀ W, (Instr.makeSlice 64 (.int .i64 (n : Nat)) (.int .i64 (n : Nat))).run Tryz.prog W = .ok (.slice (some ⟨W.heap.size, 0, none⟩) n n) (W.alloc (.cells (repL n 0).toArray 3)) := fun W => by
    have h := run_mk elN (n : Nat) (n : Nat) q0 (Int.le_refl _) (by omega) (by omega) W
    rw [h]
    congr 3
    rw [Int.toNat_natCast]
    apply Array.toList_inj.1
    have h2 := toList_madeCells_one (.int .i64 0) n
    rw [show (Value.int .i64 0).cells = #[.int .i64 0] from rfl, h2]
    simp [repL, zer0]
  have HG := Lib.hid hg
  obtain ⟨Z0, hZ0⟩ : ∃ Z, (repL n 0).toArray = Z := ⟨_, rfl⟩
  rw [hZ0] at hmk
  have HZ0 := Lib.hid hZ0
  clear e1 e2 hg hZ0
  go_enter Tryz.func67, Tryz.ntmps67
  go_wp2_with fail
  with_reducible refine HMu.out.mono ?_
  rintro e w' ⟨rfl, rfl⟩
  have hbk : (w'.alloc (.cells Z0 3)).heap[w'.heap.size]? = some (.cells (repL n 0).toArray 3 (0, 0)) := by
    rw [HZ0.out]
    exact (MapKept.heap_alloc w' _).1
  have hsrc : (w'.alloc (.cells Z0 3)).cell? ⟨g, 0, none⟩ = some neg1 := (World.cell?_of_block (Below.heap_alloc w' _ g (World.block_lt_of_cell? w' _ HG.out))).trans HG.out
  have hbl : Below w'.heap.size w' (w'.alloc (.cells Z0 3)) := (Below.refl _ _).alloc (Nat.le_refl _) _
  have HB := Lib.hid (And.intro hbk (And.intro hsrc hbl))
  clear hbk hsrc hbl
  have hfin : ∀ W, W.heap[w'.heap.size]? = some (.cells (repL n n).toArray 3 (0, 0)) → InB w'.heap.size n (fun _ => -1) W := fun W h => by
    unfold InB
    rw [h]
    congr 2
    unfold repL
    rw [Nat.sub_self, List.replicate_zero, List.append_nil]
    congr 1
    apply List.ext_getElem
    · simp
    · intro j h1 h2
      simp [neg1]
  have HF := Lib.hid hfin
  clear hfin
  rcases Nat.eq_zero_or_pos n with hn0 | hpos
  · subst hn0
    have hcp := run_copy_none (P := Tryz.prog) (w'.alloc (.cells Z0 3)) 64 64 3 3 (some ⟨w'.heap.size, 0, none⟩) (some ⟨g, 0, none⟩) 0 0 1 1 Tryz.underlying64 (by kernel_rfl) rfl
    have hmk0 : ∀ W, (Instr.makeSlice 64 (.int .i64 0) (.int .i64 0)).run Tryz.prog W = .ok (.slice (some ⟨W.heap.size, 0, none⟩) 0 0) (W.alloc (.cells Z0 3)) := hmk
    clear hmk
    go_wp2_with fail
    go_loopw [8] (fun kv wr => kv = .int .i64 0 ∧ wr = w'.alloc (.cells Z0 3)) (fun _ _ => 0)
    case atStart => exact ⟨rfl, rfl⟩
    case round =>
      obtain ⟨rfl, rfl⟩ := hrel
      go_wp2_with fail
      go_ret
      exact ⟨_, rfl, HF.out _ HB.out.1, HB.out.2.2, Nat.le_refl _⟩
  · obtain ⟨W3, hcp, hb3, hB3⟩ := copy_rep (w'.alloc (.cells Z0 3)) w'.heap.size n 0 1 1 1 n n ⟨g, 0, none⟩ (by omega) (by omega) HB.out.1 (fun j v hv => by
      have hj := (List.getElem?_eq_some_iff.1 hv).1
      rw [List.length_replicate] at hj
      obtain rfl : j = 0 := by omega
      rw [List.getElem?_replicate, if_pos hj] at hv
      injection hv with hv
      rw [← hv, add0]
      exact HB.out.2.1) 3
    have HW3 := Lib.hid (And.intro hb3 (hB3 _ _ (Nat.le_refl _) HB.out.2.2))
    clear hb3 hB3
    rw [show ((1 : Nat) : Int) = 1 from rfl] at hcp
    go_wp2_with fail
    go_loopw [8] (fun kv wr => ∃ m : Nat, kv = .int .i64 m ∧ 0 < m ∧ m ≤ n ∧ wr.heap[w'.heap.size]? = some (.cells (repL n m).toArray 3 (0, 0)) ∧ Below w'.heap.size w' wr) (fun kv _ => n - (intOf kv).toNat)
    case atStart => exact ⟨1, rfl, by omega, hpos, HW3.out.1, HW3.out.2⟩
    case round =>
      obtain ⟨m, rfl, hm0, hmn, hbk, hbl⟩ := hrel
      have HK := Lib.hid (And.intro hbk hbl)
      clear hbk hbl
      by_cases hlt : m < n
      · have hsl1 : ∀ W, (Instr.slice 64 (.slice (some ⟨w'.heap.size, 0, none⟩) n n) (some (.int .i64 (m : Int))) none none).run Tryz.prog W = .ok (.slice (some ⟨w'.heap.size, m, none⟩) (n - m) (n - m)) W := fun W => by
          have hel : Tryz.prog.elem 64 = 3 := by kernel_rfl
          have hsz : ∀ W, (sizeOf 3).run Tryz.prog W = .ok 1 W := fun W => by kernel_rfl
          rw [run_slice_l _ _ _ _ _ (by rw [hel]; exact Tryz.underlying64) .i64 (m : Int) (by omega) (by omega), hel, hsz]
          simp [Result.andThen, sliced]
          rw [if_neg (by omega), add_pos _ _ hm0]
        have hsl2 := cutN_head (some ⟨w'.heap.size, 0, none⟩) n n m (by omega) (Nat.le_refl _) (by omega)
        rw [Option.map_some, add0] at hsl2
        obtain ⟨c, hc⟩ : ∃ c, min m (n - m) = c := ⟨_, rfl⟩
        obtain ⟨W4, hcp4, hb4, hB4⟩ := copy_rep wr.drew w'.heap.size n m c m n (n - m) (n - m) ⟨w'.heap.size, 0, none⟩ (by omega) hc HK.out.1 (fun j v hv => by
          have hj := (List.getElem?_eq_some_iff.1 hv).1
          rw [List.length_replicate] at hj
          rw [List.getElem?_replicate, if_pos hj] at hv
          injection hv with hv
          rw [← hv]
          have e : (⟨w'.heap.size, 0, none⟩ : Addr).add j = ⟨w'.heap.size, j, none⟩ := by
            rcases Nat.eq_zero_or_pos j with h | h
            · subst h; exact add0 _
            · exact add_pos _ _ h
          rw [e]
          refine cell9_blk (w := wr) HK.out.1 j ?_
          rw [List.getElem?_toArray]
          unfold repL
          rw [List.getElem?_append_left (by rw [List.length_replicate]; omega), List.getElem?_replicate, if_pos (by omega)]) 3
        have HW4 := Lib.hid (And.intro hb4 (hB4 w'.heap.size w' (Nat.le_refl _) ⟨HK.out.2.os, HK.out.2.tape, HK.out.2.output, HK.out.2.size, HK.out.2.block⟩))
        clear hb4 hB4
        have r0 : (m : Int) < n := by omega
        have HC := Lib.hid hc
        have hwr : IntKind.i64.wrap ((m : Int) + (c : Int)) = (m : Int) + (c : Int) := by simp [IntKind.wrap, IntKind.bits, IntKind.signed]; omega
        go_wp2_with fail
        refine wp_region_noPanic ?_
        refine wp_region_held_drew (S := fun _ => True) (by kernel_rfl) trivial (fun hHeld => ?_)
        refine' wpAnyH_take (i := 0) (oi := { dst := some 38, op := Go.Op.move (Go.Operand.tmp 8), type := 3, pos := "slices.go:528", after := #[], guard := none }) (v := _) rfl (by kernel_rfl) (by kernel_rfl) (by kernel_rfl) (fun _ _ _ h => h) (Or.inl ⟨by rfl, ?_⟩) (by assumption) ?_
        rotate_left
        · (intro W hSw; go_simp; try with_reducible rfl)
        try simp only [Act.put, List.setIfInBounds_toArray, List.set_cons_zero, List.set_cons_succ]
        refine' wpAnyH_take (i := 1) (oi := { dst := some 39, op := Go.Op.move (Go.Operand.tmp 7), type := 64, pos := "slices.go:528", after := #[], guard := none }) (v := _) rfl (by kernel_rfl) (by kernel_rfl) (by kernel_rfl) (fun _ _ _ h => h) (Or.inl ⟨by rfl, ?_⟩) (by assumption) ?_
        rotate_left
        · (intro W hSw; go_simp; try with_reducible rfl)
        try simp only [Act.put, List.setIfInBounds_toArray, List.set_cons_zero, List.set_cons_succ]
        refine' wpAnyH_take (i := 2) (oi := { dst := some 40, op := Go.Op.move (Go.Operand.tmp 8), type := 3, pos := "slices.go:528", after := #[], guard := none }) (v := _) rfl (by kernel_rfl) (by kernel_rfl) (by kernel_rfl) (fun _ _ _ h => h) (Or.inl ⟨by rfl, ?_⟩) (by assumption) ?_
        rotate_left
        · (intro W hSw; go_simp; try with_reducible rfl)
        try simp only [Act.put, List.setIfInBounds_toArray, List.set_cons_zero, List.set_cons_succ]
        refine' wpAnyH_take (i := 3) (oi := { dst := some 41, op := Go.Op.slice 64 (Go.Operand.tmp 39) (some (Go.Operand.tmp 40)) none none, type := 64, pos := "slices.go:528", after := #[{ on := 1, ground := Go.Ground.data }, { on := 2, ground := Go.Ground.data }], guard := none }) (v := _) rfl (by kernel_rfl) (by kernel_rfl) (by kernel_rfl) (fun _ _ _ h => h) (Or.inl ⟨by rfl, ?_⟩) (by assumption) ?_
        rotate_left
        · (intro W hSw; go_simp; try with_reducible rfl)
        try simp only [Act.put, List.setIfInBounds_toArray, List.set_cons_zero, List.set_cons_succ]
        refine' wpAnyH_take (i := 4) (oi := { dst := some 42, op := Go.Op.move (Go.Operand.tmp 7), type := 64, pos := "slices.go:528", after := #[], guard := none }) (v := _) rfl (by kernel_rfl) (by kernel_rfl) (by kernel_rfl) (fun _ _ _ h => h) (Or.inl ⟨by rfl, ?_⟩) (by assumption) ?_
        rotate_left
        · (intro W hSw; go_simp; try with_reducible rfl)
        try simp only [Act.put, List.setIfInBounds_toArray, List.set_cons_zero, List.set_cons_succ]
        refine' wpAnyH_take (i := 5) (oi := { dst := some 43, op := Go.Op.move (Go.Operand.tmp 8), type := 3, pos := "slices.go:528", after := #[], guard := none }) (v := _) rfl (by kernel_rfl) (by kernel_rfl) (by kernel_rfl) (fun _ _ _ h => h) (Or.inl ⟨by rfl, ?_⟩) (by assumption) ?_
        rotate_left
        · (intro W hSw; go_simp; try with_reducible rfl)
        try simp only [Act.put, List.setIfInBounds_toArray, List.set_cons_zero, List.set_cons_succ]
        refine' wpAnyH_take (i := 6) (oi := { dst := some 44, op := Go.Op.slice 64 (Go.Operand.tmp 42) none (some (Go.Operand.tmp 43)) none, type := 64, pos := "slices.go:528", after := #[{ on := 4, ground := Go.Ground.data }, { on := 5, ground := Go.Ground.data }], guard := none }) (v := _) rfl (by kernel_rfl) (by kernel_rfl) (by kernel_rfl) (fun _ _ _ h => h) (Or.inl ⟨by rfl, ?_⟩) (by assumption) ?_
        rotate_left
        · (intro W hSw; go_simp; try with_reducible rfl)
        try simp only [Act.put, List.setIfInBounds_toArray, List.set_cons_zero, List.set_cons_succ]
        refine wpAnyH_ready (rs := [7]) (by kernel_rfl) (by simp) ?_
        refine AllReadyH.cons (o := { dst := some 45, op := Go.Op.call { callee := Go.Callee.builtin Go.Builtin.copy, args := #[Go.Operand.tmp 41, Go.Operand.tmp 44], argTypes := #[64, 64] }, type := 3, pos := "slices.go:528", after := #[{ on := 3, ground := Go.Ground.data }, { on := 6, ground := Go.Ground.data }], guard := none }) rfl (fun K hK => ?_) AllReadyH.nil
        go_simp
        refine hK.out _ _ trivial (fun hHeld => ?_)
        clear hK K
        try simp only [Act.put, List.setIfInBounds_toArray, List.set_cons_zero, List.set_cons_succ]
        refine' wpAnyH_take (i := 8) (oi := { dst := some 46, op := Go.Op.binOp Go.BinOp.add 3 (Go.Operand.tmp 38) (Go.Operand.tmp 45) 3, type := 3, pos := "slices.go:528", after := #[{ on := 0, ground := Go.Ground.data }, { on := 7, ground := Go.Ground.data }], guard := none }) (v := _) rfl (by kernel_rfl) (by kernel_rfl) (by kernel_rfl) (fun _ _ _ h => h) (Or.inl ⟨by rfl, ?_⟩) (by assumption) ?_
        rotate_left
        · (intro W hSw; go_simp; try with_reducible rfl)
        try simp only [Act.put, List.setIfInBounds_toArray, List.set_cons_zero, List.set_cons_succ]
        refine' wpAnyH_take (i := 9) (oi := { dst := some 8, op := Go.Op.assign (Go.Operand.tmp 46), type := 3, pos := "slices.go:528", after := #[{ on := 8, ground := Go.Ground.data }, { on := 7, ground := Go.Ground.chain }, { on := 0, ground := Go.Ground.phase }, { on := 1, ground := Go.Ground.phase }, { on := 2, ground := Go.Ground.phase }, { on := 3, ground := Go.Ground.phase }, { on := 4, ground := Go.Ground.phase }, { on := 5, ground := Go.Ground.phase }, { on := 6, ground := Go.Ground.phase }, { on := 7, ground := Go.Ground.phase }, { on := 8, ground := Go.Ground.phase }], guard := none }) (v := _) rfl (by kernel_rfl) (by kernel_rfl) (by kernel_rfl) (fun _ _ _ h => h) (Or.inl ⟨by rfl, ?_⟩) (by assumption) ?_
        rotate_left
        · (intro W hSw; go_simp; try with_reducible rfl)
        try simp only [Act.put, List.setIfInBounds_toArray, List.set_cons_zero, List.set_cons_succ]
        refine wpAnyH_done (by kernel_rfl) ?_ _
        refine NoPanic.normal ?_
        go_wp2_with fail
        refine ⟨⟨m + c, by go_num, by omega, by omega, HW4.out.1, HW4.out.2⟩, by simp [intOf]; omega⟩
      · obtain rfl : m = n := by omega
        go_wp2_with fail
        go_ret
        exact ⟨_, rfl, HF.out _ HK.out.1, HK.out.2, Nat.le_refl _⟩
end Go.Proofs.YthnogakjaaopkaaGreatDoor
/- Contract: walkAll. -/
namespace Go.Proofs.YthnogakjaaopkaaGreatDoor
open Go.RowKit

/-- What walkAll finds. -/
structure WaR (E : Nat → List Nat) (n : Nat) (R : List Nat) (p : Nat → Bool) : Prop where
  lp : ∀ v, v < n → (p v = true ↔ Wy E v v)
  ord : ¬ Cyc E → ∀ R1 i R2, R = R1 ++ i :: R2 → ∀ j ∈ E i, j ∈ R1
  all : ∀ v, v ∈ R ↔ v < n
  len : R.length ≤ n
theorem set5 (W : World) (b : Nat) (t : TypeId) (z0 z1 z2 z3 z4 a0 a1 a2 a3 a4 : Value) (h : W.heap[b]? = some (.cells #[z0, z1, z2, z3, z4] t (0, 0))) :
    (((((W.setCell ⟨b, 0, none⟩ a0).setCell ⟨b, 1, none⟩ a1).setCell ⟨b, 2, none⟩ a2).setCell ⟨b, 3, none⟩ a3).setCell ⟨b, 4, none⟩ a4).heap[b]? = some (.cells #[a0, a1, a2, a3, a4] t (0, 0)) := by
  have h0 : (W.setCell ⟨b, 0, none⟩ a0).heap[b]? = some (.cells #[a0, z1, z2, z3, z4] t (0, 0)) := heap_setCell_same W b 0 _ _ a0 h
  generalize W.setCell ⟨b, 0, none⟩ a0 = W1 at *
  have h1 : (W1.setCell ⟨b, 1, none⟩ a1).heap[b]? = some (.cells #[a0, a1, z2, z3, z4] t (0, 0)) := heap_setCell_same W1 b 1 _ _ a1 h0
  generalize W1.setCell ⟨b, 1, none⟩ a1 = W2 at *
  have h2 : (W2.setCell ⟨b, 2, none⟩ a2).heap[b]? = some (.cells #[a0, a1, a2, z3, z4] t (0, 0)) := heap_setCell_same W2 b 2 _ _ a2 h1
  generalize W2.setCell ⟨b, 2, none⟩ a2 = W3 at *
  have h3 : (W3.setCell ⟨b, 3, none⟩ a3).heap[b]? = some (.cells #[a0, a1, a2, a3, z4] t (0, 0)) := heap_setCell_same W3 b 3 _ _ a3 h2
  generalize W3.setCell ⟨b, 3, none⟩ a3 = W4 at *
  exact heap_setCell_same W4 b 4 _ _ a4 h3
theorem set5_other (W : World) (b k : Nat) (a0 a1 a2 a3 a4 : Value) (h : k ≠ b) :
    (((((W.setCell ⟨b, 0, none⟩ a0).setCell ⟨b, 1, none⟩ a1).setCell ⟨b, 2, none⟩ a2).setCell ⟨b, 3, none⟩ a3).setCell ⟨b, 4, none⟩ a4).heap[k]? = W.heap[k]? := by
  rw [Below.heap_setCell _ _ _ _ h, Below.heap_setCell _ _ _ _ h, Below.heap_setCell _ _ _ _ h, Below.heap_setCell _ _ _ _ h, Below.heap_setCell _ _ _ _ h]
theorem own_len' (A : Option Addr) (n c m d : Nat) : (Value.slice A n c).ownBlock = (Value.slice A m d).ownBlock := by cases A <;> rfl
def tj0 : Tj := ⟨[], fun _ => -1, [], fun _ => false⟩
theorem below_set {B : Nat} {w V : World} {p : Addr} (hB : Below B w V) (hp : B ≤ p.block) (v : Value) : Below B w (V.setCell p v) :=
  ⟨hB.os, hB.tape, hB.output, by simpa [World.setCell] using hB.size, fun k hk => (Below.heap_setCell V p v k (by omega)).trans (hB.block k hk)⟩
theorem wa_leaf {w V : World} {n bb bl pw : Nat} {tv : Value} {Z0 : Array Value} (hZ : (((List.range n).map fun _ => false).map Value.bool).toArray = Z0) (hB : Below w.heap.size w V)
    (fp : V.heap[pw]? = some (.cells #[nilS, nilS, nilS, nilS, nilS] 152 (0, 0))) (fb : InB bb n (fun _ => -1) V) (fl : V.heap[bl]? = some (.cells Z0 4 (0, 0)))
    (gp : w.heap.size ≤ pw) (gb : w.heap.size ≤ bb) (gl : w.heap.size ≤ bl) (n1 : pw ≠ bb) (n2 : pw ≠ bl) (n3 : bb ≠ bl) :
    WkM w pw bb bl n tv nilS nilS tj0 (((((V.setCell ⟨pw, 0, none⟩ tv).setCell ⟨pw, 1, none⟩ nilS).setCell ⟨pw, 2, none⟩ (.slice (some ⟨bb, 0, none⟩) n n)).setCell ⟨pw, 3, none⟩ nilS).setCell ⟨pw, 4, none⟩ (.slice (some ⟨bl, 0, none⟩) n n)) where
  bel := below_set (below_set (below_set (below_set (below_set hB gp _) gp _) gp _) gp _) gp _
  st := set5 V pw _ _ _ _ _ _ _ _ _ _ _ fp
  ow := World.ownsRow_nil _ _ _ _
  rw_ := World.ownsRow_nil _ _ _ _
  bk := (set5_other V pw bb _ _ _ _ _ n1.symm).trans fb
  lp := by
    have h := (set5_other V pw bl tv nilS (.slice (some ⟨bb, 0, none⟩) n n) nilS (.slice (some ⟨bl, 0, none⟩) n n) n2.symm).trans fl
    unfold BolB
    rw [h, ← hZ]
    rfl
  ge := ⟨gp, gb, gl⟩
  ne := ⟨n1, n2, n3⟩
  no := fun g hg => by simp [nilS, Value.ownBlock] at hg
  nr := fun g hg => by simp [nilS, Value.ownBlock] at hg
  nx := fun g hg => by simp [nilS, Value.ownBlock] at hg
set_option maxRecDepth 100000 in
set_option maxHeartbeats 4000000 in
theorem waReg (AT : Option Addr) (n : Nat) (w : World) (Z0 : Array Value) (hZ0 : (((List.range n).map fun _ => false).map Value.bool).toArray = Z0) (hn : n ≤ 1000000)
    (hmk : ∀ W, (Instr.makeSlice 99 (.int .i64 (n : Nat)) (.int .i64 (n : Nat))).run Tryz.prog W = .ok (.slice (some ⟨W.heap.size, 0, none⟩) n n) (W.alloc (.cells Z0 4))) (K : Act → World → Prop) (Q' : Exit → Act → World → Prop)
    (HK : ∀ V g bb bl pw, WkM w pw bb bl n (.slice AT n n) nilS nilS tj0 V → K { tmps := #[.slice AT n n, undef, .slice none 0 0, .slice none 0 0, .int .i64 n, .pointer (some ⟨pw, 0, none⟩), undef, .slice AT n n, .int .i64 n, .slice AT n n, .slice (some ⟨g, 0, none⟩) 1 1, .int .i64 n, .slice (some ⟨bb, 0, none⟩) n n, .int .i64 n, .slice (some ⟨bl, 0, none⟩) n n, .agg #[.slice AT n n, .slice none 0 0, .slice (some ⟨bb, 0, none⟩) n n, .slice none 0 0, .slice (some ⟨bl, 0, none⟩) n n], undef, undef, undef, undef, undef, undef, undef, undef, undef, undef, undef, undef, undef, undef, undef, undef, undef], defers := [] } V) :
    Code.wp Tryz.prog (Code.region 2 #[{ dst := some 9, op := Go.Op.move (Go.Operand.tmp 0), type := 63, pos := "walk.go:32", after := #[], guard := none }, { dst := some 10, op := Go.Op.buildSlice 64 1 #[(0, Go.Operand.const (Go.Value.int Go.IntKind.i64 (-1)))], type := 64, pos := "walk.go:32", after := #[], guard := none }, { dst := some 11, op := Go.Op.move (Go.Operand.tmp 4), type := 3, pos := "walk.go:32", after := #[], guard := none }, { dst := some 12, op := Go.Op.call { callee := Go.Callee.value (Go.Operand.func 67), args := #[Go.Operand.tmp 10, Go.Operand.tmp 11], argTypes := #[64, 3] }, type := 64, pos := "walk.go:32", after := #[{ on := 1, ground := Go.Ground.data }, { on := 2, ground := Go.Ground.data }], guard := none }, { dst := some 13, op := Go.Op.move (Go.Operand.tmp 4), type := 3, pos := "walk.go:32", after := #[], guard := none }, { dst := some 14, op := Go.Op.makeSlice 99 (Go.Operand.tmp 13) (Go.Operand.tmp 13), type := 99, pos := "walk.go:32", after := #[{ on := 4, ground := Go.Ground.data }, { on := 4, ground := Go.Ground.data }], guard := none }, { dst := some 15, op := Go.Op.build 152 #[(0, Go.Operand.tmp 9), (2, Go.Operand.tmp 12), (4, Go.Operand.tmp 14)], type := 152, pos := "walk.go:32", after := #[{ on := 0, ground := Go.Ground.data }, { on := 3, ground := Go.Ground.data }, { on := 5, ground := Go.Ground.data }], guard := none }, { dst := some 5, op := Go.Op.alloc 152, type := 0, pos := "walk.go:32", after := #[], guard := none }, { dst := none, op := Go.Op.store 152 (Go.Operand.tmp 5) (Go.Operand.tmp 15), type := 0, pos := "walk.go:32", after := #[{ on := 7, ground := Go.Ground.data }, { on := 6, ground := Go.Ground.data }, { on := 3, ground := Go.Ground.chain }, { on := 0, ground := Go.Ground.phase }, { on := 1, ground := Go.Ground.phase }, { on := 2, ground := Go.Ground.phase }, { on := 3, ground := Go.Ground.phase }, { on := 4, ground := Go.Ground.phase }, { on := 5, ground := Go.Ground.phase }, { on := 6, ground := Go.Ground.phase }, { on := 7, ground := Go.Ground.phase }], guard := none }] true) (Exit.then K Q') { tmps := #[.slice AT n n, undef, .slice none 0 0, .slice none 0 0, .int .i64 n, undef, undef, .slice AT n n, .int .i64 n, undef, undef, undef, undef, undef, undef, undef, undef, undef, undef, undef, undef, undef, undef, undef, undef, undef, undef, undef, undef, undef, undef, undef, undef], defers := [] } w := by
  have HRp := Lib.hid (fun g W h => repeat_any n g W hn h)
  have HZ0 := Lib.hid hZ0
  have hB : Below w.heap.size w w.drew := ⟨rfl, rfl, rfl, Nat.le_refl _, fun _ _ => rfl⟩
  have q0 : (0 : Int) ≤ n := by omega
  clear hZ0
  refine wp_region_noPanic ?_
  refine wp_region_held_drew (S := fun _ => True) (by kernel_rfl) trivial (fun hHeld => ?_)
  obtain ⟨V0, hV0⟩ : ∃ x, w.drew = x := ⟨_, rfl⟩
  rw [hV0] at hB ⊢
  clear hV0
  refine' wpAnyH_take (i := 0) (oi := { dst := some 9, op := Go.Op.move (Go.Operand.tmp 0), type := 63, pos := "walk.go:32", after := #[], guard := none }) (v := _) rfl (by kernel_rfl) (by kernel_rfl) (by kernel_rfl) (fun _ _ _ h => h) (Or.inl ⟨by rfl, ?_⟩) (by assumption) ?_
  rotate_left
  · (intro W hSw; go_simp; try with_reducible rfl)
  try simp only [Act.put, List.setIfInBounds_toArray, List.set_cons_zero, List.set_cons_succ]
  refine' wpAnyH_take (i := 2) (oi := { dst := some 11, op := Go.Op.move (Go.Operand.tmp 4), type := 3, pos := "walk.go:32", after := #[], guard := none }) (v := _) rfl (by kernel_rfl) (by kernel_rfl) (by kernel_rfl) (fun _ _ _ h => h) (Or.inl ⟨by rfl, ?_⟩) (by assumption) ?_
  rotate_left
  · (intro W hSw; go_simp; try with_reducible rfl)
  try simp only [Act.put, List.setIfInBounds_toArray, List.set_cons_zero, List.set_cons_succ]
  refine' wpAnyH_take (i := 4) (oi := { dst := some 13, op := Go.Op.move (Go.Operand.tmp 4), type := 3, pos := "walk.go:32", after := #[], guard := none }) (v := _) rfl (by kernel_rfl) (by kernel_rfl) (by kernel_rfl) (fun _ _ _ h => h) (Or.inl ⟨by rfl, ?_⟩) (by assumption) ?_
  rotate_left
  · (intro W hSw; go_simp; try with_reducible rfl)
  try simp only [Act.put, List.setIfInBounds_toArray, List.set_cons_zero, List.set_cons_succ]
  refine wpAnyH_ready (rs := [1, 5, 7]) (by kernel_rfl) (by simp) ?_
  refine (AllReadyH.cons (o := { dst := some 10, op := Go.Op.buildSlice 64 1 #[(0, Go.Operand.const (Go.Value.int Go.IntKind.i64 (-1)))], type := 64, pos := "walk.go:32", after := #[], guard := none }) rfl (fun K hK => ?_) (AllReadyH.cons (o := { dst := some 14, op := Go.Op.makeSlice 99 (Go.Operand.tmp 13) (Go.Operand.tmp 13), type := 99, pos := "walk.go:32", after := #[{ on := 4, ground := Go.Ground.data }, { on := 4, ground := Go.Ground.data }], guard := none }) rfl (fun K hK => ?_) (AllReadyH.cons (o := { dst := some 5, op := Go.Op.alloc 152, type := 0, pos := "walk.go:32", after := #[], guard := none }) rfl (fun K hK => ?_) AllReadyH.nil)))
  · go_simp
    refine hK.out _ _ trivial (fun hHeld => ?_)
    clear hK K
    try simp only [Act.put, List.setIfInBounds_toArray, List.set_cons_zero, List.set_cons_succ]
    obtain ⟨g, hg⟩ : ∃ x, V0.heap.size = x := ⟨_, rfl⟩
    have gg : w.heap.size ≤ g := by have := hB.size; omega
    have fg := (MapKept.heap_alloc V0 (.cells #[.int .i64 (-1)] 3)).1
    have hb : Below V0.heap.size V0 (V0.alloc (.cells #[.int .i64 (-1)] 3)) := (Below.refl _ _).alloc (Nat.le_refl _) _
    replace hB := hB.trans (hb.mono hB.size)
    clear hb
    rw [hg] at fg ⊢
    clear hg
    obtain ⟨V1, hV1⟩ : ∃ x, V0.alloc (.cells #[.int .i64 (-1)] 3) = x := ⟨_, rfl⟩
    rw [hV1] at fg hB ⊢
    clear hV1
    refine wpAnyH_ready (rs := [3, 5, 7]) (by kernel_rfl) (by simp) ?_
    refine (AllReadyH.cons (o := { dst := some 12, op := Go.Op.call { callee := Go.Callee.value (Go.Operand.func 67), args := #[Go.Operand.tmp 10, Go.Operand.tmp 11], argTypes := #[64, 3] }, type := 64, pos := "walk.go:32", after := #[{ on := 1, ground := Go.Ground.data }, { on := 2, ground := Go.Ground.data }], guard := none }) rfl (fun K hK => ?_) (AllReadyH.cons (o := { dst := some 14, op := Go.Op.makeSlice 99 (Go.Operand.tmp 13) (Go.Operand.tmp 13), type := 99, pos := "walk.go:32", after := #[{ on := 4, ground := Go.Ground.data }, { on := 4, ground := Go.Ground.data }], guard := none }) rfl (fun K hK => ?_) (AllReadyH.cons (o := { dst := some 5, op := Go.Op.alloc 152, type := 0, pos := "walk.go:32", after := #[], guard := none }) rfl (fun K hK => ?_) AllReadyH.nil)))
    · go_simp
      with_reducible refine (HRp.out g V1 (cell9_blk fg 0 rfl)).mono ?_
      rintro e V2 ⟨bb, rfl, fb, hb, hge⟩
      try go_wp2_with fail
      refine hK.out _ _ trivial (fun hHeld => ?_)
      clear hK K
      try simp only [Act.put, List.setIfInBounds_toArray, List.set_cons_zero, List.set_cons_succ]
      have gbb : w.heap.size ≤ bb := by have := hB.size; omega
      replace fg := (hb.block _ (blk9_lt fg)).trans fg
      replace hB := hB.trans (hb.mono hB.size)
      clear hb hge
      refine wpAnyH_ready (rs := [5, 7]) (by kernel_rfl) (by simp) ?_
      refine (AllReadyH.cons (o := { dst := some 14, op := Go.Op.makeSlice 99 (Go.Operand.tmp 13) (Go.Operand.tmp 13), type := 99, pos := "walk.go:32", after := #[{ on := 4, ground := Go.Ground.data }, { on := 4, ground := Go.Ground.data }], guard := none }) rfl (fun K hK => ?_) (AllReadyH.cons (o := { dst := some 5, op := Go.Op.alloc 152, type := 0, pos := "walk.go:32", after := #[], guard := none }) rfl (fun K hK => ?_) AllReadyH.nil))
      · go_simp
        refine hK.out _ _ trivial (fun hHeld => ?_)
        clear hK K
        try simp only [Act.put, List.setIfInBounds_toArray, List.set_cons_zero, List.set_cons_succ]
        obtain ⟨bl, hbl⟩ : ∃ x, V2.heap.size = x := ⟨_, rfl⟩
        have n3 : bb ≠ bl := by have := (blk9_lt fb); omega
        have gbl : w.heap.size ≤ bl := by have := hB.size; omega
        have fl := (MapKept.heap_alloc V2 (.cells Z0 4)).1
        have hb : Below V2.heap.size V2 (V2.alloc (.cells Z0 4)) := (Below.refl _ _).alloc (Nat.le_refl _) _
        replace fg := (hb.block _ (blk9_lt fg)).trans fg
        replace fb := (hb.block _ (blk9_lt fb)).trans fb
        replace hB := hB.trans (hb.mono hB.size)
        clear hb
        rw [hbl] at fl ⊢
        clear hbl
        obtain ⟨V3, hV3⟩ : ∃ x, V2.alloc (.cells Z0 4) = x := ⟨_, rfl⟩
        rw [hV3] at fg fb fl hB ⊢
        clear hV3
        refine' wpAnyH_take (i := 6) (oi := { dst := some 15, op := Go.Op.build 152 #[(0, Go.Operand.tmp 9), (2, Go.Operand.tmp 12), (4, Go.Operand.tmp 14)], type := 152, pos := "walk.go:32", after := #[{ on := 0, ground := Go.Ground.data }, { on := 3, ground := Go.Ground.data }, { on := 5, ground := Go.Ground.data }], guard := none }) (v := _) rfl (by kernel_rfl) (by kernel_rfl) (by kernel_rfl) (fun _ _ _ h => h) (Or.inl ⟨by rfl, ?_⟩) (by assumption) ?_
        rotate_left
        · (intro W hSw; go_simp; try with_reducible rfl)
        try simp only [Act.put, List.setIfInBounds_toArray, List.set_cons_zero, List.set_cons_succ]
        refine wpAnyH_ready (rs := [7]) (by kernel_rfl) (by simp) ?_
        refine (AllReadyH.cons (o := { dst := some 5, op := Go.Op.alloc 152, type := 0, pos := "walk.go:32", after := #[], guard := none }) rfl (fun K hK => ?_) AllReadyH.nil)
        go_simp
        refine hK.out _ _ trivial (fun hHeld => ?_)
        clear hK K
        try simp only [Act.put, List.setIfInBounds_toArray, List.set_cons_zero, List.set_cons_succ]
        obtain ⟨pw, hpw⟩ : ∃ x, V3.heap.size = x := ⟨_, rfl⟩
        have n1 : pw ≠ bb := by have := (blk9_lt fb); omega
        have n2 : pw ≠ bl := by have := (blk9_lt fl); omega
        have gpw : w.heap.size ≤ pw := by have := hB.size; omega
        have fp := (MapKept.heap_alloc V3 (.cells #[.slice none 0 0, .slice none 0 0, .slice none 0 0, .slice none 0 0, .slice none 0 0] 152)).1
        have hb : Below V3.heap.size V3 (V3.alloc (.cells #[.slice none 0 0, .slice none 0 0, .slice none 0 0, .slice none 0 0, .slice none 0 0] 152)) := (Below.refl _ _).alloc (Nat.le_refl _) _
        replace fg := (hb.block _ (blk9_lt fg)).trans fg
        replace fb := (hb.block _ (blk9_lt fb)).trans fb
        replace fl := (hb.block _ (blk9_lt fl)).trans fl
        replace hB := hB.trans (hb.mono hB.size)
        clear hb
        rw [hpw] at fp ⊢
        clear hpw
        obtain ⟨V4, hV4⟩ : ∃ x, V3.alloc (.cells #[.slice none 0 0, .slice none 0 0, .slice none 0 0, .slice none 0 0, .slice none 0 0] 152) = x := ⟨_, rfl⟩
        rw [hV4] at fg fb fl fp hB ⊢
        clear hV4
        have z0 := cell9_blk fp 0 rfl
        have z1 := cell9_blk fp 1 rfl
        have z2 := cell9_blk fp 2 rfl
        have z3 := cell9_blk fp 3 rfl
        have z4 := cell9_blk fp 4 rfl
        have y0 := frz9_blk fp 0
        have y1 := frz9_blk fp 1
        have y2 := frz9_blk fp 2
        have y3 := frz9_blk fp 3
        have y4 := frz9_blk fp 4
        refine wpAnyH_ready (rs := [8]) (by kernel_rfl) (by simp) ?_
        refine AllReadyH.cons (o := { dst := none, op := Go.Op.store 152 (Go.Operand.tmp 5) (Go.Operand.tmp 15), type := 0, pos := "walk.go:32", after := #[{ on := 7, ground := Go.Ground.data }, { on := 6, ground := Go.Ground.data }, { on := 3, ground := Go.Ground.chain }, { on := 0, ground := Go.Ground.phase }, { on := 1, ground := Go.Ground.phase }, { on := 2, ground := Go.Ground.phase }, { on := 3, ground := Go.Ground.phase }, { on := 4, ground := Go.Ground.phase }, { on := 5, ground := Go.Ground.phase }, { on := 6, ground := Go.Ground.phase }, { on := 7, ground := Go.Ground.phase }], guard := none }) rfl (fun K hK => ?_) AllReadyH.nil
        go_simp
        refine hK.out _ _ trivial (fun hHeld => ?_)
        clear hK K
        refine wpAnyH_done (by kernel_rfl) ?_ _
        refine NoPanic.normal ?_
        exact HK _ g bb bl pw (wa_leaf HZ0.out hB fp fb fl gpw gbb gbl n1 n2 n3)
      · go_simp
        refine hK.out _ _ trivial (fun hHeld => ?_)
        clear hK K
        try simp only [Act.put, List.setIfInBounds_toArray, List.set_cons_zero, List.set_cons_succ]
        obtain ⟨pw, hpw⟩ : ∃ x, V2.heap.size = x := ⟨_, rfl⟩
        have n1 : pw ≠ bb := by have := (blk9_lt fb); omega
        have gpw : w.heap.size ≤ pw := by have := hB.size; omega
        have fp := (MapKept.heap_alloc V2 (.cells #[.slice none 0 0, .slice none 0 0, .slice none 0 0, .slice none 0 0, .slice none 0 0] 152)).1
        have hb : Below V2.heap.size V2 (V2.alloc (.cells #[.slice none 0 0, .slice none 0 0, .slice none 0 0, .slice none 0 0, .slice none 0 0] 152)) := (Below.refl _ _).alloc (Nat.le_refl _) _
        replace fg := (hb.block _ (blk9_lt fg)).trans fg
        replace fb := (hb.block _ (blk9_lt fb)).trans fb
        replace hB := hB.trans (hb.mono hB.size)
        clear hb
        rw [hpw] at fp ⊢
        clear hpw
        obtain ⟨V3, hV3⟩ : ∃ x, V2.alloc (.cells #[.slice none 0 0, .slice none 0 0, .slice none 0 0, .slice none 0 0, .slice none 0 0] 152) = x := ⟨_, rfl⟩
        rw [hV3] at fg fb fp hB ⊢
        clear hV3
        refine wpAnyH_ready (rs := [5]) (by kernel_rfl) (by simp) ?_
        refine (AllReadyH.cons (o := { dst := some 14, op := Go.Op.makeSlice 99 (Go.Operand.tmp 13) (Go.Operand.tmp 13), type := 99, pos := "walk.go:32", after := #[{ on := 4, ground := Go.Ground.data }, { on := 4, ground := Go.Ground.data }], guard := none }) rfl (fun K hK => ?_) AllReadyH.nil)
        go_simp
        refine hK.out _ _ trivial (fun hHeld => ?_)
        clear hK K
        try simp only [Act.put, List.setIfInBounds_toArray, List.set_cons_zero, List.set_cons_succ]
        obtain ⟨bl, hbl⟩ : ∃ x, V3.heap.size = x := ⟨_, rfl⟩
        have n3 : bb ≠ bl := by have := (blk9_lt fb); omega
        have n2 : pw ≠ bl := by have := (blk9_lt fp); omega
        have gbl : w.heap.size ≤ bl := by have := hB.size; omega
        have fl := (MapKept.heap_alloc V3 (.cells Z0 4)).1
        have hb : Below V3.heap.size V3 (V3.alloc (.cells Z0 4)) := (Below.refl _ _).alloc (Nat.le_refl _) _
        replace fg := (hb.block _ (blk9_lt fg)).trans fg
        replace fb := (hb.block _ (blk9_lt fb)).trans fb
        replace fp := (hb.block _ (blk9_lt fp)).trans fp
        replace hB := hB.trans (hb.mono hB.size)
        clear hb
        rw [hbl] at fl ⊢
        clear hbl
        obtain ⟨V4, hV4⟩ : ∃ x, V3.alloc (.cells Z0 4) = x := ⟨_, rfl⟩
        rw [hV4] at fg fb fp fl hB ⊢
        clear hV4
        refine' wpAnyH_take (i := 6) (oi := { dst := some 15, op := Go.Op.build 152 #[(0, Go.Operand.tmp 9), (2, Go.Operand.tmp 12), (4, Go.Operand.tmp 14)], type := 152, pos := "walk.go:32", after := #[{ on := 0, ground := Go.Ground.data }, { on := 3, ground := Go.Ground.data }, { on := 5, ground := Go.Ground.data }], guard := none }) (v := _) rfl (by kernel_rfl) (by kernel_rfl) (by kernel_rfl) (fun _ _ _ h => h) (Or.inl ⟨by rfl, ?_⟩) (by assumption) ?_
        rotate_left
        · (intro W hSw; go_simp; try with_reducible rfl)
        try simp only [Act.put, List.setIfInBounds_toArray, List.set_cons_zero, List.set_cons_succ]
        have z0 := cell9_blk fp 0 rfl
        have z1 := cell9_blk fp 1 rfl
        have z2 := cell9_blk fp 2 rfl
        have z3 := cell9_blk fp 3 rfl
        have z4 := cell9_blk fp 4 rfl
        have y0 := frz9_blk fp 0
        have y1 := frz9_blk fp 1
        have y2 := frz9_blk fp 2
        have y3 := frz9_blk fp 3
        have y4 := frz9_blk fp 4
        refine wpAnyH_ready (rs := [8]) (by kernel_rfl) (by simp) ?_
        refine AllReadyH.cons (o := { dst := none, op := Go.Op.store 152 (Go.Operand.tmp 5) (Go.Operand.tmp 15), type := 0, pos := "walk.go:32", after := #[{ on := 7, ground := Go.Ground.data }, { on := 6, ground := Go.Ground.data }, { on := 3, ground := Go.Ground.chain }, { on := 0, ground := Go.Ground.phase }, { on := 1, ground := Go.Ground.phase }, { on := 2, ground := Go.Ground.phase }, { on := 3, ground := Go.Ground.phase }, { on := 4, ground := Go.Ground.phase }, { on := 5, ground := Go.Ground.phase }, { on := 6, ground := Go.Ground.phase }, { on := 7, ground := Go.Ground.phase }], guard := none }) rfl (fun K hK => ?_) AllReadyH.nil
        go_simp
        refine hK.out _ _ trivial (fun hHeld => ?_)
        clear hK K
        refine wpAnyH_done (by kernel_rfl) ?_ _
        refine NoPanic.normal ?_
        exact HK _ g bb bl pw (wa_leaf HZ0.out hB fp fb fl gpw gbb gbl n1 n2 n3)
    · go_simp
      refine hK.out _ _ trivial (fun hHeld => ?_)
      clear hK K
      try simp only [Act.put, List.setIfInBounds_toArray, List.set_cons_zero, List.set_cons_succ]
      obtain ⟨bl, hbl⟩ : ∃ x, V1.heap.size = x := ⟨_, rfl⟩
      have gbl : w.heap.size ≤ bl := by have := hB.size; omega
      have fl := (MapKept.heap_alloc V1 (.cells Z0 4)).1
      have hb : Below V1.heap.size V1 (V1.alloc (.cells Z0 4)) := (Below.refl _ _).alloc (Nat.le_refl _) _
      replace fg := (hb.block _ (blk9_lt fg)).trans fg
      replace hB := hB.trans (hb.mono hB.size)
      clear hb
      rw [hbl] at fl ⊢
      clear hbl
      obtain ⟨V2, hV2⟩ : ∃ x, V1.alloc (.cells Z0 4) = x := ⟨_, rfl⟩
      rw [hV2] at fg fl hB ⊢
      clear hV2
      refine wpAnyH_ready (rs := [3, 7]) (by kernel_rfl) (by simp) ?_
      refine (AllReadyH.cons (o := { dst := some 12, op := Go.Op.call { callee := Go.Callee.value (Go.Operand.func 67), args := #[Go.Operand.tmp 10, Go.Operand.tmp 11], argTypes := #[64, 3] }, type := 64, pos := "walk.go:32", after := #[{ on := 1, ground := Go.Ground.data }, { on := 2, ground := Go.Ground.data }], guard := none }) rfl (fun K hK => ?_) (AllReadyH.cons (o := { dst := some 5, op := Go.Op.alloc 152, type := 0, pos := "walk.go:32", after := #[], guard := none }) rfl (fun K hK => ?_) AllReadyH.nil))
      · go_simp
        with_reducible refine (HRp.out g V2 (cell9_blk fg 0 rfl)).mono ?_
        rintro e V3 ⟨bb, rfl, fb, hb, hge⟩
        try go_wp2_with fail
        refine hK.out _ _ trivial (fun hHeld => ?_)
        clear hK K
        try simp only [Act.put, List.setIfInBounds_toArray, List.set_cons_zero, List.set_cons_succ]
        have gbb : w.heap.size ≤ bb := by have := hB.size; omega
        have n3 : bb ≠ bl := by have := (blk9_lt fl); omega
        replace fg := (hb.block _ (blk9_lt fg)).trans fg
        replace fl := (hb.block _ (blk9_lt fl)).trans fl
        replace hB := hB.trans (hb.mono hB.size)
        clear hb hge
        refine' wpAnyH_take (i := 6) (oi := { dst := some 15, op := Go.Op.build 152 #[(0, Go.Operand.tmp 9), (2, Go.Operand.tmp 12), (4, Go.Operand.tmp 14)], type := 152, pos := "walk.go:32", after := #[{ on := 0, ground := Go.Ground.data }, { on := 3, ground := Go.Ground.data }, { on := 5, ground := Go.Ground.data }], guard := none }) (v := _) rfl (by kernel_rfl) (by kernel_rfl) (by kernel_rfl) (fun _ _ _ h => h) (Or.inl ⟨by rfl, ?_⟩) (by assumption) ?_
        rotate_left
        · (intro W hSw; go_simp; try with_reducible rfl)
        try simp only [Act.put, List.setIfInBounds_toArray, List.set_cons_zero, List.set_cons_succ]
        refine wpAnyH_ready (rs := [7]) (by kernel_rfl) (by simp) ?_
        refine (AllReadyH.cons (o := { dst := some 5, op := Go.Op.alloc 152, type := 0, pos := "walk.go:32", after := #[], guard := none }) rfl (fun K hK => ?_) AllReadyH.nil)
        go_simp
        refine hK.out _ _ trivial (fun hHeld => ?_)
        clear hK K
        try simp only [Act.put, List.setIfInBounds_toArray, List.set_cons_zero, List.set_cons_succ]
        obtain ⟨pw, hpw⟩ : ∃ x, V3.heap.size = x := ⟨_, rfl⟩
        have n2 : pw ≠ bl := by have := (blk9_lt fl); omega
        have n1 : pw ≠ bb := by have := (blk9_lt fb); omega
        have gpw : w.heap.size ≤ pw := by have := hB.size; omega
        have fp := (MapKept.heap_alloc V3 (.cells #[.slice none 0 0, .slice none 0 0, .slice none 0 0, .slice none 0 0, .slice none 0 0] 152)).1
        have hb : Below V3.heap.size V3 (V3.alloc (.cells #[.slice none 0 0, .slice none 0 0, .slice none 0 0, .slice none 0 0, .slice none 0 0] 152)) := (Below.refl _ _).alloc (Nat.le_refl _) _
        replace fg := (hb.block _ (blk9_lt fg)).trans fg
        replace fl := (hb.block _ (blk9_lt fl)).trans fl
        replace fb := (hb.block _ (blk9_lt fb)).trans fb
        replace hB := hB.trans (hb.mono hB.size)
        clear hb
        rw [hpw] at fp ⊢
        clear hpw
        obtain ⟨V4, hV4⟩ : ∃ x, V3.alloc (.cells #[.slice none 0 0, .slice none 0 0, .slice none 0 0, .slice none 0 0, .slice none 0 0] 152) = x := ⟨_, rfl⟩
        rw [hV4] at fg fl fb fp hB ⊢
        clear hV4
        have z0 := cell9_blk fp 0 rfl
        have z1 := cell9_blk fp 1 rfl
        have z2 := cell9_blk fp 2 rfl
        have z3 := cell9_blk fp 3 rfl
        have z4 := cell9_blk fp 4 rfl
        have y0 := frz9_blk fp 0
        have y1 := frz9_blk fp 1
        have y2 := frz9_blk fp 2
        have y3 := frz9_blk fp 3
        have y4 := frz9_blk fp 4
        refine wpAnyH_ready (rs := [8]) (by kernel_rfl) (by simp) ?_
        refine AllReadyH.cons (o := { dst := none, op := Go.Op.store 152 (Go.Operand.tmp 5) (Go.Operand.tmp 15), type := 0, pos := "walk.go:32", after := #[{ on := 7, ground := Go.Ground.data }, { on := 6, ground := Go.Ground.data }, { on := 3, ground := Go.Ground.chain }, { on := 0, ground := Go.Ground.phase }, { on := 1, ground := Go.Ground.phase }, { on := 2, ground := Go.Ground.phase }, { on := 3, ground := Go.Ground.phase }, { on := 4, ground := Go.Ground.phase }, { on := 5, ground := Go.Ground.phase }, { on := 6, ground := Go.Ground.phase }, { on := 7, ground := Go.Ground.phase }], guard := none }) rfl (fun K hK => ?_) AllReadyH.nil
        go_simp
        refine hK.out _ _ trivial (fun hHeld => ?_)
        clear hK K
        refine wpAnyH_done (by kernel_rfl) ?_ _
        refine NoPanic.normal ?_
        exact HK _ g bb bl pw (wa_leaf HZ0.out hB fp fb fl gpw gbb gbl n1 n2 n3)
      · go_simp
        refine hK.out _ _ trivial (fun hHeld => ?_)
        clear hK K
        try simp only [Act.put, List.setIfInBounds_toArray, List.set_cons_zero, List.set_cons_succ]
        obtain ⟨pw, hpw⟩ : ∃ x, V2.heap.size = x := ⟨_, rfl⟩
        have n2 : pw ≠ bl := by have := (blk9_lt fl); omega
        have gpw : w.heap.size ≤ pw := by have := hB.size; omega
        have fp := (MapKept.heap_alloc V2 (.cells #[.slice none 0 0, .slice none 0 0, .slice none 0 0, .slice none 0 0, .slice none 0 0] 152)).1
        have hb : Below V2.heap.size V2 (V2.alloc (.cells #[.slice none 0 0, .slice none 0 0, .slice none 0 0, .slice none 0 0, .slice none 0 0] 152)) := (Below.refl _ _).alloc (Nat.le_refl _) _
        replace fg := (hb.block _ (blk9_lt fg)).trans fg
        replace fl := (hb.block _ (blk9_lt fl)).trans fl
        replace hB := hB.trans (hb.mono hB.size)
        clear hb
        rw [hpw] at fp ⊢
        clear hpw
        obtain ⟨V3, hV3⟩ : ∃ x, V2.alloc (.cells #[.slice none 0 0, .slice none 0 0, .slice none 0 0, .slice none 0 0, .slice none 0 0] 152) = x := ⟨_, rfl⟩
        rw [hV3] at fg fl fp hB ⊢
        clear hV3
        refine wpAnyH_ready (rs := [3]) (by kernel_rfl) (by simp) ?_
        refine (AllReadyH.cons (o := { dst := some 12, op := Go.Op.call { callee := Go.Callee.value (Go.Operand.func 67), args := #[Go.Operand.tmp 10, Go.Operand.tmp 11], argTypes := #[64, 3] }, type := 64, pos := "walk.go:32", after := #[{ on := 1, ground := Go.Ground.data }, { on := 2, ground := Go.Ground.data }], guard := none }) rfl (fun K hK => ?_) AllReadyH.nil)
        go_simp
        with_reducible refine (HRp.out g V3 (cell9_blk fg 0 rfl)).mono ?_
        rintro e V4 ⟨bb, rfl, fb, hb, hge⟩
        try go_wp2_with fail
        refine hK.out _ _ trivial (fun hHeld => ?_)
        clear hK K
        try simp only [Act.put, List.setIfInBounds_toArray, List.set_cons_zero, List.set_cons_succ]
        have gbb : w.heap.size ≤ bb := by have := hB.size; omega
        have n3 : bb ≠ bl := by have := (blk9_lt fl); omega
        have n1 : pw ≠ bb := by have := (blk9_lt fp); omega
        replace fg := (hb.block _ (blk9_lt fg)).trans fg
        replace fl := (hb.block _ (blk9_lt fl)).trans fl
        replace fp := (hb.block _ (blk9_lt fp)).trans fp
        replace hB := hB.trans (hb.mono hB.size)
        clear hb hge
        refine' wpAnyH_take (i := 6) (oi := { dst := some 15, op := Go.Op.build 152 #[(0, Go.Operand.tmp 9), (2, Go.Operand.tmp 12), (4, Go.Operand.tmp 14)], type := 152, pos := "walk.go:32", after := #[{ on := 0, ground := Go.Ground.data }, { on := 3, ground := Go.Ground.data }, { on := 5, ground := Go.Ground.data }], guard := none }) (v := _) rfl (by kernel_rfl) (by kernel_rfl) (by kernel_rfl) (fun _ _ _ h => h) (Or.inl ⟨by rfl, ?_⟩) (by assumption) ?_
        rotate_left
        · (intro W hSw; go_simp; try with_reducible rfl)
        try simp only [Act.put, List.setIfInBounds_toArray, List.set_cons_zero, List.set_cons_succ]
        have z0 := cell9_blk fp 0 rfl
        have z1 := cell9_blk fp 1 rfl
        have z2 := cell9_blk fp 2 rfl
        have z3 := cell9_blk fp 3 rfl
        have z4 := cell9_blk fp 4 rfl
        have y0 := frz9_blk fp 0
        have y1 := frz9_blk fp 1
        have y2 := frz9_blk fp 2
        have y3 := frz9_blk fp 3
        have y4 := frz9_blk fp 4
        refine wpAnyH_ready (rs := [8]) (by kernel_rfl) (by simp) ?_
        refine AllReadyH.cons (o := { dst := none, op := Go.Op.store 152 (Go.Operand.tmp 5) (Go.Operand.tmp 15), type := 0, pos := "walk.go:32", after := #[{ on := 7, ground := Go.Ground.data }, { on := 6, ground := Go.Ground.data }, { on := 3, ground := Go.Ground.chain }, { on := 0, ground := Go.Ground.phase }, { on := 1, ground := Go.Ground.phase }, { on := 2, ground := Go.Ground.phase }, { on := 3, ground := Go.Ground.phase }, { on := 4, ground := Go.Ground.phase }, { on := 5, ground := Go.Ground.phase }, { on := 6, ground := Go.Ground.phase }, { on := 7, ground := Go.Ground.phase }], guard := none }) rfl (fun K hK => ?_) AllReadyH.nil
        go_simp
        refine hK.out _ _ trivial (fun hHeld => ?_)
        clear hK K
        refine wpAnyH_done (by kernel_rfl) ?_ _
        refine NoPanic.normal ?_
        exact HK _ g bb bl pw (wa_leaf HZ0.out hB fp fb fl gpw gbb gbl n1 n2 n3)
    · go_simp
      refine hK.out _ _ trivial (fun hHeld => ?_)
      clear hK K
      try simp only [Act.put, List.setIfInBounds_toArray, List.set_cons_zero, List.set_cons_succ]
      obtain ⟨pw, hpw⟩ : ∃ x, V1.heap.size = x := ⟨_, rfl⟩
      have gpw : w.heap.size ≤ pw := by have := hB.size; omega
      have fp := (MapKept.heap_alloc V1 (.cells #[.slice none 0 0, .slice none 0 0, .slice none 0 0, .slice none 0 0, .slice none 0 0] 152)).1
      have hb : Below V1.heap.size V1 (V1.alloc (.cells #[.slice none 0 0, .slice none 0 0, .slice none 0 0, .slice none 0 0, .slice none 0 0] 152)) := (Below.refl _ _).alloc (Nat.le_refl _) _
      replace fg := (hb.block _ (blk9_lt fg)).trans fg
      replace hB := hB.trans (hb.mono hB.size)
      clear hb
      rw [hpw] at fp ⊢
      clear hpw
      obtain ⟨V2, hV2⟩ : ∃ x, V1.alloc (.cells #[.slice none 0 0, .slice none 0 0, .slice none 0 0, .slice none 0 0, .slice none 0 0] 152) = x := ⟨_, rfl⟩
      rw [hV2] at fg fp hB ⊢
      clear hV2
      refine wpAnyH_ready (rs := [3, 5]) (by kernel_rfl) (by simp) ?_
      refine (AllReadyH.cons (o := { dst := some 12, op := Go.Op.call { callee := Go.Callee.value (Go.Operand.func 67), args := #[Go.Operand.tmp 10, Go.Operand.tmp 11], argTypes := #[64, 3] }, type := 64, pos := "walk.go:32", after := #[{ on := 1, ground := Go.Ground.data }, { on := 2, ground := Go.Ground.data }], guard := none }) rfl (fun K hK => ?_) (AllReadyH.cons (o := { dst := some 14, op := Go.Op.makeSlice 99 (Go.Operand.tmp 13) (Go.Operand.tmp 13), type := 99, pos := "walk.go:32", after := #[{ on := 4, ground := Go.Ground.data }, { on := 4, ground := Go.Ground.data }], guard := none }) rfl (fun K hK => ?_) AllReadyH.nil))
      · go_simp
        with_reducible refine (HRp.out g V2 (cell9_blk fg 0 rfl)).mono ?_
        rintro e V3 ⟨bb, rfl, fb, hb, hge⟩
        try go_wp2_with fail
        refine hK.out _ _ trivial (fun hHeld => ?_)
        clear hK K
        try simp only [Act.put, List.setIfInBounds_toArray, List.set_cons_zero, List.set_cons_succ]
        have gbb : w.heap.size ≤ bb := by have := hB.size; omega
        have n1 : pw ≠ bb := by have := (blk9_lt fp); omega
        replace fg := (hb.block _ (blk9_lt fg)).trans fg
        replace fp := (hb.block _ (blk9_lt fp)).trans fp
        replace hB := hB.trans (hb.mono hB.size)
        clear hb hge
        refine wpAnyH_ready (rs := [5]) (by kernel_rfl) (by simp) ?_
        refine (AllReadyH.cons (o := { dst := some 14, op := Go.Op.makeSlice 99 (Go.Operand.tmp 13) (Go.Operand.tmp 13), type := 99, pos := "walk.go:32", after := #[{ on := 4, ground := Go.Ground.data }, { on := 4, ground := Go.Ground.data }], guard := none }) rfl (fun K hK => ?_) AllReadyH.nil)
        go_simp
        refine hK.out _ _ trivial (fun hHeld => ?_)
        clear hK K
        try simp only [Act.put, List.setIfInBounds_toArray, List.set_cons_zero, List.set_cons_succ]
        obtain ⟨bl, hbl⟩ : ∃ x, V3.heap.size = x := ⟨_, rfl⟩
        have n2 : pw ≠ bl := by have := (blk9_lt fp); omega
        have n3 : bb ≠ bl := by have := (blk9_lt fb); omega
        have gbl : w.heap.size ≤ bl := by have := hB.size; omega
        have fl := (MapKept.heap_alloc V3 (.cells Z0 4)).1
        have hb : Below V3.heap.size V3 (V3.alloc (.cells Z0 4)) := (Below.refl _ _).alloc (Nat.le_refl _) _
        replace fg := (hb.block _ (blk9_lt fg)).trans fg
        replace fp := (hb.block _ (blk9_lt fp)).trans fp
        replace fb := (hb.block _ (blk9_lt fb)).trans fb
        replace hB := hB.trans (hb.mono hB.size)
        clear hb
        rw [hbl] at fl ⊢
        clear hbl
        obtain ⟨V4, hV4⟩ : ∃ x, V3.alloc (.cells Z0 4) = x := ⟨_, rfl⟩
        rw [hV4] at fg fp fb fl hB ⊢
        clear hV4
        refine' wpAnyH_take (i := 6) (oi := { dst := some 15, op := Go.Op.build 152 #[(0, Go.Operand.tmp 9), (2, Go.Operand.tmp 12), (4, Go.Operand.tmp 14)], type := 152, pos := "walk.go:32", after := #[{ on := 0, ground := Go.Ground.data }, { on := 3, ground := Go.Ground.data }, { on := 5, ground := Go.Ground.data }], guard := none }) (v := _) rfl (by kernel_rfl) (by kernel_rfl) (by kernel_rfl) (fun _ _ _ h => h) (Or.inl ⟨by rfl, ?_⟩) (by assumption) ?_
        rotate_left
        · (intro W hSw; go_simp; try with_reducible rfl)
        try simp only [Act.put, List.setIfInBounds_toArray, List.set_cons_zero, List.set_cons_succ]
        have z0 := cell9_blk fp 0 rfl
        have z1 := cell9_blk fp 1 rfl
        have z2 := cell9_blk fp 2 rfl
        have z3 := cell9_blk fp 3 rfl
        have z4 := cell9_blk fp 4 rfl
        have y0 := frz9_blk fp 0
        have y1 := frz9_blk fp 1
        have y2 := frz9_blk fp 2
        have y3 := frz9_blk fp 3
        have y4 := frz9_blk fp 4
        refine wpAnyH_ready (rs := [8]) (by kernel_rfl) (by simp) ?_
        refine AllReadyH.cons (o := { dst := none, op := Go.Op.store 152 (Go.Operand.tmp 5) (Go.Operand.tmp 15), type := 0, pos := "walk.go:32", after := #[{ on := 7, ground := Go.Ground.data }, { on := 6, ground := Go.Ground.data }, { on := 3, ground := Go.Ground.chain }, { on := 0, ground := Go.Ground.phase }, { on := 1, ground := Go.Ground.phase }, { on := 2, ground := Go.Ground.phase }, { on := 3, ground := Go.Ground.phase }, { on := 4, ground := Go.Ground.phase }, { on := 5, ground := Go.Ground.phase }, { on := 6, ground := Go.Ground.phase }, { on := 7, ground := Go.Ground.phase }], guard := none }) rfl (fun K hK => ?_) AllReadyH.nil
        go_simp
        refine hK.out _ _ trivial (fun hHeld => ?_)
        clear hK K
        refine wpAnyH_done (by kernel_rfl) ?_ _
        refine NoPanic.normal ?_
        exact HK _ g bb bl pw (wa_leaf HZ0.out hB fp fb fl gpw gbb gbl n1 n2 n3)
      · go_simp
        refine hK.out _ _ trivial (fun hHeld => ?_)
        clear hK K
        try simp only [Act.put, List.setIfInBounds_toArray, List.set_cons_zero, List.set_cons_succ]
        obtain ⟨bl, hbl⟩ : ∃ x, V2.heap.size = x := ⟨_, rfl⟩
        have n2 : pw ≠ bl := by have := (blk9_lt fp); omega
        have gbl : w.heap.size ≤ bl := by have := hB.size; omega
        have fl := (MapKept.heap_alloc V2 (.cells Z0 4)).1
        have hb : Below V2.heap.size V2 (V2.alloc (.cells Z0 4)) := (Below.refl _ _).alloc (Nat.le_refl _) _
        replace fg := (hb.block _ (blk9_lt fg)).trans fg
        replace fp := (hb.block _ (blk9_lt fp)).trans fp
        replace hB := hB.trans (hb.mono hB.size)
        clear hb
        rw [hbl] at fl ⊢
        clear hbl
        obtain ⟨V3, hV3⟩ : ∃ x, V2.alloc (.cells Z0 4) = x := ⟨_, rfl⟩
        rw [hV3] at fg fp fl hB ⊢
        clear hV3
        refine wpAnyH_ready (rs := [3]) (by kernel_rfl) (by simp) ?_
        refine (AllReadyH.cons (o := { dst := some 12, op := Go.Op.call { callee := Go.Callee.value (Go.Operand.func 67), args := #[Go.Operand.tmp 10, Go.Operand.tmp 11], argTypes := #[64, 3] }, type := 64, pos := "walk.go:32", after := #[{ on := 1, ground := Go.Ground.data }, { on := 2, ground := Go.Ground.data }], guard := none }) rfl (fun K hK => ?_) AllReadyH.nil)
        go_simp
        with_reducible refine (HRp.out g V3 (cell9_blk fg 0 rfl)).mono ?_
        rintro e V4 ⟨bb, rfl, fb, hb, hge⟩
        try go_wp2_with fail
        refine hK.out _ _ trivial (fun hHeld => ?_)
        clear hK K
        try simp only [Act.put, List.setIfInBounds_toArray, List.set_cons_zero, List.set_cons_succ]
        have gbb : w.heap.size ≤ bb := by have := hB.size; omega
        have n1 : pw ≠ bb := by have := (blk9_lt fp); omega
        have n3 : bb ≠ bl := by have := (blk9_lt fl); omega
        replace fg := (hb.block _ (blk9_lt fg)).trans fg
        replace fp := (hb.block _ (blk9_lt fp)).trans fp
        replace fl := (hb.block _ (blk9_lt fl)).trans fl
        replace hB := hB.trans (hb.mono hB.size)
        clear hb hge
        refine' wpAnyH_take (i := 6) (oi := { dst := some 15, op := Go.Op.build 152 #[(0, Go.Operand.tmp 9), (2, Go.Operand.tmp 12), (4, Go.Operand.tmp 14)], type := 152, pos := "walk.go:32", after := #[{ on := 0, ground := Go.Ground.data }, { on := 3, ground := Go.Ground.data }, { on := 5, ground := Go.Ground.data }], guard := none }) (v := _) rfl (by kernel_rfl) (by kernel_rfl) (by kernel_rfl) (fun _ _ _ h => h) (Or.inl ⟨by rfl, ?_⟩) (by assumption) ?_
        rotate_left
        · (intro W hSw; go_simp; try with_reducible rfl)
        try simp only [Act.put, List.setIfInBounds_toArray, List.set_cons_zero, List.set_cons_succ]
        have z0 := cell9_blk fp 0 rfl
        have z1 := cell9_blk fp 1 rfl
        have z2 := cell9_blk fp 2 rfl
        have z3 := cell9_blk fp 3 rfl
        have z4 := cell9_blk fp 4 rfl
        have y0 := frz9_blk fp 0
        have y1 := frz9_blk fp 1
        have y2 := frz9_blk fp 2
        have y3 := frz9_blk fp 3
        have y4 := frz9_blk fp 4
        refine wpAnyH_ready (rs := [8]) (by kernel_rfl) (by simp) ?_
        refine AllReadyH.cons (o := { dst := none, op := Go.Op.store 152 (Go.Operand.tmp 5) (Go.Operand.tmp 15), type := 0, pos := "walk.go:32", after := #[{ on := 7, ground := Go.Ground.data }, { on := 6, ground := Go.Ground.data }, { on := 3, ground := Go.Ground.chain }, { on := 0, ground := Go.Ground.phase }, { on := 1, ground := Go.Ground.phase }, { on := 2, ground := Go.Ground.phase }, { on := 3, ground := Go.Ground.phase }, { on := 4, ground := Go.Ground.phase }, { on := 5, ground := Go.Ground.phase }, { on := 6, ground := Go.Ground.phase }, { on := 7, ground := Go.Ground.phase }], guard := none }) rfl (fun K hK => ?_) AllReadyH.nil
        go_simp
        refine hK.out _ _ trivial (fun hHeld => ?_)
        clear hK K
        refine wpAnyH_done (by kernel_rfl) ?_ _
        refine NoPanic.normal ?_
        exact HK _ g bb bl pw (wa_leaf HZ0.out hB fp fb fl gpw gbb gbl n1 n2 n3)
  · go_simp
    refine hK.out _ _ trivial (fun hHeld => ?_)
    clear hK K
    try simp only [Act.put, List.setIfInBounds_toArray, List.set_cons_zero, List.set_cons_succ]
    obtain ⟨bl, hbl⟩ : ∃ x, V0.heap.size = x := ⟨_, rfl⟩
    have gbl : w.heap.size ≤ bl := by have := hB.size; omega
    have fl := (MapKept.heap_alloc V0 (.cells Z0 4)).1
    have hb : Below V0.heap.size V0 (V0.alloc (.cells Z0 4)) := (Below.refl _ _).alloc (Nat.le_refl _) _
    replace hB := hB.trans (hb.mono hB.size)
    clear hb
    rw [hbl] at fl ⊢
    clear hbl
    obtain ⟨V1, hV1⟩ : ∃ x, V0.alloc (.cells Z0 4) = x := ⟨_, rfl⟩
    rw [hV1] at fl hB ⊢
    clear hV1
    refine wpAnyH_ready (rs := [1, 7]) (by kernel_rfl) (by simp) ?_
    refine (AllReadyH.cons (o := { dst := some 10, op := Go.Op.buildSlice 64 1 #[(0, Go.Operand.const (Go.Value.int Go.IntKind.i64 (-1)))], type := 64, pos := "walk.go:32", after := #[], guard := none }) rfl (fun K hK => ?_) (AllReadyH.cons (o := { dst := some 5, op := Go.Op.alloc 152, type := 0, pos := "walk.go:32", after := #[], guard := none }) rfl (fun K hK => ?_) AllReadyH.nil))
    · go_simp
      refine hK.out _ _ trivial (fun hHeld => ?_)
      clear hK K
      try simp only [Act.put, List.setIfInBounds_toArray, List.set_cons_zero, List.set_cons_succ]
      obtain ⟨g, hg⟩ : ∃ x, V1.heap.size = x := ⟨_, rfl⟩
      have gg : w.heap.size ≤ g := by have := hB.size; omega
      have fg := (MapKept.heap_alloc V1 (.cells #[.int .i64 (-1)] 3)).1
      have hb : Below V1.heap.size V1 (V1.alloc (.cells #[.int .i64 (-1)] 3)) := (Below.refl _ _).alloc (Nat.le_refl _) _
      replace fl := (hb.block _ (blk9_lt fl)).trans fl
      replace hB := hB.trans (hb.mono hB.size)
      clear hb
      rw [hg] at fg ⊢
      clear hg
      obtain ⟨V2, hV2⟩ : ∃ x, V1.alloc (.cells #[.int .i64 (-1)] 3) = x := ⟨_, rfl⟩
      rw [hV2] at fl fg hB ⊢
      clear hV2
      refine wpAnyH_ready (rs := [3, 7]) (by kernel_rfl) (by simp) ?_
      refine (AllReadyH.cons (o := { dst := some 12, op := Go.Op.call { callee := Go.Callee.value (Go.Operand.func 67), args := #[Go.Operand.tmp 10, Go.Operand.tmp 11], argTypes := #[64, 3] }, type := 64, pos := "walk.go:32", after := #[{ on := 1, ground := Go.Ground.data }, { on := 2, ground := Go.Ground.data }], guard := none }) rfl (fun K hK => ?_) (AllReadyH.cons (o := { dst := some 5, op := Go.Op.alloc 152, type := 0, pos := "walk.go:32", after := #[], guard := none }) rfl (fun K hK => ?_) AllReadyH.nil))
      · go_simp
        with_reducible refine (HRp.out g V2 (cell9_blk fg 0 rfl)).mono ?_
        rintro e V3 ⟨bb, rfl, fb, hb, hge⟩
        try go_wp2_with fail
        refine hK.out _ _ trivial (fun hHeld => ?_)
        clear hK K
        try simp only [Act.put, List.setIfInBounds_toArray, List.set_cons_zero, List.set_cons_succ]
        have gbb : w.heap.size ≤ bb := by have := hB.size; omega
        have n3 : bb ≠ bl := by have := (blk9_lt fl); omega
        replace fl := (hb.block _ (blk9_lt fl)).trans fl
        replace fg := (hb.block _ (blk9_lt fg)).trans fg
        replace hB := hB.trans (hb.mono hB.size)
        clear hb hge
        refine' wpAnyH_take (i := 6) (oi := { dst := some 15, op := Go.Op.build 152 #[(0, Go.Operand.tmp 9), (2, Go.Operand.tmp 12), (4, Go.Operand.tmp 14)], type := 152, pos := "walk.go:32", after := #[{ on := 0, ground := Go.Ground.data }, { on := 3, ground := Go.Ground.data }, { on := 5, ground := Go.Ground.data }], guard := none }) (v := _) rfl (by kernel_rfl) (by kernel_rfl) (by kernel_rfl) (fun _ _ _ h => h) (Or.inl ⟨by rfl, ?_⟩) (by assumption) ?_
        rotate_left
        · (intro W hSw; go_simp; try with_reducible rfl)
        try simp only [Act.put, List.setIfInBounds_toArray, List.set_cons_zero, List.set_cons_succ]
        refine wpAnyH_ready (rs := [7]) (by kernel_rfl) (by simp) ?_
        refine (AllReadyH.cons (o := { dst := some 5, op := Go.Op.alloc 152, type := 0, pos := "walk.go:32", after := #[], guard := none }) rfl (fun K hK => ?_) AllReadyH.nil)
        go_simp
        refine hK.out _ _ trivial (fun hHeld => ?_)
        clear hK K
        try simp only [Act.put, List.setIfInBounds_toArray, List.set_cons_zero, List.set_cons_succ]
        obtain ⟨pw, hpw⟩ : ∃ x, V3.heap.size = x := ⟨_, rfl⟩
        have n2 : pw ≠ bl := by have := (blk9_lt fl); omega
        have n1 : pw ≠ bb := by have := (blk9_lt fb); omega
        have gpw : w.heap.size ≤ pw := by have := hB.size; omega
        have fp := (MapKept.heap_alloc V3 (.cells #[.slice none 0 0, .slice none 0 0, .slice none 0 0, .slice none 0 0, .slice none 0 0] 152)).1
        have hb : Below V3.heap.size V3 (V3.alloc (.cells #[.slice none 0 0, .slice none 0 0, .slice none 0 0, .slice none 0 0, .slice none 0 0] 152)) := (Below.refl _ _).alloc (Nat.le_refl _) _
        replace fl := (hb.block _ (blk9_lt fl)).trans fl
        replace fg := (hb.block _ (blk9_lt fg)).trans fg
        replace fb := (hb.block _ (blk9_lt fb)).trans fb
        replace hB := hB.trans (hb.mono hB.size)
        clear hb
        rw [hpw] at fp ⊢
        clear hpw
        obtain ⟨V4, hV4⟩ : ∃ x, V3.alloc (.cells #[.slice none 0 0, .slice none 0 0, .slice none 0 0, .slice none 0 0, .slice none 0 0] 152) = x := ⟨_, rfl⟩
        rw [hV4] at fl fg fb fp hB ⊢
        clear hV4
        have z0 := cell9_blk fp 0 rfl
        have z1 := cell9_blk fp 1 rfl
        have z2 := cell9_blk fp 2 rfl
        have z3 := cell9_blk fp 3 rfl
        have z4 := cell9_blk fp 4 rfl
        have y0 := frz9_blk fp 0
        have y1 := frz9_blk fp 1
        have y2 := frz9_blk fp 2
        have y3 := frz9_blk fp 3
        have y4 := frz9_blk fp 4
        refine wpAnyH_ready (rs := [8]) (by kernel_rfl) (by simp) ?_
        refine AllReadyH.cons (o := { dst := none, op := Go.Op.store 152 (Go.Operand.tmp 5) (Go.Operand.tmp 15), type := 0, pos := "walk.go:32", after := #[{ on := 7, ground := Go.Ground.data }, { on := 6, ground := Go.Ground.data }, { on := 3, ground := Go.Ground.chain }, { on := 0, ground := Go.Ground.phase }, { on := 1, ground := Go.Ground.phase }, { on := 2, ground := Go.Ground.phase }, { on := 3, ground := Go.Ground.phase }, { on := 4, ground := Go.Ground.phase }, { on := 5, ground := Go.Ground.phase }, { on := 6, ground := Go.Ground.phase }, { on := 7, ground := Go.Ground.phase }], guard := none }) rfl (fun K hK => ?_) AllReadyH.nil
        go_simp
        refine hK.out _ _ trivial (fun hHeld => ?_)
        clear hK K
        refine wpAnyH_done (by kernel_rfl) ?_ _
        refine NoPanic.normal ?_
        exact HK _ g bb bl pw (wa_leaf HZ0.out hB fp fb fl gpw gbb gbl n1 n2 n3)
      · go_simp
        refine hK.out _ _ trivial (fun hHeld => ?_)
        clear hK K
        try simp only [Act.put, List.setIfInBounds_toArray, List.set_cons_zero, List.set_cons_succ]
        obtain ⟨pw, hpw⟩ : ∃ x, V2.heap.size = x := ⟨_, rfl⟩
        have n2 : pw ≠ bl := by have := (blk9_lt fl); omega
        have gpw : w.heap.size ≤ pw := by have := hB.size; omega
        have fp := (MapKept.heap_alloc V2 (.cells #[.slice none 0 0, .slice none 0 0, .slice none 0 0, .slice none 0 0, .slice none 0 0] 152)).1
        have hb : Below V2.heap.size V2 (V2.alloc (.cells #[.slice none 0 0, .slice none 0 0, .slice none 0 0, .slice none 0 0, .slice none 0 0] 152)) := (Below.refl _ _).alloc (Nat.le_refl _) _
        replace fl := (hb.block _ (blk9_lt fl)).trans fl
        replace fg := (hb.block _ (blk9_lt fg)).trans fg
        replace hB := hB.trans (hb.mono hB.size)
        clear hb
        rw [hpw] at fp ⊢
        clear hpw
        obtain ⟨V3, hV3⟩ : ∃ x, V2.alloc (.cells #[.slice none 0 0, .slice none 0 0, .slice none 0 0, .slice none 0 0, .slice none 0 0] 152) = x := ⟨_, rfl⟩
        rw [hV3] at fl fg fp hB ⊢
        clear hV3
        refine wpAnyH_ready (rs := [3]) (by kernel_rfl) (by simp) ?_
        refine (AllReadyH.cons (o := { dst := some 12, op := Go.Op.call { callee := Go.Callee.value (Go.Operand.func 67), args := #[Go.Operand.tmp 10, Go.Operand.tmp 11], argTypes := #[64, 3] }, type := 64, pos := "walk.go:32", after := #[{ on := 1, ground := Go.Ground.data }, { on := 2, ground := Go.Ground.data }], guard := none }) rfl (fun K hK => ?_) AllReadyH.nil)
        go_simp
        with_reducible refine (HRp.out g V3 (cell9_blk fg 0 rfl)).mono ?_
        rintro e V4 ⟨bb, rfl, fb, hb, hge⟩
        try go_wp2_with fail
        refine hK.out _ _ trivial (fun hHeld => ?_)
        clear hK K
        try simp only [Act.put, List.setIfInBounds_toArray, List.set_cons_zero, List.set_cons_succ]
        have gbb : w.heap.size ≤ bb := by have := hB.size; omega
        have n3 : bb ≠ bl := by have := (blk9_lt fl); omega
        have n1 : pw ≠ bb := by have := (blk9_lt fp); omega
        replace fl := (hb.block _ (blk9_lt fl)).trans fl
        replace fg := (hb.block _ (blk9_lt fg)).trans fg
        replace fp := (hb.block _ (blk9_lt fp)).trans fp
        replace hB := hB.trans (hb.mono hB.size)
        clear hb hge
        refine' wpAnyH_take (i := 6) (oi := { dst := some 15, op := Go.Op.build 152 #[(0, Go.Operand.tmp 9), (2, Go.Operand.tmp 12), (4, Go.Operand.tmp 14)], type := 152, pos := "walk.go:32", after := #[{ on := 0, ground := Go.Ground.data }, { on := 3, ground := Go.Ground.data }, { on := 5, ground := Go.Ground.data }], guard := none }) (v := _) rfl (by kernel_rfl) (by kernel_rfl) (by kernel_rfl) (fun _ _ _ h => h) (Or.inl ⟨by rfl, ?_⟩) (by assumption) ?_
        rotate_left
        · (intro W hSw; go_simp; try with_reducible rfl)
        try simp only [Act.put, List.setIfInBounds_toArray, List.set_cons_zero, List.set_cons_succ]
        have z0 := cell9_blk fp 0 rfl
        have z1 := cell9_blk fp 1 rfl
        have z2 := cell9_blk fp 2 rfl
        have z3 := cell9_blk fp 3 rfl
        have z4 := cell9_blk fp 4 rfl
        have y0 := frz9_blk fp 0
        have y1 := frz9_blk fp 1
        have y2 := frz9_blk fp 2
        have y3 := frz9_blk fp 3
        have y4 := frz9_blk fp 4
        refine wpAnyH_ready (rs := [8]) (by kernel_rfl) (by simp) ?_
        refine AllReadyH.cons (o := { dst := none, op := Go.Op.store 152 (Go.Operand.tmp 5) (Go.Operand.tmp 15), type := 0, pos := "walk.go:32", after := #[{ on := 7, ground := Go.Ground.data }, { on := 6, ground := Go.Ground.data }, { on := 3, ground := Go.Ground.chain }, { on := 0, ground := Go.Ground.phase }, { on := 1, ground := Go.Ground.phase }, { on := 2, ground := Go.Ground.phase }, { on := 3, ground := Go.Ground.phase }, { on := 4, ground := Go.Ground.phase }, { on := 5, ground := Go.Ground.phase }, { on := 6, ground := Go.Ground.phase }, { on := 7, ground := Go.Ground.phase }], guard := none }) rfl (fun K hK => ?_) AllReadyH.nil
        go_simp
        refine hK.out _ _ trivial (fun hHeld => ?_)
        clear hK K
        refine wpAnyH_done (by kernel_rfl) ?_ _
        refine NoPanic.normal ?_
        exact HK _ g bb bl pw (wa_leaf HZ0.out hB fp fb fl gpw gbb gbl n1 n2 n3)
    · go_simp
      refine hK.out _ _ trivial (fun hHeld => ?_)
      clear hK K
      try simp only [Act.put, List.setIfInBounds_toArray, List.set_cons_zero, List.set_cons_succ]
      obtain ⟨pw, hpw⟩ : ∃ x, V1.heap.size = x := ⟨_, rfl⟩
      have n2 : pw ≠ bl := by have := (blk9_lt fl); omega
      have gpw : w.heap.size ≤ pw := by have := hB.size; omega
      have fp := (MapKept.heap_alloc V1 (.cells #[.slice none 0 0, .slice none 0 0, .slice none 0 0, .slice none 0 0, .slice none 0 0] 152)).1
      have hb : Below V1.heap.size V1 (V1.alloc (.cells #[.slice none 0 0, .slice none 0 0, .slice none 0 0, .slice none 0 0, .slice none 0 0] 152)) := (Below.refl _ _).alloc (Nat.le_refl _) _
      replace fl := (hb.block _ (blk9_lt fl)).trans fl
      replace hB := hB.trans (hb.mono hB.size)
      clear hb
      rw [hpw] at fp ⊢
      clear hpw
      obtain ⟨V2, hV2⟩ : ∃ x, V1.alloc (.cells #[.slice none 0 0, .slice none 0 0, .slice none 0 0, .slice none 0 0, .slice none 0 0] 152) = x := ⟨_, rfl⟩
      rw [hV2] at fl fp hB ⊢
      clear hV2
      refine wpAnyH_ready (rs := [1]) (by kernel_rfl) (by simp) ?_
      refine (AllReadyH.cons (o := { dst := some 10, op := Go.Op.buildSlice 64 1 #[(0, Go.Operand.const (Go.Value.int Go.IntKind.i64 (-1)))], type := 64, pos := "walk.go:32", after := #[], guard := none }) rfl (fun K hK => ?_) AllReadyH.nil)
      go_simp
      refine hK.out _ _ trivial (fun hHeld => ?_)
      clear hK K
      try simp only [Act.put, List.setIfInBounds_toArray, List.set_cons_zero, List.set_cons_succ]
      obtain ⟨g, hg⟩ : ∃ x, V2.heap.size = x := ⟨_, rfl⟩
      have gg : w.heap.size ≤ g := by have := hB.size; omega
      have fg := (MapKept.heap_alloc V2 (.cells #[.int .i64 (-1)] 3)).1
      have hb : Below V2.heap.size V2 (V2.alloc (.cells #[.int .i64 (-1)] 3)) := (Below.refl _ _).alloc (Nat.le_refl _) _
      replace fl := (hb.block _ (blk9_lt fl)).trans fl
      replace fp := (hb.block _ (blk9_lt fp)).trans fp
      replace hB := hB.trans (hb.mono hB.size)
      clear hb
      rw [hg] at fg ⊢
      clear hg
      obtain ⟨V3, hV3⟩ : ∃ x, V2.alloc (.cells #[.int .i64 (-1)] 3) = x := ⟨_, rfl⟩
      rw [hV3] at fl fp fg hB ⊢
      clear hV3
      refine wpAnyH_ready (rs := [3]) (by kernel_rfl) (by simp) ?_
      refine (AllReadyH.cons (o := { dst := some 12, op := Go.Op.call { callee := Go.Callee.value (Go.Operand.func 67), args := #[Go.Operand.tmp 10, Go.Operand.tmp 11], argTypes := #[64, 3] }, type := 64, pos := "walk.go:32", after := #[{ on := 1, ground := Go.Ground.data }, { on := 2, ground := Go.Ground.data }], guard := none }) rfl (fun K hK => ?_) AllReadyH.nil)
      go_simp
      with_reducible refine (HRp.out g V3 (cell9_blk fg 0 rfl)).mono ?_
      rintro e V4 ⟨bb, rfl, fb, hb, hge⟩
      try go_wp2_with fail
      refine hK.out _ _ trivial (fun hHeld => ?_)
      clear hK K
      try simp only [Act.put, List.setIfInBounds_toArray, List.set_cons_zero, List.set_cons_succ]
      have gbb : w.heap.size ≤ bb := by have := hB.size; omega
      have n3 : bb ≠ bl := by have := (blk9_lt fl); omega
      have n1 : pw ≠ bb := by have := (blk9_lt fp); omega
      replace fl := (hb.block _ (blk9_lt fl)).trans fl
      replace fp := (hb.block _ (blk9_lt fp)).trans fp
      replace fg := (hb.block _ (blk9_lt fg)).trans fg
      replace hB := hB.trans (hb.mono hB.size)
      clear hb hge
      refine' wpAnyH_take (i := 6) (oi := { dst := some 15, op := Go.Op.build 152 #[(0, Go.Operand.tmp 9), (2, Go.Operand.tmp 12), (4, Go.Operand.tmp 14)], type := 152, pos := "walk.go:32", after := #[{ on := 0, ground := Go.Ground.data }, { on := 3, ground := Go.Ground.data }, { on := 5, ground := Go.Ground.data }], guard := none }) (v := _) rfl (by kernel_rfl) (by kernel_rfl) (by kernel_rfl) (fun _ _ _ h => h) (Or.inl ⟨by rfl, ?_⟩) (by assumption) ?_
      rotate_left
      · (intro W hSw; go_simp; try with_reducible rfl)
      try simp only [Act.put, List.setIfInBounds_toArray, List.set_cons_zero, List.set_cons_succ]
      have z0 := cell9_blk fp 0 rfl
      have z1 := cell9_blk fp 1 rfl
      have z2 := cell9_blk fp 2 rfl
      have z3 := cell9_blk fp 3 rfl
      have z4 := cell9_blk fp 4 rfl
      have y0 := frz9_blk fp 0
      have y1 := frz9_blk fp 1
      have y2 := frz9_blk fp 2
      have y3 := frz9_blk fp 3
      have y4 := frz9_blk fp 4
      refine wpAnyH_ready (rs := [8]) (by kernel_rfl) (by simp) ?_
      refine AllReadyH.cons (o := { dst := none, op := Go.Op.store 152 (Go.Operand.tmp 5) (Go.Operand.tmp 15), type := 0, pos := "walk.go:32", after := #[{ on := 7, ground := Go.Ground.data }, { on := 6, ground := Go.Ground.data }, { on := 3, ground := Go.Ground.chain }, { on := 0, ground := Go.Ground.phase }, { on := 1, ground := Go.Ground.phase }, { on := 2, ground := Go.Ground.phase }, { on := 3, ground := Go.Ground.phase }, { on := 4, ground := Go.Ground.phase }, { on := 5, ground := Go.Ground.phase }, { on := 6, ground := Go.Ground.phase }, { on := 7, ground := Go.Ground.phase }], guard := none }) rfl (fun K hK => ?_) AllReadyH.nil
      go_simp
      refine hK.out _ _ trivial (fun hHeld => ?_)
      clear hK K
      refine wpAnyH_done (by kernel_rfl) ?_ _
      refine NoPanic.normal ?_
      exact HK _ g bb bl pw (wa_leaf HZ0.out hB fp fb fl gpw gbb gbl n1 n2 n3)
  · go_simp
    refine hK.out _ _ trivial (fun hHeld => ?_)
    clear hK K
    try simp only [Act.put, List.setIfInBounds_toArray, List.set_cons_zero, List.set_cons_succ]
    obtain ⟨pw, hpw⟩ : ∃ x, V0.heap.size = x := ⟨_, rfl⟩
    have gpw : w.heap.size ≤ pw := by have := hB.size; omega
    have fp := (MapKept.heap_alloc V0 (.cells #[.slice none 0 0, .slice none 0 0, .slice none 0 0, .slice none 0 0, .slice none 0 0] 152)).1
    have hb : Below V0.heap.size V0 (V0.alloc (.cells #[.slice none 0 0, .slice none 0 0, .slice none 0 0, .slice none 0 0, .slice none 0 0] 152)) := (Below.refl _ _).alloc (Nat.le_refl _) _
    replace hB := hB.trans (hb.mono hB.size)
    clear hb
    rw [hpw] at fp ⊢
    clear hpw
    obtain ⟨V1, hV1⟩ : ∃ x, V0.alloc (.cells #[.slice none 0 0, .slice none 0 0, .slice none 0 0, .slice none 0 0, .slice none 0 0] 152) = x := ⟨_, rfl⟩
    rw [hV1] at fp hB ⊢
    clear hV1
    refine wpAnyH_ready (rs := [1, 5]) (by kernel_rfl) (by simp) ?_
    refine (AllReadyH.cons (o := { dst := some 10, op := Go.Op.buildSlice 64 1 #[(0, Go.Operand.const (Go.Value.int Go.IntKind.i64 (-1)))], type := 64, pos := "walk.go:32", after := #[], guard := none }) rfl (fun K hK => ?_) (AllReadyH.cons (o := { dst := some 14, op := Go.Op.makeSlice 99 (Go.Operand.tmp 13) (Go.Operand.tmp 13), type := 99, pos := "walk.go:32", after := #[{ on := 4, ground := Go.Ground.data }, { on := 4, ground := Go.Ground.data }], guard := none }) rfl (fun K hK => ?_) AllReadyH.nil))
    · go_simp
      refine hK.out _ _ trivial (fun hHeld => ?_)
      clear hK K
      try simp only [Act.put, List.setIfInBounds_toArray, List.set_cons_zero, List.set_cons_succ]
      obtain ⟨g, hg⟩ : ∃ x, V1.heap.size = x := ⟨_, rfl⟩
      have gg : w.heap.size ≤ g := by have := hB.size; omega
      have fg := (MapKept.heap_alloc V1 (.cells #[.int .i64 (-1)] 3)).1
      have hb : Below V1.heap.size V1 (V1.alloc (.cells #[.int .i64 (-1)] 3)) := (Below.refl _ _).alloc (Nat.le_refl _) _
      replace fp := (hb.block _ (blk9_lt fp)).trans fp
      replace hB := hB.trans (hb.mono hB.size)
      clear hb
      rw [hg] at fg ⊢
      clear hg
      obtain ⟨V2, hV2⟩ : ∃ x, V1.alloc (.cells #[.int .i64 (-1)] 3) = x := ⟨_, rfl⟩
      rw [hV2] at fp fg hB ⊢
      clear hV2
      refine wpAnyH_ready (rs := [3, 5]) (by kernel_rfl) (by simp) ?_
      refine (AllReadyH.cons (o := { dst := some 12, op := Go.Op.call { callee := Go.Callee.value (Go.Operand.func 67), args := #[Go.Operand.tmp 10, Go.Operand.tmp 11], argTypes := #[64, 3] }, type := 64, pos := "walk.go:32", after := #[{ on := 1, ground := Go.Ground.data }, { on := 2, ground := Go.Ground.data }], guard := none }) rfl (fun K hK => ?_) (AllReadyH.cons (o := { dst := some 14, op := Go.Op.makeSlice 99 (Go.Operand.tmp 13) (Go.Operand.tmp 13), type := 99, pos := "walk.go:32", after := #[{ on := 4, ground := Go.Ground.data }, { on := 4, ground := Go.Ground.data }], guard := none }) rfl (fun K hK => ?_) AllReadyH.nil))
      · go_simp
        with_reducible refine (HRp.out g V2 (cell9_blk fg 0 rfl)).mono ?_
        rintro e V3 ⟨bb, rfl, fb, hb, hge⟩
        try go_wp2_with fail
        refine hK.out _ _ trivial (fun hHeld => ?_)
        clear hK K
        try simp only [Act.put, List.setIfInBounds_toArray, List.set_cons_zero, List.set_cons_succ]
        have gbb : w.heap.size ≤ bb := by have := hB.size; omega
        have n1 : pw ≠ bb := by have := (blk9_lt fp); omega
        replace fp := (hb.block _ (blk9_lt fp)).trans fp
        replace fg := (hb.block _ (blk9_lt fg)).trans fg
        replace hB := hB.trans (hb.mono hB.size)
        clear hb hge
        refine wpAnyH_ready (rs := [5]) (by kernel_rfl) (by simp) ?_
        refine (AllReadyH.cons (o := { dst := some 14, op := Go.Op.makeSlice 99 (Go.Operand.tmp 13) (Go.Operand.tmp 13), type := 99, pos := "walk.go:32", after := #[{ on := 4, ground := Go.Ground.data }, { on := 4, ground := Go.Ground.data }], guard := none }) rfl (fun K hK => ?_) AllReadyH.nil)
        go_simp
        refine hK.out _ _ trivial (fun hHeld => ?_)
        clear hK K
        try simp only [Act.put, List.setIfInBounds_toArray, List.set_cons_zero, List.set_cons_succ]
        obtain ⟨bl, hbl⟩ : ∃ x, V3.heap.size = x := ⟨_, rfl⟩
        have n2 : pw ≠ bl := by have := (blk9_lt fp); omega
        have n3 : bb ≠ bl := by have := (blk9_lt fb); omega
        have gbl : w.heap.size ≤ bl := by have := hB.size; omega
        have fl := (MapKept.heap_alloc V3 (.cells Z0 4)).1
        have hb : Below V3.heap.size V3 (V3.alloc (.cells Z0 4)) := (Below.refl _ _).alloc (Nat.le_refl _) _
        replace fp := (hb.block _ (blk9_lt fp)).trans fp
        replace fg := (hb.block _ (blk9_lt fg)).trans fg
        replace fb := (hb.block _ (blk9_lt fb)).trans fb
        replace hB := hB.trans (hb.mono hB.size)
        clear hb
        rw [hbl] at fl ⊢
        clear hbl
        obtain ⟨V4, hV4⟩ : ∃ x, V3.alloc (.cells Z0 4) = x := ⟨_, rfl⟩
        rw [hV4] at fp fg fb fl hB ⊢
        clear hV4
        refine' wpAnyH_take (i := 6) (oi := { dst := some 15, op := Go.Op.build 152 #[(0, Go.Operand.tmp 9), (2, Go.Operand.tmp 12), (4, Go.Operand.tmp 14)], type := 152, pos := "walk.go:32", after := #[{ on := 0, ground := Go.Ground.data }, { on := 3, ground := Go.Ground.data }, { on := 5, ground := Go.Ground.data }], guard := none }) (v := _) rfl (by kernel_rfl) (by kernel_rfl) (by kernel_rfl) (fun _ _ _ h => h) (Or.inl ⟨by rfl, ?_⟩) (by assumption) ?_
        rotate_left
        · (intro W hSw; go_simp; try with_reducible rfl)
        try simp only [Act.put, List.setIfInBounds_toArray, List.set_cons_zero, List.set_cons_succ]
        have z0 := cell9_blk fp 0 rfl
        have z1 := cell9_blk fp 1 rfl
        have z2 := cell9_blk fp 2 rfl
        have z3 := cell9_blk fp 3 rfl
        have z4 := cell9_blk fp 4 rfl
        have y0 := frz9_blk fp 0
        have y1 := frz9_blk fp 1
        have y2 := frz9_blk fp 2
        have y3 := frz9_blk fp 3
        have y4 := frz9_blk fp 4
        refine wpAnyH_ready (rs := [8]) (by kernel_rfl) (by simp) ?_
        refine AllReadyH.cons (o := { dst := none, op := Go.Op.store 152 (Go.Operand.tmp 5) (Go.Operand.tmp 15), type := 0, pos := "walk.go:32", after := #[{ on := 7, ground := Go.Ground.data }, { on := 6, ground := Go.Ground.data }, { on := 3, ground := Go.Ground.chain }, { on := 0, ground := Go.Ground.phase }, { on := 1, ground := Go.Ground.phase }, { on := 2, ground := Go.Ground.phase }, { on := 3, ground := Go.Ground.phase }, { on := 4, ground := Go.Ground.phase }, { on := 5, ground := Go.Ground.phase }, { on := 6, ground := Go.Ground.phase }, { on := 7, ground := Go.Ground.phase }], guard := none }) rfl (fun K hK => ?_) AllReadyH.nil
        go_simp
        refine hK.out _ _ trivial (fun hHeld => ?_)
        clear hK K
        refine wpAnyH_done (by kernel_rfl) ?_ _
        refine NoPanic.normal ?_
        exact HK _ g bb bl pw (wa_leaf HZ0.out hB fp fb fl gpw gbb gbl n1 n2 n3)
      · go_simp
        refine hK.out _ _ trivial (fun hHeld => ?_)
        clear hK K
        try simp only [Act.put, List.setIfInBounds_toArray, List.set_cons_zero, List.set_cons_succ]
        obtain ⟨bl, hbl⟩ : ∃ x, V2.heap.size = x := ⟨_, rfl⟩
        have n2 : pw ≠ bl := by have := (blk9_lt fp); omega
        have gbl : w.heap.size ≤ bl := by have := hB.size; omega
        have fl := (MapKept.heap_alloc V2 (.cells Z0 4)).1
        have hb : Below V2.heap.size V2 (V2.alloc (.cells Z0 4)) := (Below.refl _ _).alloc (Nat.le_refl _) _
        replace fp := (hb.block _ (blk9_lt fp)).trans fp
        replace fg := (hb.block _ (blk9_lt fg)).trans fg
        replace hB := hB.trans (hb.mono hB.size)
        clear hb
        rw [hbl] at fl ⊢
        clear hbl
        obtain ⟨V3, hV3⟩ : ∃ x, V2.alloc (.cells Z0 4) = x := ⟨_, rfl⟩
        rw [hV3] at fp fg fl hB ⊢
        clear hV3
        refine wpAnyH_ready (rs := [3]) (by kernel_rfl) (by simp) ?_
        refine (AllReadyH.cons (o := { dst := some 12, op := Go.Op.call { callee := Go.Callee.value (Go.Operand.func 67), args := #[Go.Operand.tmp 10, Go.Operand.tmp 11], argTypes := #[64, 3] }, type := 64, pos := "walk.go:32", after := #[{ on := 1, ground := Go.Ground.data }, { on := 2, ground := Go.Ground.data }], guard := none }) rfl (fun K hK => ?_) AllReadyH.nil)
        go_simp
        with_reducible refine (HRp.out g V3 (cell9_blk fg 0 rfl)).mono ?_
        rintro e V4 ⟨bb, rfl, fb, hb, hge⟩
        try go_wp2_with fail
        refine hK.out _ _ trivial (fun hHeld => ?_)
        clear hK K
        try simp only [Act.put, List.setIfInBounds_toArray, List.set_cons_zero, List.set_cons_succ]
        have gbb : w.heap.size ≤ bb := by have := hB.size; omega
        have n1 : pw ≠ bb := by have := (blk9_lt fp); omega
        have n3 : bb ≠ bl := by have := (blk9_lt fl); omega
        replace fp := (hb.block _ (blk9_lt fp)).trans fp
        replace fg := (hb.block _ (blk9_lt fg)).trans fg
        replace fl := (hb.block _ (blk9_lt fl)).trans fl
        replace hB := hB.trans (hb.mono hB.size)
        clear hb hge
        refine' wpAnyH_take (i := 6) (oi := { dst := some 15, op := Go.Op.build 152 #[(0, Go.Operand.tmp 9), (2, Go.Operand.tmp 12), (4, Go.Operand.tmp 14)], type := 152, pos := "walk.go:32", after := #[{ on := 0, ground := Go.Ground.data }, { on := 3, ground := Go.Ground.data }, { on := 5, ground := Go.Ground.data }], guard := none }) (v := _) rfl (by kernel_rfl) (by kernel_rfl) (by kernel_rfl) (fun _ _ _ h => h) (Or.inl ⟨by rfl, ?_⟩) (by assumption) ?_
        rotate_left
        · (intro W hSw; go_simp; try with_reducible rfl)
        try simp only [Act.put, List.setIfInBounds_toArray, List.set_cons_zero, List.set_cons_succ]
        have z0 := cell9_blk fp 0 rfl
        have z1 := cell9_blk fp 1 rfl
        have z2 := cell9_blk fp 2 rfl
        have z3 := cell9_blk fp 3 rfl
        have z4 := cell9_blk fp 4 rfl
        have y0 := frz9_blk fp 0
        have y1 := frz9_blk fp 1
        have y2 := frz9_blk fp 2
        have y3 := frz9_blk fp 3
        have y4 := frz9_blk fp 4
        refine wpAnyH_ready (rs := [8]) (by kernel_rfl) (by simp) ?_
        refine AllReadyH.cons (o := { dst := none, op := Go.Op.store 152 (Go.Operand.tmp 5) (Go.Operand.tmp 15), type := 0, pos := "walk.go:32", after := #[{ on := 7, ground := Go.Ground.data }, { on := 6, ground := Go.Ground.data }, { on := 3, ground := Go.Ground.chain }, { on := 0, ground := Go.Ground.phase }, { on := 1, ground := Go.Ground.phase }, { on := 2, ground := Go.Ground.phase }, { on := 3, ground := Go.Ground.phase }, { on := 4, ground := Go.Ground.phase }, { on := 5, ground := Go.Ground.phase }, { on := 6, ground := Go.Ground.phase }, { on := 7, ground := Go.Ground.phase }], guard := none }) rfl (fun K hK => ?_) AllReadyH.nil
        go_simp
        refine hK.out _ _ trivial (fun hHeld => ?_)
        clear hK K
        refine wpAnyH_done (by kernel_rfl) ?_ _
        refine NoPanic.normal ?_
        exact HK _ g bb bl pw (wa_leaf HZ0.out hB fp fb fl gpw gbb gbl n1 n2 n3)
    · go_simp
      refine hK.out _ _ trivial (fun hHeld => ?_)
      clear hK K
      try simp only [Act.put, List.setIfInBounds_toArray, List.set_cons_zero, List.set_cons_succ]
      obtain ⟨bl, hbl⟩ : ∃ x, V1.heap.size = x := ⟨_, rfl⟩
      have n2 : pw ≠ bl := by have := (blk9_lt fp); omega
      have gbl : w.heap.size ≤ bl := by have := hB.size; omega
      have fl := (MapKept.heap_alloc V1 (.cells Z0 4)).1
      have hb : Below V1.heap.size V1 (V1.alloc (.cells Z0 4)) := (Below.refl _ _).alloc (Nat.le_refl _) _
      replace fp := (hb.block _ (blk9_lt fp)).trans fp
      replace hB := hB.trans (hb.mono hB.size)
      clear hb
      rw [hbl] at fl ⊢
      clear hbl
      obtain ⟨V2, hV2⟩ : ∃ x, V1.alloc (.cells Z0 4) = x := ⟨_, rfl⟩
      rw [hV2] at fp fl hB ⊢
      clear hV2
      refine wpAnyH_ready (rs := [1]) (by kernel_rfl) (by simp) ?_
      refine (AllReadyH.cons (o := { dst := some 10, op := Go.Op.buildSlice 64 1 #[(0, Go.Operand.const (Go.Value.int Go.IntKind.i64 (-1)))], type := 64, pos := "walk.go:32", after := #[], guard := none }) rfl (fun K hK => ?_) AllReadyH.nil)
      go_simp
      refine hK.out _ _ trivial (fun hHeld => ?_)
      clear hK K
      try simp only [Act.put, List.setIfInBounds_toArray, List.set_cons_zero, List.set_cons_succ]
      obtain ⟨g, hg⟩ : ∃ x, V2.heap.size = x := ⟨_, rfl⟩
      have gg : w.heap.size ≤ g := by have := hB.size; omega
      have fg := (MapKept.heap_alloc V2 (.cells #[.int .i64 (-1)] 3)).1
      have hb : Below V2.heap.size V2 (V2.alloc (.cells #[.int .i64 (-1)] 3)) := (Below.refl _ _).alloc (Nat.le_refl _) _
      replace fp := (hb.block _ (blk9_lt fp)).trans fp
      replace fl := (hb.block _ (blk9_lt fl)).trans fl
      replace hB := hB.trans (hb.mono hB.size)
      clear hb
      rw [hg] at fg ⊢
      clear hg
      obtain ⟨V3, hV3⟩ : ∃ x, V2.alloc (.cells #[.int .i64 (-1)] 3) = x := ⟨_, rfl⟩
      rw [hV3] at fp fl fg hB ⊢
      clear hV3
      refine wpAnyH_ready (rs := [3]) (by kernel_rfl) (by simp) ?_
      refine (AllReadyH.cons (o := { dst := some 12, op := Go.Op.call { callee := Go.Callee.value (Go.Operand.func 67), args := #[Go.Operand.tmp 10, Go.Operand.tmp 11], argTypes := #[64, 3] }, type := 64, pos := "walk.go:32", after := #[{ on := 1, ground := Go.Ground.data }, { on := 2, ground := Go.Ground.data }], guard := none }) rfl (fun K hK => ?_) AllReadyH.nil)
      go_simp
      with_reducible refine (HRp.out g V3 (cell9_blk fg 0 rfl)).mono ?_
      rintro e V4 ⟨bb, rfl, fb, hb, hge⟩
      try go_wp2_with fail
      refine hK.out _ _ trivial (fun hHeld => ?_)
      clear hK K
      try simp only [Act.put, List.setIfInBounds_toArray, List.set_cons_zero, List.set_cons_succ]
      have gbb : w.heap.size ≤ bb := by have := hB.size; omega
      have n1 : pw ≠ bb := by have := (blk9_lt fp); omega
      have n3 : bb ≠ bl := by have := (blk9_lt fl); omega
      replace fp := (hb.block _ (blk9_lt fp)).trans fp
      replace fl := (hb.block _ (blk9_lt fl)).trans fl
      replace fg := (hb.block _ (blk9_lt fg)).trans fg
      replace hB := hB.trans (hb.mono hB.size)
      clear hb hge
      refine' wpAnyH_take (i := 6) (oi := { dst := some 15, op := Go.Op.build 152 #[(0, Go.Operand.tmp 9), (2, Go.Operand.tmp 12), (4, Go.Operand.tmp 14)], type := 152, pos := "walk.go:32", after := #[{ on := 0, ground := Go.Ground.data }, { on := 3, ground := Go.Ground.data }, { on := 5, ground := Go.Ground.data }], guard := none }) (v := _) rfl (by kernel_rfl) (by kernel_rfl) (by kernel_rfl) (fun _ _ _ h => h) (Or.inl ⟨by rfl, ?_⟩) (by assumption) ?_
      rotate_left
      · (intro W hSw; go_simp; try with_reducible rfl)
      try simp only [Act.put, List.setIfInBounds_toArray, List.set_cons_zero, List.set_cons_succ]
      have z0 := cell9_blk fp 0 rfl
      have z1 := cell9_blk fp 1 rfl
      have z2 := cell9_blk fp 2 rfl
      have z3 := cell9_blk fp 3 rfl
      have z4 := cell9_blk fp 4 rfl
      have y0 := frz9_blk fp 0
      have y1 := frz9_blk fp 1
      have y2 := frz9_blk fp 2
      have y3 := frz9_blk fp 3
      have y4 := frz9_blk fp 4
      refine wpAnyH_ready (rs := [8]) (by kernel_rfl) (by simp) ?_
      refine AllReadyH.cons (o := { dst := none, op := Go.Op.store 152 (Go.Operand.tmp 5) (Go.Operand.tmp 15), type := 0, pos := "walk.go:32", after := #[{ on := 7, ground := Go.Ground.data }, { on := 6, ground := Go.Ground.data }, { on := 3, ground := Go.Ground.chain }, { on := 0, ground := Go.Ground.phase }, { on := 1, ground := Go.Ground.phase }, { on := 2, ground := Go.Ground.phase }, { on := 3, ground := Go.Ground.phase }, { on := 4, ground := Go.Ground.phase }, { on := 5, ground := Go.Ground.phase }, { on := 6, ground := Go.Ground.phase }, { on := 7, ground := Go.Ground.phase }], guard := none }) rfl (fun K hK => ?_) AllReadyH.nil
      go_simp
      refine hK.out _ _ trivial (fun hHeld => ?_)
      clear hK K
      refine wpAnyH_done (by kernel_rfl) ?_ _
      refine NoPanic.normal ?_
      exact HK _ g bb bl pw (wa_leaf HZ0.out hB fp fb fl gpw gbb gbl n1 n2 n3)
set_option maxRecDepth 100000 in
set_option maxHeartbeats 4000000 in
theorem walkAll_any (tv : Value) (E : Nat → List Nat) (n : Nat) (w : World) (hn : n ≤ 1000000) (hT : TmR w tv E n) (hE : ∀ v, v < n → ∀ j ∈ E v, j < n) (hEl : ∀ v, v < n → (E v).length ≤ 1000000) :
    Calls Tryz.prog 49 #[tv] w fun e w' => ∃ rv bl R p, e = .returned (.tuple #[rv, .slice (some ⟨bl, 0, none⟩) n n]) ∧ RowN w' rv R ∧ BolB bl ((List.range n).map p) w' ∧ WaR E n R p ∧ Below w.heap.size w w' ∧ ∀ g, rv.ownBlock = some g → w.heap.size ≤ g := by
  have hT0 := hT
  obtain ⟨AT, Z, rfl, hZ, hZl, hZr⟩ := hT
  have HGo := Lib.hid (fun pw bb bl m => goTo_all w pw bb bl n (.slice AT n n) E hn hT0 hE hEl m)
  have HRp := Lib.hid (fun g W h => repeat_any n g W hn h)
  have q0 : (0 : Int) ≤ n := by omega
  have hmk : ∀ W, (Instr.makeSlice 99 (.int .i64 (n : Nat)) (.int .i64 (n : Nat))).run Tryz.prog W = .ok (.slice (some ⟨W.heap.size, 0, none⟩) n n) (W.alloc (.cells (((List.range n).map fun _ => false).map Value.bool).toArray 4)) := fun W => by
    have h := run_mk elBo (n : Nat) (n : Nat) q0 (Int.le_refl _) (by omega) (by omega) W
    rw [h]
    congr 3
    rw [Int.toNat_natCast]
    apply Array.toList_inj.1
    have h2 := toList_madeCells_one (.bool false) n
    rw [show (Value.bool false).cells = #[.bool false] from rfl, h2]
    apply List.ext_getElem
    · simp
    · intro j h1 h2
      simp
  have HTm := Lib.hid hT0
  obtain ⟨Z0, hZ0⟩ : ∃ Z, (((List.range n).map fun _ => false).map Value.bool).toArray = Z := ⟨_, rfl⟩
  rw [hZ0] at hmk
  have HZ0 := Lib.hid hZ0
  have HW := Lib.hid (show Below w.heap.size w w.drew from ⟨rfl, rfl, rfl, Nat.le_refl _, fun _ _ => rfl⟩)
  clear hT0 hZ hZr hZ0
  go_enter Tryz.func49, Tryz.ntmps49
  go_wp2_with fail
  refine waReg AT n w Z0 HZ0.out hn hmk _ _ ?_
  have hn63 : n < 9223372036854775807 := by omega
  intro V g bb bl pw hM
  have HM := Lib.hid hM
  clear hM hmk
  go_wp2_with fail
  go_loopw [17] (fun kv wr => ∃ (k : Nat) (s : Tj) (ov rv : Value), k ≤ n ∧ kv = .int .i64 k ∧ TJ E n [] s ∧ s.O = [] ∧ (∀ v, v < k → s.b v ≠ -1) ∧ WkM w pw bb bl n (.slice AT n n) ov rv s wr) (fun kv _ => n - (intOf kv).toNat)
  case atStart => exact ⟨0, tj0, _, _, Nat.zero_le _, rfl, TJ.init E n, rfl, fun v hv => absurd hv (Nat.not_lt_zero v), HM.out⟩
  case round =>
    obtain ⟨k, s, ov, rv, hk, rfl, hJ, hO, hseen, hM⟩ := hrel
    by_cases hlk : k < n
    · have c2 := hM.c2
      have gk := hM.bk.load hlk
      have r0 : (0 : Int) ≤ k := by omega
      have r1 : (k : Int) < n := by omega
      have HJ := Lib.hid (And.intro hJ (And.intro hO (And.intro hseen hM)))
      by_cases hb : s.b k = -1
      · have HC := Lib.hid (HGo.out pw bb bl (newT n s.b) [] s k ov rv wr (Nat.le_refl _) hJ hlk hb (fun g hg => by cases hg) hM)
        rw [hb] at gk
        clear hJ hO hseen hM hb
        go_wp2_with fail
        with_reducible refine HC.out.mono ?_
        rintro e w5 ⟨rfl, s5, ov5, rv5, hP, hM5⟩
        have HP := Lib.hid (And.intro hP hM5)
        clear hP hM5
        go_wp2_with fail
        refine ⟨⟨k + 1, s5, ov5, rv5, hlk, by go_num, HP.out.1.T, HP.out.1.top hn63 hlk HJ.out.2.1, fun v hv => ?_, HP.out.2⟩, by simp [intOf]; omega⟩
        rcases Nat.lt_succ_iff_lt_or_eq.1 hv with h | rfl
        · have h1 := HJ.out.2.2.1 v h
          rw [(HP.out.1.old v h1).1]
          exact h1
        · exact HP.out.1.seen
      · have HB := Lib.hid hb
        obtain ⟨x, hx⟩ : ∃ x, s.b k = x := ⟨_, rfl⟩
        rw [hx] at gk hb
        clear hJ hO hseen hM hx
        go_wp2_with fail
        refine ⟨⟨k + 1, s, ov, rv, hlk, by go_num, HJ.out.1, HJ.out.2.1, fun v hv => ?_, HJ.out.2.2.2⟩, by simp [intOf]; omega⟩
        rcases Nat.lt_succ_iff_lt_or_eq.1 hv with h | rfl
        · exact HJ.out.2.2.1 v h
        · exact HB.out
    · obtain rfl : k = n := by omega
      have hmx : mxI = 9223372036854775807 := rfl
      have hcl : ∀ v, v < k → s.b v = mxI := fun v hv => by
        rcases hJ.all v hv with h | h | ⟨a, h⟩
        · exact absurd h (hseen v hv)
        · exact h
        · rw [hO] at h
          simp at h
      have hW : WaR E k s.R s.p := ⟨fun v hv => (hJ.cl v hv (hcl v hv)).2, hJ.ord, fun v => by
        rw [hJ.inR v]
        constructor
        · exact fun h => h.1
        · exact fun h => ⟨h, hseen v h, by simp⟩, by have := hJ.cnt; omega⟩
      have hob := owns_block hM.rw_
      obtain ⟨AR, cR, hrv, h1, h2, h3, h4, _⟩ := owns_form hM.rw_
      subst hrv
      have hrow : RowN wr (.slice AR s.R.length cR) s.R := ⟨AR, cR, rfl, h1, h2, h4⟩
      have c3 := hM.c3
      have c4 := hM.c4
      have HF := Lib.hid (And.intro hW (And.intro hrow (And.intro hM.lp (And.intro hM.bel hob))))
      obtain ⟨r, hr⟩ : ∃ r, s.R.length = r := ⟨_, rfl⟩
      rw [hr] at c3 HF
      have hlk' : ¬ ((k : Int) < k) := by omega
      clear hJ hO hseen hM hcl hW hrow h1 h2 h3 h4 hob
      go_wp2_with fail
      go_quiet (fail)
      go_wp2_with fail
      go_ret2
      exact ⟨_, bl, s.R, s.p, rfl, HF.out.2.1, HF.out.2.2.1, HF.out.1, ⟨HF.out.2.2.2.1.os, HF.out.2.2.2.1.tape, HF.out.2.2.2.1.output, HF.out.2.2.2.1.size, HF.out.2.2.2.1.block⟩, fun g' hg' => HF.out.2.2.2.2 g' ((own_len' _ _ _ _ _).trans hg')⟩
end Go.Proofs.YthnogakjaaopkaaGreatDoor

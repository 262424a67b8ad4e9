/- Contract: Reach (the library's sort of ints by its contract). -/
import Derived.Test.YthmklmilgcjmlaaDoorGrOd
import Derived.Test.YthmklmilgcjmlaaDoorShelfG
import Derived.Sort.OwnSortedInts
namespace Go.Proofs.YthmklmilgcjmlaaDoor
open Go.RowKit Go.Sort Go.Shelf

theorem rcT_of {M : Wt} {n x : Nat} {P : List Nat} (hnd : P.Nodup) (hm : ∀ j, j ∈ P ↔ j ∈ rcT M n x) : P.mergeSort (fun a b => decide (a ≤ b)) = rcT M n x := by
  have hlt : (rcT M n x).Pairwise (· < ·) := by
    unfold rcT
    exact List.pairwise_lt_range.filter _
  have hnd2 : (rcT M n x).Nodup := hlt.imp fun h => Nat.ne_of_lt h
  have hp : (P.mergeSort (fun a b => decide (a ≤ b))).Perm (rcT M n x) := (List.mergeSort_perm _ _).trans ((List.perm_ext_iff_of_nodup hnd hnd2).2 hm)
  refine List.Perm.eq_of_pairwise (le := fun a b => decide (a ≤ b) = true) (fun a b _ _ h1 h2 => ?_) ?_ ?_ hp
  · have := of_decide_eq_true h1
    have := of_decide_eq_true h2
    omega
  · refine List.pairwise_mergeSort (fun a b c h1 h2 => ?_) (fun a b => ?_) P
    · have := of_decide_eq_true h1
      have := of_decide_eq_true h2
      exact decide_eq_true (by omega)
    · by_cases h : a ≤ b
      · rw [decide_eq_true h]; rfl
      · rw [decide_eq_true (show b ≤ a by omega), Bool.or_true]
  · exact hlt.imp fun h => decide_eq_true (Nat.le_of_lt h)
/-- From no marks on: what is left is what is reached. -/
theorem Vs.reach {M : Wt} {n x : Nat} {S P : List Bool × List Nat} (_ : Okw n M) (hx : x < n) (h : Vs (eM M) [x] (List.replicate n false) [] S.1 P.2) : P.2.mergeSort (fun a b => decide (a ≤ b)) = rcT M n x ∧ P.2 ≠ [] ∧ P.2.length ≤ n := by
  obtain ⟨Q, e, p⟩ := h.ex
  rw [List.nil_append] at e
  rw [e]
  have hno : ∀ j, ¬ (List.replicate n false)[j]? = some true := fun j hj => by
    rw [List.getElem?_replicate] at hj
    split at hj <;> simp at hj
  have hin : ∀ j, S.1[j]? = some true → j ∈ Q := fun j hj => by
    rcases (p.mem j).1 hj with k | k
    · exact absurd k (hno j)
    · exact k
  have hxQ : x ∈ Q := hin x (p.all x (List.mem_singleton.2 rfl))
  refine ⟨rcT_of p.nd fun j => ?_, (fun k => by rw [k] at hxQ; cases hxQ), ?_⟩
  · rw [rcT_mem]
    constructor
    · intro hj
      have hjn : j < n := by have := p.lt hj; rwa [List.length_replicate] at this
      obtain ⟨a, ha, hw⟩ := p.frm j hj
      rw [List.mem_singleton.1 ha] at hw
      exact ⟨hjn, hw.imp (fun e => e.symm) id⟩
    · rintro ⟨_, rfl | hw⟩
      · exact hxQ
      · exact hw.closed (D := fun z => z ∈ Q) (fun i z hi hz => hin z (p.shut i hi z hz)) hxQ
  · have h2 := List.Nodup.length_le_of_subset (l₁ := Q) (l₂ := List.range n) p.nd (fun y hy => List.mem_range.2 (by have := p.lt hy; rwa [List.length_replicate] at this))
    rwa [List.length_range] at h2
theorem sort_own (base : Nat) (v : Value) (P : List Nat) (w : World) (hne : P ≠ []) (ho : w.ownsRow base 3 1 v P.length (P.map intC)) (hl : P.length ≤ 1000000) :
    Calls Tryd.prog 30 #[v] w fun e w' => e = .returned (.tuple #[]) ∧ w'.ownsRow base 3 1 v P.length ((P.mergeSort (fun a b => decide (a ≤ b))).map intC) ∧ w.grownBy w' v.ownBlock := by
  rcases ho.2 with ⟨h0, h1⟩ | ⟨g, cap, cur, rfl, hb, hh, hc, hm, hs, ht⟩
  · exact absurd (List.eq_nil_of_length_eq_zero h1) hne
  · have hP : (P.map fun (j : Nat) => (j : Int)).length = P.length := by simp
    rw [Nat.mul_one] at ht
    have hH := holds_of_blockI (ss := P.map fun (j : Nat) => (j : Int)) hh (by rw [hP, ht, List.map_map]; rfl)
    have hr := Any.slices_Sort_int Tryd.sortL g 0 cap (P.map fun (j : Nat) => (j : Int)) w hH (Array.getElem?_eq_some_iff.1 hh).1 (by rw [hP]; omega)
    rw [hP] at hr
    refine Calls.mono hr ?_
    rintro e w' ⟨rfl, n, os, rfl⟩
    refine ⟨rfl, ?_, grownBy_sortedI _⟩
    have h2 := ownsRow_sortedI (n := n) (os := os) (ss := P.map fun (j : Nat) => (j : Int)) (ts := (P.map fun (j : Nat) => (j : Int)).mergeSort fun x y => decide (x ≤ y)) (by simp) hb hh (by rw [hP]; exact hc) hm hs
    rw [hP] at h2
    have e : (P.mergeSort (fun a b => decide (a ≤ b))).map intC = ((P.map fun (j : Nat) => (j : Int)).mergeSort fun x y => decide (x ≤ y)).map (Value.int .i64) := by
      rw [← List.map_mergeSort (r := fun a b => decide (a ≤ b)) (fun a _ b _ => by simp), List.map_map]
      rfl
    rw [e]
    exact h2
set_option maxRecDepth 100000 in
theorem mkB_run (n : Nat) (hn : n ≤ 4096) (W : World) : (Instr.makeSlice 51 (.int .i64 (n : Nat)) (.int .i64 (n : Nat))).run Tryd.prog W = .ok (.slice (some ⟨W.heap.size, 0, none⟩) n n) (W.alloc (.cells ((List.replicate n false).map Value.bool).toArray 4)) := by
  have h := run_mk (P := Tryd.prog) elBo (n : Nat) (n : Nat) (by omega) (Int.le_refl _) (by omega) (by omega) W
  rw [h]
  congr 3
  rw [Int.toNat_natCast]
  apply Array.toList_inj.1
  have h2 := toList_madeCells_one (Value.bool false) n
  rw [show (Value.bool false : Value).cells = #[Value.bool false] from rfl, h2, List.map_replicate]
/-- Ready to go on from a place. -/
structure RhR (w : World) (M : Wt) (n g bs : Nat) (Z : List Value) (W0 V : World) : Prop where
  nx : NxO W0 w.heap.size g (eM M) n Z
  vk : VisK bs none W0 V
  ap : Aprt g Z bs
  bo : BolB bs (List.replicate n false) V
  bel : Below w.heap.size w V
  ge : w.heap.size ≤ bs ∧ w.heap.size ≤ W0.heap.size
set_option maxRecDepth 100000 in
set_option maxHeartbeats 4000000 in
theorem pg_rc (n : Int) (v : Value) (L : List (Int × Int)) (f : Int) (w : World) (hn : I64 n) (hf : I64 f) (hv : RowW w v L) : Calls Tryd.prog 19 #[.int .i64 n, v, .int .i64 f] w (AnsL w (rcA n L f)) := by
  have HC := Lib.hid (pg_ck n v L w hn hv)
  unfold AnsL
  by_cases hck : ckW n L = 0
  · rw [hck, errE_zero] at HC
    have hpl := isPlace_any n f
    by_cases hfo : f < 0 ∨ n ≤ f
    · rw [rcA_out hck hfo]
      dsimp only
      rw [errE_pos (by decide)]
      unfold errK
      have e : plB n f = false := by
        unfold plB
        rw [Bool.and_eq_false_iff, decide_eq_false_iff_not, decide_eq_false_iff_not]
        omega
      rw [e] at hpl
      have HP := Lib.hid hpl
      clear hv hck hfo hpl e hn hf
      go_enter Tryd.func19, Tryd.ntmps19
      go_wp2_with fail
      with_reducible refine HC.out.mono ?_
      rintro e w1 ⟨rfl, hb1⟩
      have HB := Lib.hid hb1
      clear hb1
      go_wp2_with fail
      with_reducible refine (HP.out _).mono ?_
      rintro e w2 ⟨rfl, rfl⟩
      go_wp2_with fail
      go_ret2
      exact ⟨none, 0, rfl, RowN.none _, HB.out⟩
    · obtain ⟨k, rfl, hk, hlen, hM, hL⟩ := ckW_ok hck
      obtain ⟨j, rfl⟩ : ∃ j : Nat, f = j := ⟨f.toNat, by omega⟩
      have hcst : L = cst (ntW L) := hL
      rw [rcA_ok hck hfo, Int.toNat_natCast, Int.toNat_natCast]
      dsimp only
      rw [errE_zero]
      have hjk : j < k := by omega
      have e : plB k j = true := by
        unfold plB
        rw [decide_eq_true (show (0 : Int) ≤ j by omega), decide_eq_true (show (j : Int) < k by omega)]
        rfl
      rw [e] at hpl
      have HP := Lib.hid hpl
      have hml : (ntW L).length ≤ 1048576 := by unfold ntW; rw [List.length_map]; exact hlen
      have HLe := Lib.hid (fun W (hb : Below w.heap.size w W) => show Calls Tryd.prog 23 #[.int .i64 (k : Nat), v, .int .i64 0, .int .i64 1] W fun r w' => ∃ g Z, r = .returned (.slice (some ⟨g, 0, none⟩) k k) ∧ NxO w' W.heap.size g (eM (ntW L)) k Z ∧ Below W.heap.size W w' from leads_any k v (ntW L) (ntW L) 0 1 W hk hM hml (by rw [← hcst]; exact hv.below hb) (.inl ⟨rfl, rfl, rfl⟩))
      obtain ⟨M, hMe⟩ : ∃ M, ntW L = M := ⟨_, rfl⟩
      rw [hMe] at hM hml HLe ⊢
      have HM := Lib.hid (And.intro hM hml)
      have hmk := mkB_run k hk
      obtain ⟨ZB, hZB⟩ : ∃ Z, ((List.replicate k false).map Value.bool).toArray = Z := ⟨_, rfl⟩
      rw [hZB] at hmk
      have HZB := Lib.hid hZB
      have HVi := Lib.hid (fun (W0 : World) (g : Nat) (Z : List Value) (hZ : NxO W0 w.heap.size g (eM M) k Z) => visit_all W0 w.heap.size g k Z (eM M) hk hZ (fun i hi z hz => eM_lt hM i hi z hz) (fun i => by have := eM_len M i; omega))
      have q0 : (0 : Int) ≤ k := by omega
      clear hv hck hfo hpl e hn hf hM hml hlen hL hcst hMe hZB
      go_enter Tryd.func19, Tryd.ntmps19
      go_wp2_with fail
      with_reducible refine HC.out.mono ?_
      rintro e w1 ⟨rfl, hb1⟩
      have HB := Lib.hid hb1
      clear hb1
      go_wp2_with fail
      with_reducible refine (HP.out _).mono ?_
      rintro e w2 ⟨rfl, rfl⟩
      go_upto_region 6 with (fail)
      refine wp_region_noPanic ?_
      refine wp_region_held_drew (S := fun _ => True) (by kernel_rfl) trivial (fun hHeld => ?_)
      refine' wpAnyH_take (i := 0) (oi := { dst := some 21, op := Go.Op.move (Go.Operand.tmp 0), type := 3, pos := "graph.go:74", after := #[], guard := none }) (v := _) rfl (by kernel_rfl) (by kernel_rfl) (by kernel_rfl) (fun _ _ _ h => h) (Or.inl ⟨by rfl, ?_⟩) (by assumption) ?_
      rotate_left
      · (intro W hSw; go_simp; try with_reducible rfl)
      try simp only [Act.put, List.setIfInBounds_toArray, List.set_cons_zero, List.set_cons_succ]
      refine' wpAnyH_take (i := 1) (oi := { dst := some 22, op := Go.Op.move (Go.Operand.tmp 1), type := 22, pos := "graph.go:74", after := #[], guard := none }) (v := _) rfl (by kernel_rfl) (by kernel_rfl) (by kernel_rfl) (fun _ _ _ h => h) (Or.inl ⟨by rfl, ?_⟩) (by assumption) ?_
      rotate_left
      · (intro W hSw; go_simp; try with_reducible rfl)
      try simp only [Act.put, List.setIfInBounds_toArray, List.set_cons_zero, List.set_cons_succ]
      refine' wpAnyH_take (i := 3) (oi := { dst := some 24, op := Go.Op.move (Go.Operand.tmp 2), type := 3, pos := "graph.go:74", after := #[], guard := none }) (v := _) rfl (by kernel_rfl) (by kernel_rfl) (by kernel_rfl) (fun _ _ _ h => h) (Or.inl ⟨by rfl, ?_⟩) (by assumption) ?_
      rotate_left
      · (intro W hSw; go_simp; try with_reducible rfl)
      try simp only [Act.put, List.setIfInBounds_toArray, List.set_cons_zero, List.set_cons_succ]
      refine' wpAnyH_take (i := 4) (oi := { dst := some 25, op := Go.Op.move (Go.Operand.tmp 0), type := 3, pos := "graph.go:74", after := #[], guard := none }) (v := _) rfl (by kernel_rfl) (by kernel_rfl) (by kernel_rfl) (fun _ _ _ h => h) (Or.inl ⟨by rfl, ?_⟩) (by assumption) ?_
      rotate_left
      · (intro W hSw; go_simp; try with_reducible rfl)
      try simp only [Act.put, List.setIfInBounds_toArray, List.set_cons_zero, List.set_cons_succ]
      refine wpAnyH_ready (rs := [2, 5]) (by kernel_rfl) (by simp) ?_
      refine AllReadyH.cons (o := { dst := some 23, op := Go.Op.call { callee := Go.Callee.value (Go.Operand.func 23), args := #[Go.Operand.tmp 21, Go.Operand.tmp 22, Go.Operand.const (Go.Value.int Go.IntKind.i64 0), Go.Operand.const (Go.Value.int Go.IntKind.i64 1)], argTypes := #[3, 22, 3, 3] }, type := 44, pos := "graph.go:74", after := #[{ on := 0, ground := Go.Ground.data }, { on := 1, ground := Go.Ground.data }], guard := none }) rfl (fun K hK => ?_) (AllReadyH.cons (o := { dst := some 26, op := Go.Op.makeSlice 51 (Go.Operand.tmp 25) (Go.Operand.tmp 25), type := 51, pos := "graph.go:74", after := #[{ on := 4, ground := Go.Ground.data }, { on := 4, ground := Go.Ground.data }], guard := none }) rfl (fun K hK => ?_) AllReadyH.nil)
      go_simp
      have hdr := HLe.out w2.drew ⟨HB.out.os, HB.out.tape, HB.out.output, HB.out.size, HB.out.block⟩
      with_reducible refine hdr.mono ?_
      clear hdr
      rintro e W0 ⟨g, Z, rfl, hZ, hb0⟩
      clear hHeld
      try go_wp2_with fail
      refine hK.out _ _ trivial (fun hHeld => ?_)
      clear hK K
      try simp only [Act.put, List.setIfInBounds_toArray, List.set_cons_zero, List.set_cons_succ]
      refine wpAnyH_ready (rs := [5]) (by kernel_rfl) (by simp) ?_
      refine AllReadyH.cons (o := { dst := some 26, op := Go.Op.makeSlice 51 (Go.Operand.tmp 25) (Go.Operand.tmp 25), type := 51, pos := "graph.go:74", after := #[{ on := 4, ground := Go.Ground.data }, { on := 4, ground := Go.Ground.data }], guard := none }) rfl (fun K hK => ?_) AllReadyH.nil
      go_simp
      refine hK.out _ _ trivial (fun hHeld => ?_)
      clear hK K
      try simp only [Act.put, List.setIfInBounds_toArray, List.set_cons_zero, List.set_cons_succ]
      have hbW : Below w.heap.size w W0 := HB.out.trans ((show Below w2.heap.size w2 W0 from ⟨hb0.os, hb0.tape, hb0.output, hb0.size, hb0.block⟩).mono HB.out.size)
      have hal := (Below.refl W0.heap.size W0).alloc (Nat.le_refl _) (.cells ZB 4)
      obtain ⟨bs, hbs⟩ : ∃ x, W0.heap.size = x := ⟨_, rfl⟩
      obtain ⟨V, hV⟩ : ∃ x, W0.alloc (.cells ZB 4) = x := ⟨_, rfl⟩
      have hR : RhR w M k g bs Z W0 V := by
        rw [← hV, ← hbs]
        refine ⟨hZ.base HB.out.size, ⟨rfl, rfl, rfl, by rw [World.size_alloc]; omega, fun b h1 _ _ => Below.heap_alloc W0 _ b h1⟩, Aprt.new hZ (Nat.le_refl _), ?_, hbW.trans (hal.mono hbW.size), hbW.size, hbW.size⟩
        unfold BolB
        rw [HZB.out]
        exact (MapKept.heap_alloc W0 _).1
      rw [hbs, hV]
      rotate_left
      go_simp
      refine hK.out _ _ trivial (fun hHeld => ?_)
      clear hK K
      try simp only [Act.put, List.setIfInBounds_toArray, List.set_cons_zero, List.set_cons_succ]
      have hbW9 : Below w.heap.size w (w2.alloc (.cells ZB 4)) := HB.out.alloc HB.out.size _
      have hB9 : (w2.alloc (.cells ZB 4)).heap[w2.heap.size]? = some (.cells ZB 4 (0, 0)) := (MapKept.heap_alloc w2 _).1
      refine wpAnyH_ready (rs := [2]) (by kernel_rfl) (by simp) ?_
      refine AllReadyH.cons (o := { dst := some 23, op := Go.Op.call { callee := Go.Callee.value (Go.Operand.func 23), args := #[Go.Operand.tmp 21, Go.Operand.tmp 22, Go.Operand.const (Go.Value.int Go.IntKind.i64 0), Go.Operand.const (Go.Value.int Go.IntKind.i64 1)], argTypes := #[3, 22, 3, 3] }, type := 44, pos := "graph.go:74", after := #[{ on := 0, ground := Go.Ground.data }, { on := 1, ground := Go.Ground.data }], guard := none }) rfl (fun K hK => ?_) AllReadyH.nil
      go_simp
      have hdr := HLe.out (w2.alloc (.cells ZB 4)).drew ⟨hbW9.os, hbW9.tape, hbW9.output, hbW9.size, hbW9.block⟩
      with_reducible refine hdr.mono ?_
      clear hdr
      rintro e W0 ⟨g, Z, rfl, hZ, hb0⟩
      clear hHeld
      try go_wp2_with fail
      refine hK.out _ _ trivial (fun hHeld => ?_)
      clear hK K
      try simp only [Act.put, List.setIfInBounds_toArray, List.set_cons_zero, List.set_cons_succ]
      have hb0' : Below (w2.alloc (.cells ZB 4)).heap.size (w2.alloc (.cells ZB 4)) W0 := ⟨hb0.os, hb0.tape, hb0.output, hb0.size, hb0.block⟩
      have hbW : Below w.heap.size w W0 := hbW9.trans (hb0'.mono hbW9.size)
      have hBb : BolB w2.heap.size (List.replicate k false) W0 := by
        have h2 := hb0'.block w2.heap.size (by rw [World.size_alloc]; omega)
        unfold BolB
        rw [h2, HZB.out]
        exact hB9
      obtain ⟨bs, hbs⟩ : ∃ x, w2.heap.size = x := ⟨_, rfl⟩
      obtain ⟨V, hV⟩ : ∃ x, W0 = x := ⟨_, rfl⟩
      have hR : RhR w M k g bs Z W0 V := by
        rw [← hV, ← hbs]
        exact ⟨hZ.base hbW9.size, VisK.refl _ _ _, Aprt.typed hZ hBb, hBb, hbW, HB.out.size, hbW.size⟩
      clear hbW9 hB9 hb0' hBb
      rw [hbs]
      try rw [hV]
      all_goals
        have hcall := HVi.out W0 g Z hR.nx k j (List.replicate k false) [] (.slice none 0 0) bs V (by rw [List.count_replicate]; simp) (by simp) hjk (by rw [List.count_replicate]; simp; omega) hR.vk hR.ap hR.bo ⟨rfl, .inl ⟨rfl, rfl⟩⟩
        have HCa := Lib.hid hcall
        have HR := Lib.hid hR
        clear hcall hR hbW hb0 hZ
        refine wpAnyH_ready (rs := [6]) (by kernel_rfl) (by simp) ?_
        refine AllReadyH.cons (o := { dst := some 27, op := Go.Op.call { callee := Go.Callee.value (Go.Operand.func 29), args := #[Go.Operand.tmp 23, Go.Operand.tmp 24, Go.Operand.tmp 26, Go.Operand.const (Go.Value.slice none 0 0)], argTypes := #[44, 3, 51, 30] }, type := 30, pos := "graph.go:74", after := #[{ on := 2, ground := Go.Ground.data }, { on := 3, ground := Go.Ground.data }, { on := 5, ground := Go.Ground.data }, { on := 2, ground := Go.Ground.chain }], guard := none }) rfl (fun K hK => ?_) AllReadyH.nil
        go_simp
        with_reducible refine HCa.out.mono ?_
        rintro e V3 ⟨S', P, lv', rfl, hVs, _, hown, hvk, _⟩
        clear hHeld
        try go_wp2_with fail
        refine hK.out _ _ trivial (fun hHeld => ?_)
        clear hK K
        try simp only [Act.put, List.setIfInBounds_toArray, List.set_cons_zero, List.set_cons_succ]
        refine' wpAnyH_take (i := 7) (oi := { dst := some 9, op := Go.Op.assign (Go.Operand.tmp 27), type := 30, pos := "graph.go:74", after := #[{ on := 6, ground := Go.Ground.data }, { on := 6, ground := Go.Ground.chain }, { on := 0, ground := Go.Ground.phase }, { on := 1, ground := Go.Ground.phase }, { on := 2, ground := Go.Ground.phase }, { on := 3, ground := Go.Ground.phase }, { on := 4, ground := Go.Ground.phase }, { on := 5, ground := Go.Ground.phase }, { on := 6, ground := Go.Ground.phase }], guard := none }) (v := _) rfl (by kernel_rfl) (by kernel_rfl) (by kernel_rfl) (fun _ _ _ h => h) (Or.inl ⟨by rfl, ?_⟩) (by assumption) ?_
        rotate_left
        · (intro W hSw; go_simp; try with_reducible rfl)
        try simp only [Act.put, List.setIfInBounds_toArray, List.set_cons_zero, List.set_cons_succ]
        refine wpAnyH_done (by kernel_rfl) ?_ _
        refine NoPanic.normal ?_
        have hrc := Vs.reach (S := (S', [])) (P := ([], P)) HM.out.1 hjk hVs
        dsimp only at hrc
        have hbe : Below w.heap.size w V3 := HR.out.bel.trans (hvk.below HR.out.ge.1 (fun b hb => by cases hb) HR.out.bel.size)
        have hso := sort_own W0.heap.size lv' P V3 hrc.2.1 hown (by omega)
        rw [hrc.1] at hso
        obtain ⟨A5, c5, hlv, _, _, hPl, _, _⟩ := owns_form hown
        have HS := Lib.hid hso
        have HF := Lib.hid (And.intro hbe (And.intro hown HR.out.ge.2))
        subst hlv
        clear hVs hown hvk hrc hbe hso hHeld
        simp only [Exit.then]
        go_wp2_with fail
        with_reducible refine HS.out.mono ?_
        rintro e V4 ⟨rfl, hown4, hgr⟩
        have HG := Lib.hid (And.intro hown4 hgr)
        clear hown4 hgr
        go_wp2_with fail
        go_ret2
        have hln : (rcT M k j).length = P.length := by have := HG.out.1.1; rw [List.length_map] at this; omega
        refine ⟨A5, c5, by rw [hln]; rfl, ?_, Below.grown HF.out.1 HG.out.2 HF.out.1.size (fun b hb => Nat.le_trans HF.out.2.2 (HF.out.2.1.lt b hb).1)⟩
        rw [hln]
        exact RowN.owned hln HG.out.1
  · rw [rcA_bad hck]
    obtain ⟨q, hq⟩ : ∃ q, ckW n L = q := ⟨_, rfl⟩
    rw [hq] at HC hck ⊢
    dsimp only
    rw [errE_pos hck] at HC ⊢
    unfold errK at HC ⊢
    clear hv hq hck hn hf
    go_enter Tryd.func19, Tryd.ntmps19
    go_wp2_with fail
    with_reducible refine HC.out.mono ?_
    rintro e w1 ⟨rfl, hb1⟩
    have HB := Lib.hid hb1
    clear hb1
    go_wp2_with fail
    go_ret2
    exact ⟨none, 0, rfl, RowN.none _, HB.out⟩
end Go.Proofs.YthmklmilgcjmlaaDoor

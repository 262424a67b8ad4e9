/- IhRs, IhVa, in one text. -/
import Derived.Test.YthnogakjaaopkaaGreatDoorIhLa
import Derived.Test.YthnogakjaaopkaaGreatDoorIhVs
import Derived.Test.YthnogakjaaopkaaGreatDoorIhNn
import Derived.OwnWalk
/- Contract: Resolve. -/
namespace Go.Proofs.YthnogakjaaopkaaGreatDoor
open Go.RowKit

/-- The fields that have these values, by their names. -/
def IsFl (fn : Tx → Option MF) (L : List MF) : Prop := ∃ xs, FullV fn xs ∧ SrtV xs ∧ L = xs.map (·.2)
theorem bl_irrefl (a : Tx) : Op.bytesLess a a = false := by rw [Go.Proofs.bytesLess_eq]; exact decide_eq_false (List.lt_irrefl a)
theorem bl_trans {a b c : Tx} (h1 : Op.bytesLess a b = true) (h2 : Op.bytesLess b c = true) : Op.bytesLess a c = true := by
  rw [Go.Proofs.bytesLess_eq] at *
  exact decide_eq_true (List.lt_trans (of_decide_eq_true h1) (of_decide_eq_true h2))
theorem srt_same : ∀ (xs ys : List (Tx × MF)), SrtV xs → SrtV ys → (∀ p, p ∈ xs ↔ p ∈ ys) → xs = ys
  | [], [], _, _, _ => rfl
  | [], q :: ys, _, _, h => by have := (h q).2 List.mem_cons_self; cases this
  | p :: xs, [], _, _, h => by have := (h p).1 List.mem_cons_self; cases this
  | p :: xs, q :: ys, h1, h2, h => by
    have p1 := List.pairwise_cons.1 h1
    have p2 := List.pairwise_cons.1 h2
    have e : p = q := by
      rcases List.mem_cons.1 ((h p).1 List.mem_cons_self) with e | hp
      · exact e
      · rcases List.mem_cons.1 ((h q).2 List.mem_cons_self) with e | hq
        · exact e.symm
        · have a := bl_trans (p1.1 q hq) (p2.1 p hp)
          rw [bl_irrefl] at a
          cases a
    subst e
    congr 1
    refine srt_same xs ys p1.2 p2.2 fun r => ⟨fun hr => ?_, fun hr => ?_⟩
    · rcases List.mem_cons.1 ((h r).1 (List.mem_cons_of_mem _ hr)) with e | h3
      · have a := p1.1 r hr
        rw [e, bl_irrefl] at a
        cases a
      · exact h3
    · rcases List.mem_cons.1 ((h r).2 (List.mem_cons_of_mem _ hr)) with e | h3
      · have a := p2.1 r hr
        rw [e, bl_irrefl] at a
        cases a
      · exact h3
theorem IsFl.same {fn : Tx → Option MF} {L L' : List MF} (h : IsFl fn L) (h' : IsFl fn L') : L = L' := by
  obtain ⟨xs, a1, a2, rfl⟩ := h
  obtain ⟨ys, b1, b2, rfl⟩ := h'
  rw [srt_same xs ys a2 b2 fun p => ⟨fun hp => b1.2 p.1 p.2 (a1.1.2 p hp), fun hp => a1.2 p.1 p.2 (b1.1.2 p hp)⟩]
open Classical in
noncomputable def flC (fn : Tx → Option MF) : List MF := if h : ∃ L, IsFl fn L then Classical.choose h else []
theorem flC_eq {fn : Tx → Option MF} {L : List MF} (h : IsFl fn L) : flC fn = L := by
  have he : ∃ L, IsFl fn L := ⟨L, h⟩
  unfold flC
  rw [dif_pos he]
  exact (Classical.choose_spec he).same h
/-- What the blocks from k on define. -/
noncomputable def rsB (l : List MB) (i : Nat) : Option MB := (l[i]?).bind fun b => if regB b = true then some (b.1, b.2.1, flC fun s => gotP l s i) else none
noncomputable def rsK (l : List MB) (k : Nat) : List MB := (List.range k).filterMap (rsB l)
theorem rsK_succ (l : List MB) (k : Nat) : rsK l (k + 1) = rsK l k ++ (rsB l k).toList := by
  unfold rsK
  rw [List.range_succ, List.filterMap_append]
  congr 1
theorem rsK_len (l : List MB) (k : Nat) : (rsK l k).length ≤ k := by
  unfold rsK
  exact Nat.le_trans (List.length_filterMap_le _ _) (by simp)
theorem rowF_kept {W W' : World} {v : Value} {L : List MF} (h : RowF W v L) (hk : ∀ g, v.ownBlock = some g → W'.heap[g]? = W.heap[g]?) : RowF W' v L := by
  obtain ⟨A, c, rfl, h1, h2, h3⟩ := h
  exact ⟨A, c, rfl, h1, h2, h3.keep fun p hp _ => by subst hp; exact hk p.block rfl⟩
/-- What Resolve answers. -/
def RsE (l : List MB) (e : Ending) (w' : World) : Prop := match chkI l with
  | some q => e = .returned (.tuple #[.slice none 0 0, plV q.1 (q.2 : Nat), errK (q.2 : Nat)])
  | none => ∃ v, e = .returned (.tuple #[v, plV 0 0, .nilIface]) ∧ RowB w' v (rsK l l.length)
theorem chk_none {l : List MB} (h : chkI l = none) : ¬ Cyc (edg l) ∧ ∀ i, i < l.length → ¬ tooL l i := by
  unfold chkI at h
  simp only [Option.or_eq_none_iff] at h
  obtain ⟨_, _, h3, h4⟩ := h
  have hf : ∀ (w : Nat → MB → Option (Int × Nat)), fstB w 0 l = none → ∀ j b, l[j]? = some b → w j b = none := by
    intro w
    have gen : ∀ (l : List MB) (i : Nat), fstB w i l = none → ∀ j b, l[j]? = some b → w (i + j) b = none := by
      intro l
      induction l with
      | nil => intro i _ j b hb; simp at hb
      | cons c l ih =>
        intro i h j b hb
        rw [fstB, Option.or_eq_none_iff] at h
        cases j with
        | zero =>
          have e : c = b := by simpa using hb
          subst e
          exact h.1
        | succ j =>
          have := ih (i + 1) h.2 j b (by simpa using hb)
          rwa [show i + 1 + j = i + (j + 1) by omega] at this
    intro h j b hb
    have := gen l 0 h j b hb
    rwa [Nat.zero_add] at this
  refine ⟨no_cyc fun j hj hw => ?_, fun i hi ht => ?_⟩
  · have h1 := hf _ h3 j _ (List.getElem?_eq_getElem hj)
    unfold wrgL at h1
    rw [if_pos hw] at h1
    cases h1
  · have h1 := hf _ h4 i _ (List.getElem?_eq_getElem hi)
    unfold wrgV at h1
    rw [if_pos ht] at h1
    cases h1
theorem infoBk9 : (Tryz.prog.info? 48).map (fun i => (i.zero, i.size, i.bytes)) = some (some (.agg #[.int .i64 0, .string .empty, .slice none 0 0]), 3, 48) := by kernel_rfl
set_option maxRecDepth 100000 in
set_option maxHeartbeats 4000000 in
theorem resolve_any (lv : Value) (l : List MB) (w : World) (hs : Szs l) (hE : ErrT w) (hv : RowB w lv l) :
    Calls Tryz.prog 12 #[lv] w fun e w' => RsE l e w' ∧ Below w.heap.size w w' := by
  obtain ⟨g, hg⟩ : ∃ g, w.heap.size = g := ⟨_, rfl⟩
  obtain ⟨A, c, rfl, hr⟩ := hv.form
  obtain ⟨n, hn⟩ : ∃ n, l.length = n := ⟨_, rfl⟩
  have hl9 : n ≤ 1000000 := by rw [← hn]; exact hs.1
  obtain ⟨w1, hw1⟩ : ∃ x, w.alloc (.cells #[.int .i64 0, .int .i64 0] 29) = x := ⟨_, rfl⟩
  have hb1 : Below w.heap.size w w1 := by rw [← hw1]; exact (Below.refl _ _).alloc (Nat.le_refl _) _
  have b0 : w1.heap[g]? = some (.cells #[.int .i64 0, .int .i64 0] 29 (0, 0)) := by
    rw [← hw1, ← hg]
    exact (MapKept.heap_alloc w _).1
  have hLa := lookAt_any (.slice A l.length c) l w1 hs (hE.below hb1) (hv.below hb1)
  rw [hn] at hLa hv ⊢
  have HLa := Lib.hid hLa
  have HW := Lib.hid (And.intro hb1 (And.intro b0 (And.intro hs (And.intro hE hv))))
  clear hLa hs hE hv hr hb1 b0
  go_enter Tryz.func12, Tryz.ntmps12
  go_wp2_with fail
  with_reducible refine HLa.out.mono ?_
  rintro e V ⟨hLa, hbV⟩
  unfold LaE at hLa
  obtain ⟨m, hm⟩ : ∃ x, V.heap.size = x := ⟨_, rfl⟩
  have hgm : g < m := by have h1 := blk9_lt HW.out.2.1; have h2 := hbV.size; omega
  obtain ⟨V1, hV1⟩ : ∃ x, V.alloc (.cells #[.int .i64 0, .int .i64 0] 29) = x := ⟨_, rfl⟩
  have hb2 : Below V.heap.size V V1 := by rw [← hV1]; exact (Below.refl _ _).alloc (Nat.le_refl _) _
  have hm1 := (MapKept.heap_alloc V (.cells #[.int .i64 0, .int .i64 0] 29)).1
  rw [hV1, hm] at hm1
  have v0 := cell9_blk hm1 0 rfl
  have v1 := cell9_blk hm1 1 rfl
  have v2 := frz9_blk hm1 0
  have v3 := frz9_blk hm1 1
  cases hc : chkI l with
  | some q =>
    rw [hc] at hLa
    dsimp only at hLa
    subst hLa
    obtain ⟨q1, hq1⟩ : ∃ x, q.1 = x := ⟨_, rfl⟩
    obtain ⟨q2, hq2⟩ : ∃ x, ((q.2 : Nat) : Int) = x := ⟨_, rfl⟩
    rw [hq1, hq2]
    have hgV := (hbV.block g (blk9_lt HW.out.2.1)).trans HW.out.2.1
    have hm2 := set2P (x := .int .i64 q1) (y := .int .i64 q2) hm1
    have hg1 : ((V1.setCell ⟨m, 0, none⟩ (.int .i64 q1)).setCell ⟨m, 1, none⟩ (.int .i64 q2)).heap[g]? = some (.cells #[.int .i64 0, .int .i64 0] 29 (0, 0)) := (set2_other (by omega)).trans ((hb2.block g (blk9_lt hgV)).trans hgV)
    have x0 := cell9_blk hm2 0 rfl
    have x1 := cell9_blk hm2 1 rfl
    have y0 := cell9_blk hg1 0 rfl
    have y1 := cell9_blk hg1 1 rfl
    have f0 := frz9_blk hg1 0
    have f1 := frz9_blk hg1 1
    have hb3 : Below V.heap.size V ((V1.setCell ⟨m, 0, none⟩ (.int .i64 q1)).setCell ⟨m, 1, none⟩ (.int .i64 q2)) := (hb2.setCell (by show _ ≤ m; omega) _).setCell (by show _ ≤ m; omega) _
    have H1 := Lib.hid (And.intro hg1 (And.intro (HW.out.1.trans ((hbV.mono HW.out.1.size).trans (hb3.mono (Nat.le_trans HW.out.1.size hbV.size)))) (And.intro hc (And.intro hq1 hq2))))
    clear hg1 hb2 hc hq1 hq2 hgV hm1 hm2 hb3 hbV
    unfold plV errK
    have HXX := Lib.hid (And.intro x0 x1)
    go_wp2_with fail
    refine wp_region_noPanic ?_
    refine wp_region_held_drew (S := fun W => W.cell? { block := m, off := 0 } = some (.int .i64 q1) ∧ W.cell? { block := m, off := 1 } = some (.int .i64 q2)) (by kernel_rfl) HXX.out (fun hHeld => ?_)
    refine' wpAnyH_take (i := 0) (oi := { dst := some 19, op := Go.Op.load 29 (Go.Operand.tmp 6), type := 29, pos := "inherit.go:58", after := #[{ on := 2, ground := Go.Ground.gcOnly Go.Departure.lateStores }], guard := none }) (v := _) rfl (by kernel_rfl) (by kernel_rfl) (by kernel_rfl) (fun _ _ _ h => h) (Or.inl ⟨by rfl, ?_⟩) (by assumption) ?_
    rotate_left
    · (intro W hSw; obtain ⟨a0, a1⟩ := hSw; go_simp; try with_reducible rfl)
    try simp only [Act.put, List.setIfInBounds_toArray, List.set_cons_zero, List.set_cons_succ]
    refine' wpAnyH_take (i := 1) (oi := { dst := some 20, op := Go.Op.move (Go.Operand.tmp 7), type := 31, pos := "inherit.go:58", after := #[{ on := 3, ground := Go.Ground.gcOnly Go.Departure.lateStores }], guard := none }) (v := _) rfl (by kernel_rfl) (by kernel_rfl) (by kernel_rfl) (fun _ _ _ h => h) (Or.inl ⟨by rfl, ?_⟩) (by assumption) ?_
    rotate_left
    · (intro W hSw; go_simp; try with_reducible rfl)
    try simp only [Act.put, List.setIfInBounds_toArray, List.set_cons_zero, List.set_cons_succ]
    refine' wpAnyH_take (i := 2) (oi := { dst := some 2, op := Go.Op.assign (Go.Operand.const (Go.Value.slice none 0 0)), type := 25, pos := "inherit.go:58", after := #[{ on := 0, ground := Go.Ground.textOnly Go.Departure.lateStores }, { on := 1, ground := Go.Ground.textOnly Go.Departure.lateStores }], guard := none }) (v := _) rfl (by kernel_rfl) (by kernel_rfl) (by kernel_rfl) (fun _ _ _ h => h) (Or.inl ⟨by rfl, ?_⟩) (by assumption) ?_
    rotate_left
    · (intro W hSw; go_simp; try with_reducible rfl)
    try simp only [Act.put, List.setIfInBounds_toArray, List.set_cons_zero, List.set_cons_succ]
    refine wpAnyH_ready (rs := [3]) (by kernel_rfl) (by simp) ?_
    refine AllReadyH.cons (o := { dst := none, op := Go.Op.store 29 (Go.Operand.tmp 3) (Go.Operand.tmp 19), type := 0, pos := "inherit.go:58", after := #[{ on := 0, ground := Go.Ground.data }, { on := 2, ground := Go.Ground.chain }, { on := 0, ground := Go.Ground.phase }, { on := 1, ground := Go.Ground.textOnly Go.Departure.lateStores }, { on := 2, ground := Go.Ground.phase }], guard := none }) rfl (fun K hK => ?_) AllReadyH.nil
    go_simp
    refine hK.out _ _ ⟨cell_other9 (cell_other9 hHeld.1 (by omega)) (by omega), cell_other9 (cell_other9 hHeld.2 (by omega)) (by omega)⟩ (fun hHeld => ?_)
    clear hK K
    try simp only [Act.put, List.setIfInBounds_toArray, List.set_cons_zero, List.set_cons_succ]
    refine' wpAnyH_take (i := 4) (oi := { dst := some 4, op := Go.Op.assign (Go.Operand.tmp 20), type := 31, pos := "inherit.go:58", after := #[{ on := 1, ground := Go.Ground.data }, { on := 3, ground := Go.Ground.chain }, { on := 0, ground := Go.Ground.phase }, { on := 1, ground := Go.Ground.phase }, { on := 2, ground := Go.Ground.phase }, { on := 3, ground := Go.Ground.phase }], guard := none }) (v := _) rfl (by kernel_rfl) (by kernel_rfl) (by kernel_rfl) (fun _ _ _ h => h) (Or.inl ⟨by rfl, ?_⟩) (by assumption) ?_
    rotate_left
    · (intro W hSw; go_simp; try with_reducible rfl)
    try simp only [Act.put, List.setIfInBounds_toArray, List.set_cons_zero, List.set_cons_succ]
    refine wpAnyH_done (by kernel_rfl) ?_ _
    refine NoPanic.normal ?_
    clear hHeld
    go_wp2_with fail
    refine bodyPost_ret (results_tct rfl _ _ g _ #[.int .i64 q1, .int .i64 q2] (0, 0) _ rfl (set2P H1.out.1) Tryz.underlying29 rfl (by kernel_rfl)) rfl ?_
    refine ⟨?_, ?_⟩
    · unfold RsE
      rw [H1.out.2.2.1]
      dsimp only
      unfold plV errK
      rw [H1.out.2.2.2.1, H1.out.2.2.2.2]
      rfl
    · have hq := (H1.out.2.1.setCell (p := ⟨g, 0, none⟩) (by show _ ≤ g; omega) (.int .i64 q1)).setCell (p := ⟨g, 1, none⟩) (by show _ ≤ g; omega) (.int .i64 q2)
      exact ⟨hq.os, hq.tape, hq.output, hq.size, hq.block⟩
  | none =>
    rw [hc] at hLa
    obtain ⟨ps, x1, x2, x3, tt, Zt, rfl, hS, hT⟩ := hLa
    have hcn := chk_none hc
    unfold setC at hS
    rw [hn] at hS hT
    have HN := Lib.hid (And.intro hcn (And.intro hS (And.intro hT (And.intro hbV (And.intro hb2 hc)))))
    have hb3 : Below V.heap.size V ((V1.setCell ⟨m, 0, none⟩ (.int .i64 0)).setCell ⟨m, 1, none⟩ (.int .i64 0)) := (hb2.setCell (by show _ ≤ m; omega) _).setCell (by show _ ≤ m; omega) _
    have HV := Lib.hid hb3
    clear hcn hS hT hbV hb2 hb3 hm1 hc
    unfold plV
    go_wp2_with fail
    obtain ⟨W2, hW2⟩ : ∃ x, (V1.setCell ⟨m, 0, none⟩ (.int .i64 0)).setCell ⟨m, 1, none⟩ (.int .i64 0) = x := ⟨_, rfl⟩
    have HV2 : Hid (Below V.heap.size V W2) := by rw [← hW2]; exact HV.out
    rw [hW2]
    clear hW2 HV v0 v1 v2 v3 hV1
    go_loopw [8, 23] (fun rv kv wr => ∃ (k : Nat) (Z : List (MB × Value)), k ≤ n ∧ kv = .int .i64 k ∧ Below V.heap.size V wr ∧ wr.ownsRow m 48 3 rv Z.length (Z.flatMap bkC) ∧ Z.map (·.1) = rsK l k ∧ ∀ p ∈ Z, RowF wr p.2 p.1.2.2 ∧ ∀ g', p.2.ownBlock = some g' → (m ≤ g' ∧ g' < wr.heap.size) ∧ rv.ownBlock ≠ some g') (fun _ kv _ => n - (intOf kv).toNat)
    case atStart => exact ⟨0, [], Nat.zero_le _, rfl, HV2.out, World.ownsRow_nil _ _ _ _, rfl, fun p hp => by cases hp⟩
    case round =>
      obtain ⟨k, Z, hk, rfl, hbel, hown, hZ, hrows⟩ := hrel
      have hbelw : Below w.heap.size w wr := HW.out.1.trans ((HN.out.2.2.2.1.mono HW.out.1.size).trans (hbel.mono (Nat.le_trans HW.out.1.size HN.out.2.2.2.1.size)))
      by_cases hlk : k < n
      · have hkl : k < l.length := by omega
        obtain ⟨b, hb⟩ : ∃ b, l[k]? = some b := ⟨_, List.getElem?_eq_getElem hkl⟩
        have hbm : b ∈ l := List.mem_of_getElem? hb
        obtain ⟨ad, X, vF, rfl, hX, k0', k1', k2', hrf⟩ := HW.out.2.2.2.2.parts.2.2.2 k hlk b hb
        have k0 := cell9_below k0' hbelw
        have k1 := cell9_below k1' hbelw
        have k2 := cell9_below k2' hbelw
        clear k0' k1' k2'
        obtain ⟨KD, hKD⟩ : ∃ x, str b.2.1 = x := ⟨_, rfl⟩
        rw [hKD] at k1
        obtain ⟨x9, hx9⟩ : ∃ x, wr.heap.size = x := ⟨_, rfl⟩
        obtain ⟨y1, hy1⟩ : ∃ x, wr.alloc (.cells #[.int .i64 b.1, .string KD, vF] 48) = x := ⟨_, rfl⟩
        have hby : Below wr.heap.size wr y1 := by rw [← hy1]; exact (Below.refl _ _).alloc (Nat.le_refl _) _
        have by1 : y1.heap[x9]? = some (.cells #[.int .i64 b.1, .string KD, vF] 48 (0, 0)) := by rw [← hy1, ← hx9]; exact (MapKept.heap_alloc wr _).1
        have n0 := cell9_blk by1 0 rfl
        have n1 := cell9_blk by1 1 rfl
        have n2 := cell9_blk by1 2 rfl
        have HRg := isReg_any b vF y1 (HW.out.2.2.1.2.1 b hbm).2.1 (hrf.below (hbelw.trans (hby.mono hbelw.size)))
        rw [hKD] at HRg
        have HRg := Lib.hid HRg
        obtain ⟨A3, c3, hvF, _⟩ := hrf.form
        have HH := Lib.hid (And.intro hbel (And.intro hown (And.intro hZ (And.intro hrows (And.intro hby (And.intro by1 hKD))))))
        have HB := Lib.hid (And.intro hb (And.intro hrf hbelw))
        have r0 : (0 : Int) ≤ k := by omega
        have r1 : (k : Int) < n := by omega
        clear hbel hown hZ hrows hby by1 hKD hrf hbelw
        subst hvF
        go_wp2_with fail
        with_reducible refine HRg.out.mono ?_
        rintro e y5 ⟨rfl, hb5⟩
        have hb15 : Below wr.heap.size wr y5 := HH.out.2.2.2.2.1.trans (hb5.mono HH.out.2.2.2.2.1.size)
        cases hreg : regB b with
        | false =>
          have H5 := Lib.hid (And.intro hb15 hreg)
          clear hb15 hb5 hreg
          go_wp2_with fail
          have hbs := H5.out.1.size
          have hms : m ≤ wr.heap.size := by have := HH.out.1.size; omega
          refine ⟨⟨k + 1, Z, hlk, by go_num, HH.out.1.trans (H5.out.1.mono HH.out.1.size), own_same HH.out.2.1 (fun g hg => H5.out.1.block g (HH.out.2.1.lt g hg).2), ?_, fun p hp => ⟨(HH.out.2.2.2.1 p hp).1.below H5.out.1, fun g' hg' => ⟨⟨((HH.out.2.2.2.1 p hp).2 g' hg').1.1, Nat.lt_of_lt_of_le ((HH.out.2.2.2.1 p hp).2 g' hg').1.2 hbs⟩, ((HH.out.2.2.2.1 p hp).2 g' hg').2⟩⟩⟩, by simp [intOf]; omega⟩
          rw [rsK_succ, HH.out.2.2.1]
          have e : rsB l k = none := by unfold rsB; rw [HB.out.1, Option.bind_some, H5.out.2]; rfl
          rw [e]
          simp
        | true =>
          obtain ⟨bk, hzk, hTk⟩ := HN.out.2.2.1.2.2 k hlk
          have hbV5 : Below V.heap.size V y5 := HH.out.1.trans (hb15.mono HH.out.1.size)
          have hT5 : TabP y5 bk (fun s => gotP l s k) := hTk.below hbV5
          have hFl := fields_any bk (fun s => gotP l s k) (allN l) y5.drew (hT5.block rfl) (fun s f hf => (gotP_name HN.out.1.1 hkl hf).2.1) (fun s f hf => gotP_allN HN.out.1.1 hkl hf) HW.out.2.2.1.2.2
          have HFl := Lib.hid hFl
          have hx5 := (hb5.block x9 (blk9_lt HH.out.2.2.2.2.2.1)).trans HH.out.2.2.2.2.2.1
          have c0 := cell9_blk hx5 0 rfl
          have c1 := cell9_blk hx5 1 rfl
          have c4 := cell9_blk ((hbV5.block ps (blk9_lt HN.out.2.1)).trans HN.out.2.1) 4 rfl
          have ck := cell9_blk ((hbV5.block tt (blk9_lt HN.out.2.2.1.1)).trans HN.out.2.2.1.1) k (by rw [List.getElem?_toArray]; exact hzk)
          have HSS := Lib.hid (And.intro c0 (And.intro c1 (And.intro c4 ck)))
          have HSt : Hid (∀ W, Below y5.drew.heap.size y5.drew W → W.cell? { block := x9, off := 0 } = some (.int .i64 b.1) ∧ W.cell? { block := x9, off := 1 } = some (.string KD) ∧ W.cell? { block := ps, off := 4 } = some (.slice (some { block := tt, off := 0 }) n n) ∧ W.cell? { block := tt, off := k } = some (.map (some bk))) := fun W h => ⟨cell9_below (w := y5.drew) c0 h, cell9_below (w := y5.drew) c1 h, cell9_below (w := y5.drew) c4 h, cell9_below (w := y5.drew) ck h⟩
          have H5 := Lib.hid (And.intro hb15 (And.intro hreg hbV5))
          clear hb15 hb5 hreg hzk hTk hbV5 hT5 hFl hx5 c0 c1 c4 ck
          go_wp2_with fail
          refine wp_region_noPanic ?_
          refine wp_region_held_drew (S := fun W => W.cell? { block := x9, off := 0 } = some (.int .i64 b.1) ∧ W.cell? { block := x9, off := 1 } = some (.string KD) ∧ W.cell? { block := ps, off := 4 } = some (.slice (some { block := tt, off := 0 }) n n) ∧ W.cell? { block := tt, off := k } = some (.map (some bk))) (by kernel_rfl) HSS.out (fun hHeld => ?_)
          refine' wpAnyH_take (i := 0) (oi := { dst := some 30, op := Go.Op.move (Go.Operand.tmp 8), type := 25, pos := "inherit.go:63", after := #[], guard := none }) (v := _) rfl (by kernel_rfl) (by kernel_rfl) (by kernel_rfl) (fun _ _ _ h => h) (Or.inl ⟨by rfl, ?_⟩) (by assumption) ?_
          rotate_left
          · (intro W hSw; go_simp; try with_reducible rfl)
          try simp only [Act.put, List.setIfInBounds_toArray, List.set_cons_zero, List.set_cons_succ]
          refine' wpAnyH_take (i := 1) (oi := { dst := some 31, op := Go.Op.fieldAddr 48 (Go.Operand.tmp 10) 0, type := 0, pos := "inherit.go:63", after := #[], guard := none }) (v := _) rfl (by kernel_rfl) (by kernel_rfl) (by kernel_rfl) (fun _ _ _ h => h) (Or.inl ⟨by rfl, ?_⟩) (by assumption) ?_
          rotate_left
          · (intro W hSw; go_simp; try with_reducible rfl)
          try simp only [Act.put, List.setIfInBounds_toArray, List.set_cons_zero, List.set_cons_succ]
          refine' wpAnyH_take (i := 2) (oi := { dst := some 32, op := Go.Op.load 3 (Go.Operand.tmp 31), type := 3, pos := "inherit.go:63", after := #[{ on := 1, ground := Go.Ground.data }], guard := none }) (v := _) rfl (by kernel_rfl) (by kernel_rfl) (by kernel_rfl) (fun _ _ _ h => h) (Or.inl ⟨by rfl, ?_⟩) (by assumption) ?_
          rotate_left
          · (intro W hSw; obtain ⟨a0, a1, a2, a3⟩ := hSw; go_simp; try with_reducible rfl)
          try simp only [Act.put, List.setIfInBounds_toArray, List.set_cons_zero, List.set_cons_succ]
          refine' wpAnyH_take (i := 3) (oi := { dst := some 33, op := Go.Op.fieldAddr 48 (Go.Operand.tmp 10) 1, type := 0, pos := "inherit.go:63", after := #[], guard := none }) (v := _) rfl (by kernel_rfl) (by kernel_rfl) (by kernel_rfl) (fun _ _ _ h => h) (Or.inl ⟨by rfl, ?_⟩) (by assumption) ?_
          rotate_left
          · (intro W hSw; go_simp; try with_reducible rfl)
          try simp only [Act.put, List.setIfInBounds_toArray, List.set_cons_zero, List.set_cons_succ]
          refine' wpAnyH_take (i := 4) (oi := { dst := some 34, op := Go.Op.load 9 (Go.Operand.tmp 33), type := 9, pos := "inherit.go:63", after := #[{ on := 3, ground := Go.Ground.data }], guard := none }) (v := _) rfl (by kernel_rfl) (by kernel_rfl) (by kernel_rfl) (fun _ _ _ h => h) (Or.inl ⟨by rfl, ?_⟩) (by assumption) ?_
          rotate_left
          · (intro W hSw; obtain ⟨a0, a1, a2, a3⟩ := hSw; go_simp; try with_reducible rfl)
          try simp only [Act.put, List.setIfInBounds_toArray, List.set_cons_zero, List.set_cons_succ]
          refine' wpAnyH_take (i := 5) (oi := { dst := some 35, op := Go.Op.move (Go.Operand.tmp 5), type := 56, pos := "inherit.go:63", after := #[], guard := none }) (v := _) rfl (by kernel_rfl) (by kernel_rfl) (by kernel_rfl) (fun _ _ _ h => h) (Or.inl ⟨by rfl, ?_⟩) (by assumption) ?_
          rotate_left
          · (intro W hSw; go_simp; try with_reducible rfl)
          try simp only [Act.put, List.setIfInBounds_toArray, List.set_cons_zero, List.set_cons_succ]
          refine' wpAnyH_take (i := 6) (oi := { dst := some 36, op := Go.Op.nilCheck (Go.Operand.tmp 35), type := 0, pos := "inherit.go:63", after := #[{ on := 5, ground := Go.Ground.data }], guard := none }) (v := _) rfl (by kernel_rfl) (by kernel_rfl) (by kernel_rfl) (fun _ _ _ h => h) (Or.inl ⟨by rfl, ?_⟩) (by assumption) ?_
          rotate_left
          · (intro W hSw; go_simp; try with_reducible rfl)
          try simp only [Act.put, List.setIfInBounds_toArray, List.set_cons_zero, List.set_cons_succ]
          refine' wpAnyH_take (i := 7) (oi := { dst := some 37, op := Go.Op.fieldAddr 67 (Go.Operand.tmp 36) 4, type := 0, pos := "inherit.go:63", after := #[{ on := 6, ground := Go.Ground.data }], guard := none }) (v := _) rfl (by kernel_rfl) (by kernel_rfl) (by kernel_rfl) (fun _ _ _ h => h) (Or.inl ⟨by rfl, ?_⟩) (by assumption) ?_
          rotate_left
          · (intro W hSw; go_simp; try with_reducible rfl)
          try simp only [Act.put, List.setIfInBounds_toArray, List.set_cons_zero, List.set_cons_succ]
          refine' wpAnyH_take (i := 8) (oi := { dst := some 38, op := Go.Op.load 65 (Go.Operand.tmp 37), type := 65, pos := "inherit.go:63", after := #[{ on := 7, ground := Go.Ground.data }], guard := none }) (v := _) rfl (by kernel_rfl) (by kernel_rfl) (by kernel_rfl) (fun _ _ _ h => h) (Or.inl ⟨by rfl, ?_⟩) (by assumption) ?_
          rotate_left
          · (intro W hSw; obtain ⟨a0, a1, a2, a3⟩ := hSw; go_simp; try with_reducible rfl)
          try simp only [Act.put, List.setIfInBounds_toArray, List.set_cons_zero, List.set_cons_succ]
          refine' wpAnyH_take (i := 9) (oi := { dst := some 39, op := Go.Op.move (Go.Operand.tmp 9), type := 3, pos := "inherit.go:63", after := #[], guard := none }) (v := _) rfl (by kernel_rfl) (by kernel_rfl) (by kernel_rfl) (fun _ _ _ h => h) (Or.inl ⟨by rfl, ?_⟩) (by assumption) ?_
          rotate_left
          · (intro W hSw; go_simp; try with_reducible rfl)
          try simp only [Act.put, List.setIfInBounds_toArray, List.set_cons_zero, List.set_cons_succ]
          refine' wpAnyH_take (i := 10) (oi := { dst := some 40, op := Go.Op.indexAddr 65 (Go.Operand.tmp 38) (Go.Operand.tmp 39), type := 0, pos := "inherit.go:63", after := #[{ on := 8, ground := Go.Ground.data }, { on := 9, ground := Go.Ground.data }], guard := none }) (v := _) rfl (by kernel_rfl) (by kernel_rfl) (by kernel_rfl) (fun _ _ _ h => h) (Or.inl ⟨by rfl, ?_⟩) (by assumption) ?_
          rotate_left
          · (intro W hSw; go_simp; try with_reducible rfl)
          try simp only [Act.put, List.setIfInBounds_toArray, List.set_cons_zero, List.set_cons_succ]
          refine' wpAnyH_take (i := 11) (oi := { dst := some 41, op := Go.Op.load 61 (Go.Operand.tmp 40), type := 61, pos := "inherit.go:63", after := #[{ on := 10, ground := Go.Ground.data }], guard := none }) (v := _) rfl (by kernel_rfl) (by kernel_rfl) (by kernel_rfl) (fun _ _ _ h => h) (Or.inl ⟨by rfl, ?_⟩) (by assumption) ?_
          rotate_left
          · (intro W hSw; obtain ⟨a0, a1, a2, a3⟩ := hSw; go_simp; try with_reducible rfl)
          try simp only [Act.put, List.setIfInBounds_toArray, List.set_cons_zero, List.set_cons_succ]
          refine wpAnyH_ready (rs := [12]) (by kernel_rfl) (by simp) ?_
          refine AllReadyH.cons (o := { dst := some 42, op := Go.Op.call { callee := Go.Callee.value (Go.Operand.func 21), args := #[Go.Operand.tmp 41], argTypes := #[61] }, type := 46, pos := "inherit.go:63", after := #[{ on := 11, ground := Go.Ground.data }], guard := none }) rfl (fun K hK => ?_) AllReadyH.nil
          go_simp
          with_reducible refine (HFl.out).mono ?_
          rintro e y6 ⟨vL, xs, rfl, hfull, hsrt, hrow, hob, hb6⟩
          clear hHeld
          try go_wp2_with fail
          refine hK.out _ _ (HSt.out y6 hb6) (fun hHeld => ?_)
          clear hK K
          obtain ⟨AL, cL, hvL, hL1, hL2, hL3⟩ := hrow
          obtain ⟨zl, hzl⟩ : ∃ z, (xs.map (·.2)).length = z := ⟨_, rfl⟩
          rw [hzl] at hvL
          subst hvL
          try simp only [Act.put, List.setIfInBounds_toArray, List.set_cons_zero, List.set_cons_succ]
          refine' wpAnyH_take (i := 13) (oi := { dst := some 43, op := Go.Op.build 48 #[(0, Go.Operand.tmp 32), (1, Go.Operand.tmp 34), (2, Go.Operand.tmp 42)], type := 48, pos := "inherit.go:63", after := #[{ on := 2, ground := Go.Ground.data }, { on := 4, ground := Go.Ground.data }, { on := 12, ground := Go.Ground.data }], guard := none }) (v := _) rfl (by kernel_rfl) (by kernel_rfl) (by kernel_rfl) (fun _ _ _ h => h) (Or.inl ⟨by rfl, ?_⟩) (by assumption) ?_
          rotate_left
          · (intro W hSw; go_simp; try with_reducible rfl)
          try simp only [Act.put, List.setIfInBounds_toArray, List.set_cons_zero, List.set_cons_succ]
          refine wpAnyH_ready (rs := [14]) (by kernel_rfl) (by simp) ?_
          refine AllReadyH.cons (o := { dst := some 44, op := Go.Op.buildSlice 25 1 #[(0, Go.Operand.tmp 43)], type := 25, pos := "inherit.go:63", after := #[{ on := 13, ground := Go.Ground.data }], guard := none }) rfl (fun K hK => ?_) AllReadyH.nil
          go_simp
          refine hK.out _ _ (HSt.out _ (hb6.alloc hb6.size _)) (fun hHeld => ?_)
          clear hK K
          obtain ⟨y7, hy7⟩ : ∃ x, y6.alloc (.cells #[.int .i64 b.1, .string KD, .slice AL zl cL] 48) = x := ⟨_, rfl⟩
          rw [hy7] at hHeld ⊢
          have hb7 : Below y6.heap.size y6 y7 := by rw [← hy7]; exact (Below.refl _ _).alloc (Nat.le_refl _) _
          have hc7 : y7.heap[y6.heap.size]? = some (.cells #[.int .i64 b.1, .string KD, .slice AL zl cL] 48 (0, 0)) := by rw [← hy7]; exact (MapKept.heap_alloc y6 _).1
          have hb56 : Below y5.heap.size y5 y6 := ⟨hb6.os, hb6.tape, hb6.output, hb6.size, hb6.block⟩
          have hb67 : Below wr.heap.size wr y7 := H5.out.1.trans ((hb56.trans (hb7.mono hb56.size)).mono H5.out.1.size)
          have how7 := own_same HH.out.2.1 (fun g hg => hb67.block g (HH.out.2.1.lt g hg).2)
          have hzl9 : Z.length ≤ 1000000 := by
            have h1 := rsK_len l k
            rw [← HH.out.2.2.1, List.length_map] at h1
            omega
          have hms : m ≤ wr.heap.size := by have := HH.out.1.size; omega
          have hlb : ∀ j, j < m ∨ wr.heap.size ≤ j → u8.ownBlock ≠ some j := fun j hj e => by
            have := HH.out.2.1.lt j e
            omega
          have hpm : ps < m := by have := blk9_lt HN.out.2.1; omega
          have htm : tt < m := by have := blk9_lt HN.out.2.2.1.1; omega
          have hs7 := hb67.size
          have hx7 : x9 < y7.heap.size := by have := H5.out.1.size; have := hb7.size; have := hb56.size; have := blk9_lt HH.out.2.2.2.2.2.1; have := World.block_lt_of_cell? _ _ hHeld.1; exact this
          clear hy7
          try simp only [Act.put, List.setIfInBounds_toArray, List.set_cons_zero, List.set_cons_succ]
          refine wpAnyH_ready (rs := [15]) (by kernel_rfl) (by simp) ?_
          refine AllReadyH.cons (o := { dst := some 45, op := Go.Op.call { callee := Go.Callee.builtin Go.Builtin.append, args := #[Go.Operand.tmp 30, Go.Operand.tmp 44], argTypes := #[25, 25] }, type := 25, pos := "inherit.go:63", after := #[{ on := 0, ground := Go.Ground.data }, { on := 14, ground := Go.Ground.data }, { on := 12, ground := Go.Ground.chain }], guard := none }) rfl (fun K hK => ?_) AllReadyH.nil
          refine step_appK (by rfl) (.tmp 30) (.tmp 44) _ (by rfl) Tryz.underlying25 infoBk9 rfl (by omega) m u8 Z.length (Z.flatMap bkC) (by rfl) how7 (some ⟨y6.heap.size, 0, none⟩) 1 1 [.int .i64 b.1, .string KD, .slice AL zl cL] (by rfl) rfl (by have h := Rd.block hc7; exact h) (fun u hu => by simp only [List.mem_cons, List.not_mem_nil, or_false] at hu; rcases hu with rfl | rfl | rfl <;> rfl) (by unfold maxLen; omega) (by omega) (by omega) ?_
          intro v9 w9 ho9 hg9 hb9
          have hcl : ∀ (j o : Nat), j < y7.heap.size → (j < m ∨ wr.heap.size ≤ j) → w9.cell? ⟨j, o, none⟩ = y7.cell? ⟨j, o, none⟩ := fun j o h1 h2 => World.cell?_of_block (a := ⟨j, o, none⟩) (hg9.block j h1 (fun e => hlb j h2 e.symm))
          refine hK.out _ _ ⟨(hcl _ _ hx7 (.inr (by omega))).trans hHeld.1, (hcl _ _ hx7 (.inr (by omega))).trans hHeld.2.1, (hcl _ _ (by omega) (.inl hpm)).trans hHeld.2.2.1, (hcl _ _ (by omega) (.inl htm)).trans hHeld.2.2.2⟩ (fun hHeld => ?_)
          clear hK K
          try simp only [Act.put, List.setIfInBounds_toArray, List.set_cons_zero, List.set_cons_succ]
          refine' wpAnyH_take (i := 16) (oi := { dst := some 8, op := Go.Op.assign (Go.Operand.tmp 45), type := 25, pos := "inherit.go:63", after := #[{ on := 15, ground := Go.Ground.data }, { on := 15, ground := Go.Ground.chain }, { on := 0, ground := Go.Ground.phase }, { on := 1, ground := Go.Ground.phase }, { on := 2, ground := Go.Ground.phase }, { on := 3, ground := Go.Ground.phase }, { on := 4, ground := Go.Ground.phase }, { on := 5, ground := Go.Ground.phase }, { on := 6, ground := Go.Ground.phase }, { on := 7, ground := Go.Ground.phase }, { on := 8, ground := Go.Ground.phase }, { on := 9, ground := Go.Ground.phase }, { on := 10, ground := Go.Ground.phase }, { on := 11, ground := Go.Ground.phase }, { on := 12, ground := Go.Ground.phase }, { on := 13, ground := Go.Ground.phase }, { on := 14, ground := Go.Ground.phase }, { on := 15, ground := Go.Ground.phase }], guard := none }) (v := _) rfl (by kernel_rfl) (by kernel_rfl) (by kernel_rfl) (fun _ _ _ h => h) (Or.inl ⟨by rfl, ?_⟩) (by assumption) ?_
          rotate_left
          · (intro W hSw; go_simp; try with_reducible rfl)
          try simp only [Act.put, List.setIfInBounds_toArray, List.set_cons_zero, List.set_cons_succ]
          refine wpAnyH_done (by kernel_rfl) ?_ _
          refine NoPanic.normal ?_
          have hb59 : y5.heap.size ≤ y7.heap.size := Nat.le_trans hb56.size hb7.size
          have HE := Lib.hid (And.intro ho9 (And.intro hg9 (And.intro hb9 (And.intro hb67 (And.intro hb7 (And.intro hfull (And.intro hsrt (And.intro hob (And.intro hb56 (And.intro hlb (And.intro (And.intro hzl (And.intro hL1 (And.intro hL2 hL3))) (And.intro hms hb59))))))))))))
          clear ho9 hg9 hb9 hb67 hb7 hfull hsrt hob hb56 hlb hzl hL1 hL2 hL3 how7 hc7 hb6 hHeld hcl hb59
          simp only [Exit.inBlock, Exit.then]
          go_wp2_with fail
          obtain ⟨ho9, hg9, hb9, hb67, hb7, hfull, hsrt, hob, hb56, hlb, ⟨hzl, hL1, hL2, hL3⟩, hms, hb59⟩ := HE.out
          have hs67 := hb67.size
          have hs97 := hg9.size
          have hs5 := H5.out.1.size
          have hs7 := hb7.size
          have hs56 := hb56.size
          have hsl : (Value.slice AL zl cL) = .slice AL (xs.map (·.2)).length cL := by rw [hzl]
          have hrowN : RowF y6 (.slice AL zl cL) (xs.map (·.2)) := ⟨AL, cL, hsl, hL1, hL2, hL3⟩
          have hobN : ∀ g', (Value.slice AL zl cL).ownBlock = some g' → wr.heap.size ≤ g' ∧ g' < y6.heap.size := fun g' hg' => by
            have h1 := (hob g' hg').1
            have h2 : y5.drew.heap.size = y5.heap.size := rfl
            rw [h2] at h1
            exact ⟨by omega, (hob g' hg').2⟩
          have hkeep : ∀ g', g' < y7.heap.size → u8.ownBlock ≠ some g' → w9.heap[g']? = y7.heap[g']? := fun g' h1 h2 => hg9.block g' h1 (fun e => h2 e.symm)
          have hv9 : ∀ g', g' < y7.heap.size → u8.ownBlock ≠ some g' → v9.ownBlock ≠ some g' := fun g' h1 h2 => by
            rcases hb9 with e | e
            · rw [e]; exact h2
            · rw [e]; intro h; injection h with h; omega
          refine ⟨⟨k + 1, Z ++ [((b.1, b.2.1, xs.map (·.2)), .slice AL zl cL)], hlk, by go_num, (HH.out.1.trans (hb67.mono HH.out.1.size)).grown hg9 (by have := HH.out.1.size; omega) (fun j hj => by have := HH.out.2.1.lt j hj; omega), ?_, ?_, fun p hp => ?_⟩, by simp [intOf]; omega⟩
          · have e1 : (Z ++ [(((b.1, b.2.1, xs.map (·.2)), .slice AL zl cL) : MB × Value)]).length = Z.length + 1 := by simp
            have e2 : (Z ++ [(((b.1, b.2.1, xs.map (·.2)), .slice AL zl cL) : MB × Value)]).flatMap bkC = Z.flatMap bkC ++ [.int .i64 b.1, .string KD, .slice AL zl cL] := by
              rw [List.flatMap_append, ← HH.out.2.2.2.2.2.2]
              rfl
            rw [e1, e2]
            exact ho9
          · rw [rsK_succ, List.map_append, HH.out.2.2.1]
            have e : rsB l k = some (b.1, b.2.1, xs.map (·.2)) := by
              unfold rsB
              rw [HB.out.1, Option.bind_some, if_pos H5.out.2.1, flC_eq ⟨xs, hfull, hsrt, rfl⟩]
            rw [e]
            rfl
          · rcases List.mem_append.1 hp with hp | hp
            · obtain ⟨h1, h2⟩ := HH.out.2.2.2.1 p hp
              refine ⟨rowF_kept (h1.below hb67) fun g' hg' => hkeep g' (by have := (h2 g' hg').1.2; omega) (h2 g' hg').2, fun g' hg' => ⟨⟨(h2 g' hg').1.1, by have := (h2 g' hg').1.2; omega⟩, hv9 g' (by have := (h2 g' hg').1.2; omega) (h2 g' hg').2⟩⟩
            · rw [List.mem_singleton.1 hp]
              refine ⟨rowF_kept (hrowN.below hb7) fun g' hg' => hkeep g' (by have := (hobN g' hg').2; omega) (hlb g' (.inr (hobN g' hg').1)), fun g' hg' => ⟨⟨by have := (hobN g' hg').1; omega, by have := (hobN g' hg').2; omega⟩, hv9 g' (by have := (hobN g' hg').2; omega) (hlb g' (.inr (hobN g' hg').1))⟩⟩
      · obtain rfl : k = n := by omega
        have hgw := (hbel.block g (by omega)).trans ((HN.out.2.2.2.1.block g (blk9_lt HW.out.2.1)).trans HW.out.2.1)
        have y0 := cell9_blk hgw 0 rfl
        have y1 := cell9_blk hgw 1 rfl
        have f0 := frz9_blk hgw 0
        have f1 := frz9_blk hgw 1
        obtain ⟨A9, c9, rfl, hc1, hc2, _, hr9, hA9⟩ := owns_formk hown
        have HF := Lib.hid (And.intro hgw (And.intro hbelw (And.intro hZ (And.intro hrows (And.intro hc1 (And.intro hc2 (And.intro hr9 hA9)))))))
        clear hgw hbelw hZ hrows hc1 hc2 hr9 hA9 hown hbel
        go_wp2_with fail
        refine bodyPost_ret (results_tct rfl _ _ g _ #[.int .i64 0, .int .i64 0] (0, 0) _ rfl (set2P HF.out.1) Tryz.underlying29 rfl (by kernel_rfl)) rfl ?_
        refine ⟨?_, (HF.out.2.1.setCell (p := ⟨g, 0, none⟩) (by show _ ≤ g; omega) _).setCell (p := ⟨g, 1, none⟩) (by show _ ≤ g; omega) _⟩
        unfold RsE
        rw [HN.out.2.2.2.2.2]
        have hlz : Z.length = (rsK l l.length).length := by rw [hn, ← HF.out.2.2.1, List.length_map]
        refine ⟨_, rfl, A9, c9, Z, by rw [HF.out.2.2.1, hn], by rw [← hlz]; rfl, by rw [← hlz]; exact HF.out.2.2.2.2.1, HF.out.2.2.2.2.2.1, ?_, fun p hp => ?_⟩
        · refine HF.out.2.2.2.2.2.2.1.keep fun p hp _ => ?_
          have := (HF.out.2.2.2.2.2.2.2 p hp.symm).1
          exact set2_other (by omega)
        · obtain ⟨h1, h2⟩ := HF.out.2.2.2.1 p hp
          refine rowF_kept h1 fun g' hg' => ?_
          have := (h2 g' hg').1.1
          exact set2_other (by omega)
end Go.Proofs.YthnogakjaaopkaaGreatDoor
/- Contract: Value. -/
namespace Go.Proofs.YthnogakjaaopkaaGreatDoor
open Go.RowKit

/-- What Value answers. -/
def VlE (l : List MB) (i : Int) (nm : Tx) (e : Ending) : Prop := match chkI l with
  | some q => e = .returned (.tuple #[.string .empty, .bool false, errK (q.2 : Nat)])
  | none => if 0 ≤ i ∧ i < l.length then e = .returned (.tuple #[.string (str (valF (gotP l nm i.toNat))), .bool (gotP l nm i.toNat).isSome, .nilIface]) else e = .returned (.tuple #[.string .empty, .bool false, errK 5])
set_option maxRecDepth 100000 in
set_option maxHeartbeats 2000000 in
theorem value_any (lv : Value) (l : List MB) (i : Int) (nm : Tx) (w : World) (hs : Szs l) (hE : ErrT w) (hv : RowB w lv l) (hi1 : -9223372036854775808 ≤ i) (hi2 : i ≤ 9223372036854775807) (hnm : nm.length ≤ 1000000) :
    Calls Tryz.prog 16 #[lv, .int .i64 i, .string (str nm)] w fun e w' => VlE l i nm e ∧ Below w.heap.size w w' := by
  obtain ⟨A, c, rfl, hr⟩ := hv.form
  obtain ⟨n, hn⟩ : ∃ n, l.length = n := ⟨_, rfl⟩
  have hl9 : n ≤ 1000000 := by rw [← hn]; exact hs.1
  have hLa := lookAt_any (.slice A l.length c) l w hs hE hv
  rw [hn] at hLa hv ⊢
  have HLa := Lib.hid hLa
  obtain ⟨NM, hNM⟩ : ∃ x, str nm = x := ⟨_, rfl⟩
  rw [hNM]
  have HNM := Lib.hid (And.intro hNM hnm)
  clear hLa hs hE hv hr hNM hnm
  go_enter Tryz.func16, Tryz.ntmps16
  go_wp2_with fail
  with_reducible refine HLa.out.mono ?_
  rintro e V ⟨hLa, hbV⟩
  unfold LaE at hLa
  obtain ⟨m, hm⟩ : ∃ x, V.heap.size = x := ⟨_, rfl⟩
  obtain ⟨V1, hV1⟩ : ∃ x, V.alloc (.cells #[.int .i64 0, .int .i64 0] 29) = x := ⟨_, rfl⟩
  have hb2 : Below V.heap.size V V1 := by rw [← hV1]; exact (Below.refl _ _).alloc (Nat.le_refl _) _
  have hm1 := (MapKept.heap_alloc V (.cells #[.int .i64 0, .int .i64 0] 29)).1
  rw [hV1, hm] at hm1
  have v0 := cell9_blk hm1 0 rfl
  have v1 := cell9_blk hm1 1 rfl
  have v2 := frz9_blk hm1 0
  have v3 := frz9_blk hm1 1
  cases hc : chkI l with
  | some q =>
    rw [hc] at hLa
    dsimp only at hLa
    subst hLa
    obtain ⟨q1, hq1⟩ : ∃ x, q.1 = x := ⟨_, rfl⟩
    obtain ⟨q2, hq2⟩ : ∃ x, ((q.2 : Nat) : Int) = x := ⟨_, rfl⟩
    rw [hq1, hq2]
    have hb3 : Below V.heap.size V ((V1.setCell ⟨m, 0, none⟩ (.int .i64 q1)).setCell ⟨m, 1, none⟩ (.int .i64 q2)) := (hb2.setCell (by show _ ≤ m; omega) _).setCell (by show _ ≤ m; omega) _
    have H1 := Lib.hid (And.intro (hbV.trans (hb3.mono hbV.size)) (And.intro hc hq2))
    clear hb2 hc hq2 hm1 hb3 hbV
    unfold plV errK
    go_wp2_with fail
    refine bodyPost_ret (results_tmp3 rfl _ _ _) rfl ?_
    refine ⟨?_, H1.out.1⟩
    unfold VlE
    rw [H1.out.2.1]
    dsimp only
    unfold errK
    rw [H1.out.2.2]
    rfl
  | none =>
    rw [hc] at hLa
    obtain ⟨ps, x1, x2, x3, tt, Zt, rfl, hS, hT⟩ := hLa
    have hcn := chk_none hc
    unfold setC at hS
    rw [hn] at hS hT
    have hb3 : Below V.heap.size V ((V1.setCell ⟨m, 0, none⟩ (.int .i64 0)).setCell ⟨m, 1, none⟩ (.int .i64 0)) := (hb2.setCell (by show _ ≤ m; omega) _).setCell (by show _ ≤ m; omega) _
    obtain ⟨W2, hW2⟩ : ∃ x, (V1.setCell ⟨m, 0, none⟩ (.int .i64 0)).setCell ⟨m, 1, none⟩ (.int .i64 0) = x := ⟨_, rfl⟩
    rw [hW2] at hb3
    have hS2 := (hb3.block ps (blk9_lt hS)).trans hS
    have hT2 := hT.below hb3
    have HN := Lib.hid (And.intro hcn (And.intro hS2 (And.intro hT2 (And.intro (hbV.trans (hb3.mono hbV.size)) hc))))
    have HW2 := Lib.hid hW2
    have c4 := cell9_blk hS2 4 rfl
    clear hcn hS hT hbV hb2 hb3 hm1 hc hS2 hT2
    by_cases h1 : i < 0
    · unfold plV
      go_wp2_with fail
      refine bodyPost_ret (results_tmp3 rfl _ _ _) rfl ?_
      refine ⟨?_, HN.out.2.2.2.1⟩
      unfold VlE
      rw [HN.out.2.2.2.2]
      dsimp only
      rw [if_neg (by omega)]
      rfl
    · obtain ⟨k, rfl⟩ : ∃ k : Nat, i = k := ⟨i.toNat, by omega⟩
      by_cases h2 : k < n
      · have hkl : k < l.length := by omega
        obtain ⟨bk, hzk, hTk⟩ := HN.out.2.2.1.2.2 k h2
        have ck := cell9_blk HN.out.2.2.1.1 k (by rw [List.getElem?_toArray]; exact hzk)
        have hlook := hTk.look HNM.out.2
        rw [HNM.out.1] at hlook
        have hvf : valF (gotP l nm k) = ((gotP l nm k).getD zF0).2.2 := by cases gotP l nm k <;> rfl
        obtain ⟨f, hf⟩ : ∃ f, (gotP l nm k).getD zF0 = f := ⟨_, rfl⟩
        rw [hf] at hlook hvf
        unfold fV at hlook
        obtain ⟨N1, hN1⟩ : ∃ x, str f.2.1 = x := ⟨_, rfl⟩
        obtain ⟨N2, hN2⟩ : ∃ x, str f.2.2 = x := ⟨_, rfl⟩
        obtain ⟨sb, hsb⟩ : ∃ x, (gotP l nm k).isSome = x := ⟨_, rfl⟩
        rw [hN1, hN2, hsb] at hlook
        have HF := Lib.hid (And.intro hvf (And.intro hN2 hsb))
        have r0 : (0 : Int) ≤ k := by omega
        have r1 : (k : Int) < n := by omega
        clear hvf hf hN1 hN2 hsb hTk hzk
        unfold plV
        go_wp2_with fail
        refine bodyPost_ret (results_tmp3 rfl _ _ _) rfl ?_
        refine ⟨?_, HN.out.2.2.2.1.alloc HN.out.2.2.2.1.size _⟩
        unfold VlE
        rw [HN.out.2.2.2.2]
        dsimp only
        rw [if_pos (by omega), Int.toNat_natCast, HF.out.1, HF.out.2.1, HF.out.2.2]
        rfl
      · have h3 : ((k : Nat) : Int) ≥ n := by omega
        unfold plV
        go_wp2_with fail
        refine bodyPost_ret (results_tmp3 rfl _ _ _) rfl ?_
        refine ⟨?_, HN.out.2.2.2.1⟩
        unfold VlE
        rw [HN.out.2.2.2.2]
        dsimp only
        rw [if_neg (by omega)]
        rfl
end Go.Proofs.YthnogakjaaopkaaGreatDoor

/- Contract: the reader reads a field's line. -/
import Derived.Test.YtbeehedppofpnaaGreatDoorBkD
namespace Go.Proofs.YtbeehedppofpnaaGreatDoor
open Go.RowKit Go.Maps

/-- A field's line: the error's number; the block with it. -/
def stF (b : Bk) (p : Nat × Tx) : Nat × Bk :=
  if fst9 p.2 = defineT ∧ snd9 p.2 ≠ [] then (3, b)
  else if wordT (fst9 p.2) = false then (11, b)
  else if hasN b (fst9 p.2) = true then (7, b)
  else if 64 ≤ b.2.2.length then (10, b)
  else (0, (b.1, b.2.1, b.2.2 ++ [(p.1, fst9 p.2, trim (snd9 p.2))]))
theorem add_at0 (gb k : Nat) : (⟨gb, 0, none⟩ : Addr).add k = ⟨gb, k, none⟩ := by
  unfold Addr.add
  split
  · subst_vars; rfl
  · simp
theorem bkcat_set (Z : List (MB × Value)) (b b' : MB) (v v' : Value) (h1 : b'.1 = b.1) (h2 : b'.2.1 = b.2.1) :
    ((Z ++ [(b, v)]).flatMap bkC).set (Z.length * 3 + 2) v' = (Z ++ [(b', v')]).flatMap bkC := by
  rw [bkcat_snoc, bkcat_snoc, List.set_append, if_neg (by rw [bkcat_len]; omega), bkcat_len]
  have e : Z.length * 3 + 2 - Z.length * 3 = 2 := by omega
  rw [e]
  unfold bkC
  simp [h1, h2]
theorem bkcat_last (Z : List (MB × Value)) (p : MB × Value) (j : Nat) (hj : j < 3) : ((Z ++ [p]).flatMap bkC)[Z.length * 3 + j]? = (bkC p)[j]? := by
  rw [bkcat_snoc, List.getElem?_append_right (by rw [bkcat_len]; omega), bkcat_len]
  have e : Z.length * 3 + j - Z.length * 3 = j := by omega
  rw [e]
theorem nmis_map {w : World} {mb : Nat} {L : List Tx} (h : NmIs w mb L) : ∃ es c, w.heap[mb]? = some (Obj.map es c) := by
  obtain ⟨V, ⟨es, clock, h1, _⟩, _⟩ := h
  exact ⟨es, clock, h1⟩
/-- What stands apart from the map of names. -/
theorem In9.mapped {w w2 : World} {base g mb B : Nat} {out : List Bk} {b : Bk} {v vF : Value} {Z : List (MB × Value)} {L : List Tx} (h : In9 w base g out b v vF mb B Z) (hg : w.grownBy w2 (some mb)) :
    w2.heap[g]? = some (.cells #[v, .bool true, .map (some mb)] 55 (0, 0)) ∧ w2.ownsRow base 46 3 v (Z.length + 1) ((Z ++ [(iB b, vF)]).flatMap bkC) ∧ (∀ p ∈ Z, HeldF w2 base B 48 p.2 p.1.2.2) ∧ w2.ownsRow B 48 3 vF b.2.2.length ((b.2.2.map iF).flatMap fdC) ∧ Kp9 base w w2 := by
  obtain ⟨es, c, hm⟩ := nmis_map h.names
  have hk : ∀ (k : Nat) (cs : Array Value) (e : TypeId) (fr : Nat × Nat), w.heap[k]? = some (Obj.cells cs e fr) → w2.heap[k]? = w.heap[k]? := by
    intro k cs e fr h0
    refine hg.block k (blk_lt h0) fun e1 => ?_
    injection e1 with e1
    subst e1
    rw [hm] at h0
    cases h0
  refine ⟨(hk g _ _ _ h.cell).trans h.cell, own_block h.own fun i hi => ?_, fun p hp => (h.rows p hp).keep (Nat.le_refl _) (Nat.le_refl _) fun b cs fr _ _ h0 => hk b cs _ fr h0, own_block h.last fun i hi => ?_, ⟨?_, fun k cs e fr h0 _ _ _ => (hk k cs e fr h0).trans h0⟩⟩
  · obtain ⟨cs, fr, h0⟩ := own_typed h.own i hi
    exact hk i cs _ fr h0
  · obtain ⟨cs, fr, h0⟩ := own_typed h.last i hi
    exact hk i cs _ fr h0
  · exact (Below.refl base w).grown hg (by have := h.low.2; omega) fun k hk => by injection hk with hk; subst hk; exact h.low.2.2.2
theorem field_end {w1 w2 w3 : World} {base g mb B gb cap n cF capF gF at_ : Nat} {out : List Bk} {b : Bk} {vF : Value} {Z : List (MB × Value)} {k x : Tx} {o : Obj} {S X : ByteArray} (hS : str k = S) (hX : str x = X)
    (h : In9 w1 base g out b (.slice (some ⟨gb, 0, none⟩) (n + 1) cap) vF mb B Z) (hn : Z.length = n) (hcF : b.2.2.length = cF) (hg : w1.grownBy w2 (some mb)) (hnm : NmIs w2 mb (b.2.2.map (·.2.1) ++ [k]))
    (hown : w3.ownsRow B 48 3 (.slice (some ⟨gF, 0, none⟩) (cF + 1) capF) (cF + 1) ((b.2.2.map iF).flatMap fdC ++ [.int .i64 (at_ : Int), .string S, .string X])) (hg3 : (w2.alloc o).drew.grownBy w3 vF.ownBlock) :
    (w3.cell? ⟨gb, n * 3 + 2, none⟩ = some vF ∧ w3.frozen? ⟨gb, n * 3 + 2, none⟩ = false) ∧
      (Kp9 base w1 (w3.setCell ⟨gb, n * 3 + 2, none⟩ (.slice (some ⟨gF, 0, none⟩) (cF + 1) capF)) ∧ Rd9 (w3.setCell ⟨gb, n * 3 + 2, none⟩ (.slice (some ⟨gF, 0, none⟩) (cF + 1) capF)) base g out (some (b.1, b.2.1, b.2.2 ++ [(at_, k, x)]))) := by
  subst hS hX hn hcF
  have hg' : (w2.alloc o).grownBy w3 vF.ownBlock := ⟨hg3.os, hg3.tape, hg3.output, hg3.size, hg3.block⟩
  obtain ⟨m1, m2, m3, m4, m5⟩ := h.mapped (L := b.2.2.map (·.2.1)) hg
  have hal : ∀ i x, w2.heap[i]? = some x → (w2.alloc o).heap[i]? = some x := fun i x hx => (Below.heap_alloc w2 o i (blk_lt hx)).trans hx
  have hFty : ∀ i, vF.ownBlock = some i → B ≤ i ∧ ∃ cs fr, (w2.alloc o).heap[i]? = some (Obj.cells cs 48 fr) := fun i hi => by
    obtain ⟨cs, fr, h0⟩ := own_typed m4 i hi
    exact ⟨(m4.lt i hi).1, cs, fr, hal i _ h0⟩
  have hk3 : ∀ (i : Nat) (cs : Array Value) (e : TypeId) (fr : Nat × Nat), w2.heap[i]? = some (Obj.cells cs e fr) → (e ≠ 48 ∨ i < B) → w3.heap[i]? = w2.heap[i]? := by
    intro i cs e fr h0 he
    have h1 := hal i _ h0
    refine (hg'.block i (blk_lt h1) fun e1 => ?_).trans (h1.trans h0.symm)
    obtain ⟨h2, cs', fr', h3⟩ := hFty i e1.symm
    rcases he with he | he
    · rw [h1] at h3
      injection h3 with h3
      injection h3 with _ h3
      exact he h3
    · omega
  have o3 : w3.ownsRow base 46 3 (.slice (some ⟨gb, 0, none⟩) (Z.length + 1) cap) (Z.length + 1) ((Z ++ [(iB b, vF)]).flatMap bkC) := own_block m2 fun i hi => by
    obtain ⟨cs, fr, h0⟩ := own_typed m2 i hi
    exact hk3 i cs _ fr h0 (.inl (by decide))
  have r3 : ∀ p ∈ Z, HeldF w3 base B 48 p.2 p.1.2.2 := fun p hp => (m3 p hp).keep (Nat.le_refl _) (Nat.le_refl _) fun b cs fr _ h2 h0 => hk3 b cs _ fr h0 (.inr h2)
  have g3 : w3.heap[g]? = some (.cells #[.slice (some ⟨gb, 0, none⟩) (Z.length + 1) cap, .bool true, .map (some mb)] 55 (0, 0)) := (hk3 g _ _ _ m1 (.inl (by decide))).trans m1
  have hsz3 : w2.heap.size ≤ w3.heap.size := by have := hg'.size; rw [World.size_alloc] at this; omega
  have hmlt := hnm.lt
  obtain ⟨es, cc, hmap⟩ := nmis_map hnm
  have n3 : NmIs w3 mb (b.2.2.map (·.2.1) ++ [k]) := hnm.block ((hg'.block mb (by rw [World.size_alloc]; omega) fun e1 => by
    obtain ⟨_, cs', fr', h3⟩ := hFty mb e1.symm
    rw [hal mb _ hmap] at h3
    injection h3 with h3
    cases h3).trans (Below.heap_alloc w2 o mb hmlt))
  obtain ⟨csb, frb, hgb⟩ := own_typed o3 gb rfl
  have hst := o3.stored (Z.length * 3 + 2) (.slice (some ⟨gF, 0, none⟩) (b.2.2.length + 1) capF)
  rw [bkcat_set Z (iB b) (iB (b.1, b.2.1, b.2.2 ++ [(at_, k, x)])) vF _ rfl rfl] at hst
  have hother : ∀ (i : Nat) (cs : Array Value) (e : TypeId) (fr : Nat × Nat), w3.heap[i]? = some (Obj.cells cs e fr) → e ≠ 46 → (w3.setCell ⟨gb, Z.length * 3 + 2, none⟩ (.slice (some ⟨gF, 0, none⟩) (b.2.2.length + 1) capF)).heap[i]? = w3.heap[i]? := by
    intro i cs e fr h0 he
    refine heap_setCell_other _ _ i _ ?_
    rintro rfl
    rw [hgb] at h0
    injection h0 with h0
    injection h0 with _ h0
    exact he h0.symm
  have hgbl : base ≤ gb := (o3.lt gb rfl).1
  have hB2 : B ≤ w2.heap.size := Nat.le_trans h.low.2.2.1 hg.size
  refine ⟨⟨(o3.cellAt (Z.length * 3 + 2) (by omega)).trans (bkcat_last Z _ 2 (by omega)), o3.frozenAt _⟩, ?_, ?_⟩
  · have hK3 : Kp9 base w1 w3 := by
      refine (m5.alloc (by have := h.low.2; omega) o).grown hg' (by rw [World.size_alloc]; have := h.low.2; omega) fun i hi => ⟨?_, fun cs e fr h0 => ?_⟩
      · have := (hFty i hi).1
        have := h.low.2.1
        omega
      · obtain ⟨_, cs', fr', h3⟩ := hFty i hi
        rw [h0] at h3
        injection h3 with h3
        injection h3 with _ h3
        exact .inr (.inl h3)
    exact hK3.set (a := ⟨gb, Z.length * 3 + 2, none⟩) hgb hgbl (.inl rfl) _
  · refine ⟨.slice (some ⟨gb, 0, none⟩) (Z.length + 1) cap, .slice (some ⟨gF, 0, none⟩) (b.2.2.length + 1) capF, mb, B, Z, ?_⟩
    have hsz4 : (w3.setCell ⟨gb, Z.length * 3 + 2, none⟩ (.slice (some ⟨gF, 0, none⟩) (b.2.2.length + 1) capF)).heap.size = w3.heap.size := by simp [World.setCell]
    exact
      { low := ⟨h.low.1, h.low.2.1, by omega, h.low.2.2.2⟩
        cell := (hother g _ _ _ g3 (by decide)).trans g3
        same := h.same
        own := hst.1
        rows := fun p hp => (r3 p hp).keep (Nat.le_refl _) (Nat.le_refl _) fun b cs fr _ _ h0 => hother b cs _ fr h0 (by decide)
        last := by
          have e1 : ((b.2.2 ++ [(at_, k, x)]).map iF).flatMap fdC = (b.2.2.map iF).flatMap fdC ++ [.int .i64 (at_ : Int), .string (str k), .string (str x)] := by
            rw [List.map_append, List.flatMap_append]
            rfl
          have e2 : (b.2.2 ++ [(at_, k, x)]).length = b.2.2.length + 1 := by simp
          simp only [e1, e2]
          exact own_block hown fun i hi => by
            obtain ⟨cs, fr, h0⟩ := own_typed hown i hi
            exact hother i cs _ fr h0 (by decide)
        names := by
          have e1 : (b.2.2 ++ [(at_, k, x)]).map (·.2.1) = b.2.2.map (·.2.1) ++ [k] := by simp
          simp only [e1]
          obtain ⟨es3, cc3, hmap3⟩ := nmis_map n3
          refine n3.block (heap_setCell_other _ _ _ _ ?_)
          rintro rfl
          rw [hgb] at hmap3
          injection hmap3 with hmap3
          cases hmap3 }
end Go.Proofs.YtbeehedppofpnaaGreatDoor

/- Layer 15: Set: full; a new event. -/
import Derived.Test.YtkihfafkglkjnaaDoorQuPs
namespace Go.Proofs.YtkihfafkglkjnaaDoor
open Go.RowKit

set_option maxRecDepth 100000 in
set_option maxHeartbeats 4000000 in
/-- Set: no room. -/
theorem setFull_any (q g : Nat) (v : Value) (n : Int) (H : List Ev) (e : Ev) (w : World) (h : QuI w q g v n H) (hh : HeapE H) (hbad : badE15 e = false) (h64 : In64 e.2.1 ∧ In64 e.2.2) (hj : PosE H e.2 = none) (hroom : (H.length : Int) = n) (hn : n ≤ 65536) :
    Calls Tryd.prog 9 #[.pointer (some ⟨q, 0, none⟩), evV e] w fun x w' => x = .returned (errE 10) ∧ Below w.heap.size w w' := by
  obtain ⟨a1, a2, a3⟩ := e
  dsimp only at h64 hj
  obtain ⟨s, hs⟩ : ∃ s, w.heap.size = s := ⟨_, rfl⟩
  obtain ⟨w1, hw1⟩ : ∃ W, w.alloc (.cells #[.int .i64 a1, .int .i64 a2, .int .i64 a3] 38) = W := ⟨_, rfl⟩
  have hb1 : Below w.heap.size w w1 := by rw [← hw1]; exact (Below.refl _ _).alloc (Nat.le_refl _) _
  have hg1 : w1.heap[s]? = some (.cells #[.int .i64 a1, .int .i64 a2, .int .i64 a3] 38 (0, 0)) := by rw [← hw1, ← hs]; exact heap_alloc_new w _
  have hE := isEvent3_any a1 a2 a3 w1
  rw [hbad] at hE
  have HE := Lib.hid (hE : Calls Tryd.prog 22 #[.agg #[.int .i64 a1, .int .i64 a2, .int .i64 a3]] w1 fun x w' => x = .returned (.bool true) ∧ Below w1.heap.size w1 w')
  obtain ⟨A, c, rfl, hc, _⟩ := h.form
  have hfp := h.fp
  have hsq : s ≠ q := fun e => by have := hfp q (.inl rfl); omega
  have hsg : s ≠ g := fun e => by have := hfp g (.inr (.inl rfl)); omega
  have hlen := h.len
  obtain ⟨m, hm⟩ : ∃ m, H.length = m := ⟨_, rfl⟩
  have hre : ReS w1 q g (.slice A H.length c) n s (a1, a2, a3) := (h.bl hb1).res hg1
  rw [hm] at hre hlen hc hroom
  have HX := Lib.hid (And.intro h (And.intro hh (And.intro h64 (And.intro hj hm))))
  have HW := Lib.hid (And.intro hb1 (And.intro hg1 hs))
  have HD := Lib.hid (And.intro hsq (And.intro hsq.symm hsg))
  have HRe := Lib.hid hre
  unfold evV
  dsimp only
  try rw [hm]
  clear h hh hbad h64 hj hm hb1 hg1 hE hsq hsg hfp hre
  go_enter Tryd.func9, Tryd.ntmps9
  obtain ⟨-, -, -, d0, d1, d2⟩ := HRe.out
  dsimp only at d0 d1 d2
  go_upto_region 3 with (first | (with_reducible refine HE.out.mono ?_; rintro e w2 ⟨rfl, hb2⟩))
  have hI2 := (HX.out.1.bl HW.out.1).bl hb2
  have hg2 : w2.heap[s]? = some (.cells #[.int .i64 a1, .int .i64 a2, .int .i64 a3] 38 (0, 0)) := (hb2.block s (blk9_lt HW.out.2.1)).trans HW.out.2.1
  have HKO := Lib.hid (fun W => keyOf3_any a1 a2 a3 W)
  have HLk : Hid (∀ V, Below w2.heap.size w2 V → (Instr.lookup 54 (.map (some g)) (.agg #[.int .i64 a2, .int .i64 a3]) true).run Tryd.prog V = .ok (.tuple #[.int .i64 0, .bool false]) V) := Lib.hid (fun V hV => by
    have h1 := (hI2.map.bl hV).look2 HX.out.2.2.1.1 HX.out.2.2.1.2
    rw [HX.out.2.2.2.1] at h1
    exact h1)
  have HRb : Hid (∀ V V', ReS V q g (.slice A m c) n s (a1, a2, a3) → Below V.heap.size V V' → ReS V' q g (.slice A m c) n s (a1, a2, a3)) := Lib.hid (fun V V' h hb => h.bl hb)
  have HRd := Lib.hid ((HRe.out.bl hb2).bl (Gw.refl w2).drew.below)
  have H2 := Lib.hid (And.intro hI2 (And.intro hg2 (HW.out.1.trans (hb2.mono HW.out.1.size))))
  unfold ReS at HRb HRd
  dsimp only at HRb HRd
  clear d0 d1 d2 hI2 hg2 hb2 hw1
  go_region_held3 (fun V => V.cell? ⟨q, 0, none⟩ = some (.int .i64 n) ∧ V.cell? ⟨q, 1, none⟩ = some (.slice A m c) ∧ V.cell? ⟨q, 2, none⟩ = some (.map (some g)) ∧ V.cell? ⟨s, 0, none⟩ = some (.int .i64 a1) ∧ V.cell? ⟨s, 1, none⟩ = some (.int .i64 a2) ∧ V.cell? ⟨s, 2, none⟩ = some (.int .i64 a3))
    (first | exact HRd.out | assumption | exact HRb.out _ _ (by assumption) (by assumption))
    (first | (with_reducible refine (HKO.out _).mono ?_; rintro e wa ⟨rfl, hba⟩; have hlk3 := HLk.out wa ((Gw.refl w2).drew.below.trans (hba.mono (Gw.refl w2).drew.below.size))))
  have hb2a : Below w2.heap.size w2 wa := (Gw.refl w2).drew.below.trans (hba.mono (Gw.refl w2).drew.below.size)
  have hwa := H2.out.2.2.trans (hb2a.mono H2.out.2.2.size)
  have hga := (hb2a.block s (blk9_lt H2.out.2.1)).trans H2.out.2.1
  have hrea : ReS wa q g (.slice A m c) n s (a1, a2, a3) := by
    have h1 := (H2.out.1.bl hb2a).res (e := (a1, a2, a3)) hga
    rw [HX.out.2.2.2.2] at h1
    exact h1
  have HRd2 := Lib.hid (hrea.bl (Gw.refl wa).drew.below)
  unfold ReS at HRd2
  dsimp only at HRd2
  have HA := Lib.hid (And.intro (H2.out.1.bl hb2a) (And.intro hga hwa))
  clear hba hlk3 hb2a hwa hga hrea
  have hr2 : (m : Int) = n := hroom
  go_wp2_with fail
  go_region_held3 (fun V => V.cell? ⟨q, 0, none⟩ = some (.int .i64 n) ∧ V.cell? ⟨q, 1, none⟩ = some (.slice A m c) ∧ V.cell? ⟨q, 2, none⟩ = some (.map (some g)) ∧ V.cell? ⟨s, 0, none⟩ = some (.int .i64 a1) ∧ V.cell? ⟨s, 1, none⟩ = some (.int .i64 a2) ∧ V.cell? ⟨s, 2, none⟩ = some (.int .i64 a3))
    (first | exact HRd2.out | assumption) (fail)
  go_wp2_with fail
  go_ret
  exact ⟨rfl, HA.out.2.2.trans ((Gw.refl wa).drew.below.mono HA.out.2.2.size)⟩
set_option maxRecDepth 100000 in
set_option maxHeartbeats 4000000 in
/-- Set: a new event. -/
theorem setAdd_any (q g : Nat) (v : Value) (n : Int) (H : List Ev) (e : Ev) (w : World) (h : QuI w q g v n H) (hh : HeapE H) (hbad : badE15 e = false) (h64 : In64 e.2.1 ∧ In64 e.2.2) (hj : PosE H e.2 = none) (hroom : (H.length : Int) < n) (hn : n ≤ 65536) :
    Calls Tryd.prog 9 #[.pointer (some ⟨q, 0, none⟩), evV e] w fun x w' => x = .returned .nilIface ∧ ∃ v' H', QuI w' q g v' n H' ∧ H'.Perm (H ++ [e]) ∧ HeapE H' ∧ TuF (FqB q g v) (FqB q g v') w w' := by
  obtain ⟨a1, a2, a3⟩ := e
  dsimp only at h64 hj
  obtain ⟨s, hs⟩ : ∃ s, w.heap.size = s := ⟨_, rfl⟩
  obtain ⟨w1, hw1⟩ : ∃ W, w.alloc (.cells #[.int .i64 a1, .int .i64 a2, .int .i64 a3] 38) = W := ⟨_, rfl⟩
  have hb1 : Below w.heap.size w w1 := by rw [← hw1]; exact (Below.refl _ _).alloc (Nat.le_refl _) _
  have hg1 : w1.heap[s]? = some (.cells #[.int .i64 a1, .int .i64 a2, .int .i64 a3] 38 (0, 0)) := by rw [← hw1, ← hs]; exact heap_alloc_new w _
  have hE := isEvent3_any a1 a2 a3 w1
  rw [hbad] at hE
  have HE := Lib.hid (hE : Calls Tryd.prog 22 #[.agg #[.int .i64 a1, .int .i64 a2, .int .i64 a3]] w1 fun x w' => x = .returned (.bool true) ∧ Below w1.heap.size w1 w')
  obtain ⟨A, c, rfl, hc, _⟩ := h.form
  have hfp := h.fp
  have hsq : s ≠ q := fun e => by have := hfp q (.inl rfl); omega
  have hsg : s ≠ g := fun e => by have := hfp g (.inr (.inl rfl)); omega
  have hlen := h.len
  obtain ⟨m, hm⟩ : ∃ m, H.length = m := ⟨_, rfl⟩
  have hre : ReS w1 q g (.slice A H.length c) n s (a1, a2, a3) := (h.bl hb1).res hg1
  rw [hm] at hre hlen hc hroom
  have HX := Lib.hid (And.intro h (And.intro hh (And.intro h64 (And.intro hj hm))))
  have HW := Lib.hid (And.intro hb1 (And.intro hg1 hs))
  have HD := Lib.hid (And.intro hsq (And.intro hsq.symm hsg))
  have HRe := Lib.hid hre
  unfold evV
  dsimp only
  try rw [hm]
  clear h hh hbad h64 hj hm hb1 hg1 hE hsq hsg hfp hre
  go_enter Tryd.func9, Tryd.ntmps9
  obtain ⟨-, -, -, d0, d1, d2⟩ := HRe.out
  dsimp only at d0 d1 d2
  go_upto_region 3 with (first | (with_reducible refine HE.out.mono ?_; rintro e w2 ⟨rfl, hb2⟩))
  have hI2 := (HX.out.1.bl HW.out.1).bl hb2
  have hg2 : w2.heap[s]? = some (.cells #[.int .i64 a1, .int .i64 a2, .int .i64 a3] 38 (0, 0)) := (hb2.block s (blk9_lt HW.out.2.1)).trans HW.out.2.1
  have HKO := Lib.hid (fun W => keyOf3_any a1 a2 a3 W)
  have HLk : Hid (∀ V, Below w2.heap.size w2 V → (Instr.lookup 54 (.map (some g)) (.agg #[.int .i64 a2, .int .i64 a3]) true).run Tryd.prog V = .ok (.tuple #[.int .i64 0, .bool false]) V) := Lib.hid (fun V hV => by
    have h1 := (hI2.map.bl hV).look2 HX.out.2.2.1.1 HX.out.2.2.1.2
    rw [HX.out.2.2.2.1] at h1
    exact h1)
  have HRb : Hid (∀ V V', ReS V q g (.slice A m c) n s (a1, a2, a3) → Below V.heap.size V V' → ReS V' q g (.slice A m c) n s (a1, a2, a3)) := Lib.hid (fun V V' h hb => h.bl hb)
  have HRd := Lib.hid ((HRe.out.bl hb2).bl (Gw.refl w2).drew.below)
  have H2 := Lib.hid (And.intro hI2 (And.intro hg2 (HW.out.1.trans (hb2.mono HW.out.1.size))))
  unfold ReS at HRb HRd
  dsimp only at HRb HRd
  clear d0 d1 d2 hI2 hg2 hb2 hw1
  go_region_held3 (fun V => V.cell? ⟨q, 0, none⟩ = some (.int .i64 n) ∧ V.cell? ⟨q, 1, none⟩ = some (.slice A m c) ∧ V.cell? ⟨q, 2, none⟩ = some (.map (some g)) ∧ V.cell? ⟨s, 0, none⟩ = some (.int .i64 a1) ∧ V.cell? ⟨s, 1, none⟩ = some (.int .i64 a2) ∧ V.cell? ⟨s, 2, none⟩ = some (.int .i64 a3))
    (first | exact HRd.out | assumption | exact HRb.out _ _ (by assumption) (by assumption))
    (first | (with_reducible refine (HKO.out _).mono ?_; rintro e wa ⟨rfl, hba⟩; have hlk3 := HLk.out wa ((Gw.refl w2).drew.below.trans (hba.mono (Gw.refl w2).drew.below.size))))
  have hb2a : Below w2.heap.size w2 wa := (Gw.refl w2).drew.below.trans (hba.mono (Gw.refl w2).drew.below.size)
  have hwa := H2.out.2.2.trans (hb2a.mono H2.out.2.2.size)
  have hga := (hb2a.block s (blk9_lt H2.out.2.1)).trans H2.out.2.1
  have hrea : ReS wa q g (.slice A m c) n s (a1, a2, a3) := by
    have h1 := (H2.out.1.bl hb2a).res (e := (a1, a2, a3)) hga
    rw [HX.out.2.2.2.2] at h1
    exact h1
  have HRd2 := Lib.hid (hrea.bl (Gw.refl wa).drew.below)
  unfold ReS at HRd2
  dsimp only at HRd2
  have HA := Lib.hid (And.intro (H2.out.1.bl hb2a) (And.intro hga hwa))
  clear hba hlk3 hb2a hwa hga hrea
  have hr2 : ¬ (m : Int) = n := by omega
  go_wp2_with fail
  go_region_held3 (fun V => V.cell? ⟨q, 0, none⟩ = some (.int .i64 n) ∧ V.cell? ⟨q, 1, none⟩ = some (.slice A m c) ∧ V.cell? ⟨q, 2, none⟩ = some (.map (some g)) ∧ V.cell? ⟨s, 0, none⟩ = some (.int .i64 a1) ∧ V.cell? ⟨s, 1, none⟩ = some (.int .i64 a2) ∧ V.cell? ⟨s, 2, none⟩ = some (.int .i64 a3))
    (first | exact HRd2.out | assumption) (fail)
  obtain ⟨w3, hw3⟩ : ∃ W, wa.drew = W := ⟨_, rfl⟩
  rw [hw3]
  have hI3 : QuI w3 q g (.slice A H.length c) n H := by rw [← hw3]; exact HA.out.1.gw (Gw.refl wa).drew
  have hg3 : w3.heap[s]? = some (.cells #[.int .i64 a1, .int .i64 a2, .int .i64 a3] 38 (0, 0)) := by rw [← hw3]; exact HA.out.2.1
  have hb3 : Below w.heap.size w w3 := by rw [← hw3]; exact HA.out.2.2.trans ((Gw.refl wa).drew.below.mono HA.out.2.2.size)
  have hre3 : ReS w3 q g (.slice A m c) n s (a1, a2, a3) := by
    have h1 := hI3.res (e := (a1, a2, a3)) hg3
    rw [HX.out.2.2.2.2] at h1
    exact h1
  obtain ⟨-, c1, -, d0, d1, d2⟩ := hre3
  dsimp only at d0 d1 d2
  have H3 := Lib.hid (And.intro hI3 (And.intro hg3 hb3))
  have hba : Below w3.heap.size w3 (w3.alloc (.cells #[.int .i64 a1, .int .i64 a2, .int .i64 a3] 38)) := (Below.refl _ _).alloc (Nat.le_refl _) _
  have c1a := cell9_below c1 hba
  have hlen3 := HX.out.2.2.2.2
  have hrow3 := hI3.row
  rw [hlen3] at hrow3
  have hbd : Below w3.heap.size w3 (w3.alloc (.cells #[.int .i64 a1, .int .i64 a2, .int .i64 a3] 38)).drew := ⟨hba.os, hba.tape, hba.output, hba.size, hba.block⟩
  have hrowd := own_block9 (w' := (w3.alloc (.cells #[.int .i64 a1, .int .i64 a2, .int .i64 a3] 38)).drew) hrow3 (fun k hk => hbd.block k (hrow3.lt k hk).2)
  have hrd : Rd (w3.alloc (.cells #[.int .i64 a1, .int .i64 a2, .int .i64 a3] 38)).drew (some ⟨w3.heap.size, 0, none⟩) [.int .i64 a1, .int .i64 a2, .int .i64 a3] := Rd.block (show (w3.alloc (.cells #[.int .i64 a1, .int .i64 a2, .int .i64 a3] 38)).heap[w3.heap.size]? = some (.cells #[.int .i64 a1, .int .i64 a2, .int .i64 a3] 38) from heap_alloc_new w3 _)
  have HY := Lib.hid (And.intro hrowd (And.intro hrd hbd))
  have HSS := Lib.hid (show w3.drew.cell? ⟨s, 0, none⟩ = some (.int .i64 a1) ∧ w3.drew.cell? ⟨s, 1, none⟩ = some (.int .i64 a2) ∧ w3.drew.cell? ⟨s, 2, none⟩ = some (.int .i64 a3) from ⟨d0, d1, d2⟩)
  have hsd : (w3.alloc (.cells #[.int .i64 a1, .int .i64 a2, .int .i64 a3] 38)).drew.cell? ⟨s, 0, none⟩ = some (.int .i64 a1) ∧ (w3.alloc (.cells #[.int .i64 a1, .int .i64 a2, .int .i64 a3] 38)).drew.cell? ⟨s, 1, none⟩ = some (.int .i64 a2) ∧ (w3.alloc (.cells #[.int .i64 a1, .int .i64 a2, .int .i64 a3] 38)).drew.cell? ⟨s, 2, none⟩ = some (.int .i64 a3) := ⟨cell9_below d0 hbd, cell9_below d1 hbd, cell9_below d2 hbd⟩
  have HSA := Lib.hid hsd
  have hso : (Value.slice A m c).ownBlock ≠ some s := fun e => by
    have h1 := HX.out.1.fp s (.inr (.inr (by rw [← e, hlen3])))
    have h2 := HW.out.2.2
    omega
  have hqo : (Value.slice A m c).ownBlock ≠ some q := fun e => HX.out.1.d2 (by rw [hlen3]; exact e)
  have hgo : (Value.slice A m c).ownBlock ≠ some g := fun e => HX.out.1.d3 (by rw [hlen3]; exact e)
  have HAp : Hid (∀ V, (w3.alloc (.cells #[.int .i64 a1, .int .i64 a2, .int .i64 a3] 38)).drew.grownBy V (Value.slice A m c).ownBlock → V.cell? ⟨s, 0, none⟩ = some (.int .i64 a1) ∧ V.cell? ⟨s, 1, none⟩ = some (.int .i64 a2) ∧ V.cell? ⟨s, 2, none⟩ = some (.int .i64 a3)) := Lib.hid (fun V hV => by
    have h1 := hV.block s (Nat.lt_of_lt_of_le (blk9_lt hg3) hbd.size) (fun e => hso e.symm)
    exact ⟨(World.cell?_of_block (a := ⟨s, 0, none⟩) h1).trans hsd.1, (World.cell?_of_block (a := ⟨s, 1, none⟩) h1).trans hsd.2.1, (World.cell?_of_block (a := ⟨s, 2, none⟩) h1).trans hsd.2.2⟩)
  have hqb : (w3.alloc (.cells #[.int .i64 a1, .int .i64 a2, .int .i64 a3] 38)).drew.heap[q]? = some (.cells #[.int .i64 n, .slice A m c, .map (some g)] 56 (0, 0)) := by
    have h1 := (hbd.block q (blk9_lt hI3.blk)).trans hI3.blk
    rw [hlen3] at h1
    exact h1
  have HCq : Hid (∀ V, (w3.alloc (.cells #[.int .i64 a1, .int .i64 a2, .int .i64 a3] 38)).drew.grownBy V (Value.slice A m c).ownBlock → V.cell? ⟨q, 1, none⟩ = some (.slice A m c) ∧ V.frozen? ⟨q, 1, none⟩ = false) := Lib.hid (fun V hV => by
    have h1 := (hV.block q (blk9_lt hqb) (fun e => hqo e.symm)).trans hqb
    exact ⟨cell9_blk h1 1 rfl, frz9_blk h1 1⟩)
  have HQO := Lib.hid (And.intro hqo (And.intro hgo hqb))
  have hsz3 : w3.heap.size < (w3.alloc (.cells #[.int .i64 a1, .int .i64 a2, .int .i64 a3] 38)).drew.heap.size := by show w3.heap.size < (w3.alloc _).heap.size; simp
  have HSZ := Lib.hid hsz3
  clear hw3 hI3 hg3 hb3 hba hrow3 hlen3 hbd hrowd hrd hsd hso hqo hgo hqb hsz3
  go_upto_region 5 with fail
  refine wp_region_noPanic ?_
  refine wp_region_held_drew (S := fun V => V.cell? { block := s, off := 0 } = some (.int .i64 a1) ∧ V.cell? { block := s, off := 1 } = some (.int .i64 a2) ∧ V.cell? { block := s, off := 2 } = some (.int .i64 a3)) (by kernel_rfl) HSS.out (fun hHeld => ?_)
  refine' wpAnyH_take (i := 0) (oi := { dst := some 30, op := Go.Op.move (Go.Operand.tmp 0), type := 24, pos := "queue.go:43", after := #[], guard := none }) (v := _) rfl (by kernel_rfl) (by kernel_rfl) (by kernel_rfl) (fun _ _ _ h => h) (Or.inl ⟨by rfl, ?_⟩) (by assumption) ?_
  rotate_left
  · (intro W hSw; go_simp; try with_reducible rfl)
  try simp only [Act.put, List.setIfInBounds_toArray, List.set_cons_zero, List.set_cons_succ]
  refine' wpAnyH_take (i := 1) (oi := { dst := some 31, op := Go.Op.move (Go.Operand.tmp 0), type := 24, pos := "queue.go:43", after := #[], guard := none }) (v := _) rfl (by kernel_rfl) (by kernel_rfl) (by kernel_rfl) (fun _ _ _ h => h) (Or.inl ⟨by rfl, ?_⟩) (by assumption) ?_
  rotate_left
  · (intro W hSw; go_simp; try with_reducible rfl)
  try simp only [Act.put, List.setIfInBounds_toArray, List.set_cons_zero, List.set_cons_succ]
  refine' wpAnyH_take (i := 2) (oi := { dst := some 32, op := Go.Op.nilCheck (Go.Operand.tmp 31), type := 0, pos := "queue.go:43", after := #[{ on := 1, ground := Go.Ground.data }], guard := none }) (v := _) rfl (by kernel_rfl) (by kernel_rfl) (by kernel_rfl) (fun _ _ _ h => h) (Or.inl ⟨by rfl, ?_⟩) (by assumption) ?_
  rotate_left
  · (intro W hSw; go_simp; try with_reducible rfl)
  try simp only [Act.put, List.setIfInBounds_toArray, List.set_cons_zero, List.set_cons_succ]
  refine' wpAnyH_take (i := 3) (oi := { dst := some 33, op := Go.Op.fieldAddr 56 (Go.Operand.tmp 32) 1, type := 0, pos := "queue.go:43", after := #[{ on := 2, ground := Go.Ground.data }], guard := none }) (v := _) rfl (by kernel_rfl) (by kernel_rfl) (by kernel_rfl) (fun _ _ _ h => h) (Or.inl ⟨by rfl, ?_⟩) (by assumption) ?_
  rotate_left
  · (intro W hSw; go_simp; try with_reducible rfl)
  try simp only [Act.put, List.setIfInBounds_toArray, List.set_cons_zero, List.set_cons_succ]
  refine' wpAnyH_take (i := 5) (oi := { dst := some 35, op := Go.Op.load 38 (Go.Operand.tmp 3), type := 38, pos := "queue.go:43", after := #[], guard := none }) (v := _) rfl (by kernel_rfl) (by kernel_rfl) (by kernel_rfl) (fun _ _ _ h => h) (Or.inl ⟨by rfl, ?_⟩) (by assumption) ?_
  rotate_left
  · (intro W hSw; obtain ⟨a0, a1, a2⟩ := hSw; go_simp; try with_reducible rfl)
  try simp only [Act.put, List.setIfInBounds_toArray, List.set_cons_zero, List.set_cons_succ]
  refine wpAnyH_ready (rs := [4, 6]) (by kernel_rfl) (by simp) ?_
  refine AllReadyH.cons (o := { dst := some 34, op := Go.Op.load 48 (Go.Operand.tmp 33), type := 48, pos := "queue.go:43", after := #[{ on := 3, ground := Go.Ground.data }], guard := none }) rfl (fun K hK => ?_) (AllReadyH.cons (o := { dst := some 36, op := Go.Op.buildSlice 48 1 #[(0, Go.Operand.tmp 35)], type := 48, pos := "queue.go:43", after := #[{ on := 5, ground := Go.Ground.data }], guard := none }) rfl (fun K hK => ?_) AllReadyH.nil)
  go_simp
  refine hK.out _ _ (by first | exact hHeld | exact HSA.out) (fun hHeld => ?_)
  clear hK K
  try simp only [Act.put, List.setIfInBounds_toArray, List.set_cons_zero, List.set_cons_succ]
  refine wpAnyH_ready (rs := [6]) (by kernel_rfl) (by simp) ?_
  refine AllReadyH.cons (o := { dst := some 36, op := Go.Op.buildSlice 48 1 #[(0, Go.Operand.tmp 35)], type := 48, pos := "queue.go:43", after := #[{ on := 5, ground := Go.Ground.data }], guard := none }) rfl (fun K hK => ?_) AllReadyH.nil
  go_simp
  refine hK.out _ _ (by first | exact hHeld | exact HSA.out) (fun hHeld => ?_)
  clear hK K
  try simp only [Act.put, List.setIfInBounds_toArray, List.set_cons_zero, List.set_cons_succ]
  rotate_left
  go_simp
  refine hK.out _ _ (by first | exact hHeld | exact HSA.out) (fun hHeld => ?_)
  clear hK K
  try simp only [Act.put, List.setIfInBounds_toArray, List.set_cons_zero, List.set_cons_succ]
  refine wpAnyH_ready (rs := [4]) (by kernel_rfl) (by simp) ?_
  refine AllReadyH.cons (o := { dst := some 34, op := Go.Op.load 48 (Go.Operand.tmp 33), type := 48, pos := "queue.go:43", after := #[{ on := 3, ground := Go.Ground.data }], guard := none }) rfl (fun K hK => ?_) AllReadyH.nil
  go_simp
  refine hK.out _ _ (by first | exact hHeld | exact HSA.out) (fun hHeld => ?_)
  clear hK K
  try simp only [Act.put, List.setIfInBounds_toArray, List.set_cons_zero, List.set_cons_succ]
  all_goals
    refine wpAnyH_ready (rs := [7]) (by kernel_rfl) (by simp) ?_
    refine AllReadyH.cons (o := { dst := some 37, op := Go.Op.call { callee := Go.Callee.builtin Go.Builtin.append, args := #[Go.Operand.tmp 34, Go.Operand.tmp 36], argTypes := #[48, 48] }, type := 48, pos := "queue.go:43", after := #[{ on := 4, ground := Go.Ground.data }, { on := 6, ground := Go.Ground.data }], guard := none }) rfl (fun K hK => ?_) AllReadyH.nil
    refine step_appK (by rfl) (.tmp 34) (.tmp 36) _ (by rfl) Tryd.underlying48 infoEq rfl (by omega) 0 (.slice A m c) m (H.flatMap evC) (by rfl) HY.out.1 (some ⟨w3.heap.size, 0, none⟩) 1 1 [.int .i64 a1, .int .i64 a2, .int .i64 a3] (by rfl) rfl HY.out.2.1 (fun u hu => by simp only [List.mem_cons, List.not_mem_nil, or_false] at hu; rcases hu with rfl | rfl | rfl <;> rfl) (by unfold maxLen; omega) (by omega) (Nat.zero_le _) ?_
    intro v9 w9 ho9 hg9 hb9
    obtain ⟨A9, c9, rfl, -⟩ := owns_formk ho9
    have H9 := Lib.hid (And.intro ho9 (And.intro hg9 hb9))
    refine hK.out _ _ (HAp.out w9 hg9) (fun hHeld => ?_)
    clear hK K ho9 hg9 hb9
    obtain ⟨cq, fq⟩ := HCq.out w9 H9.out.2.1
    try simp only [Act.put, List.setIfInBounds_toArray, List.set_cons_zero, List.set_cons_succ]
    refine' wpAnyH_take (i := 8) (oi := { dst := some 38, op := Go.Op.nilCheck (Go.Operand.tmp 30), type := 0, pos := "queue.go:43", after := #[{ on := 0, ground := Go.Ground.data }, { on := 0, ground := Go.Ground.phase }, { on := 1, ground := Go.Ground.phase }, { on := 2, ground := Go.Ground.phase }, { on := 3, ground := Go.Ground.phase }, { on := 4, ground := Go.Ground.phase }, { on := 5, ground := Go.Ground.phase }, { on := 6, ground := Go.Ground.phase }, { on := 7, ground := Go.Ground.phase }], guard := none }) (v := _) rfl (by kernel_rfl) (by kernel_rfl) (by kernel_rfl) (fun _ _ _ h => h) (Or.inl ⟨by rfl, ?_⟩) (by assumption) ?_
    rotate_left
    · (intro W hSw; go_simp; try with_reducible rfl)
    try simp only [Act.put, List.setIfInBounds_toArray, List.set_cons_zero, List.set_cons_succ]
    refine' wpAnyH_take (i := 9) (oi := { dst := some 39, op := Go.Op.fieldAddr 56 (Go.Operand.tmp 38) 1, type := 0, pos := "queue.go:43", after := #[{ on := 8, ground := Go.Ground.data }, { on := 0, ground := Go.Ground.phase }, { on := 1, ground := Go.Ground.phase }, { on := 2, ground := Go.Ground.phase }, { on := 3, ground := Go.Ground.phase }, { on := 4, ground := Go.Ground.phase }, { on := 5, ground := Go.Ground.phase }, { on := 6, ground := Go.Ground.phase }, { on := 7, ground := Go.Ground.phase }], guard := none }) (v := _) rfl (by kernel_rfl) (by kernel_rfl) (by kernel_rfl) (fun _ _ _ h => h) (Or.inl ⟨by rfl, ?_⟩) (by assumption) ?_
    rotate_left
    · (intro W hSw; go_simp; try with_reducible rfl)
    try simp only [Act.put, List.setIfInBounds_toArray, List.set_cons_zero, List.set_cons_succ]
    refine wpAnyH_ready (rs := [10]) (by kernel_rfl) (by simp) ?_
    refine AllReadyH.cons (o := { dst := none, op := Go.Op.store 48 (Go.Operand.tmp 39) (Go.Operand.tmp 37), type := 0, pos := "queue.go:43", after := #[{ on := 9, ground := Go.Ground.data }, { on := 7, ground := Go.Ground.data }, { on := 7, ground := Go.Ground.chain }, { on := 0, ground := Go.Ground.phase }, { on := 1, ground := Go.Ground.phase }, { on := 2, ground := Go.Ground.phase }, { on := 3, ground := Go.Ground.phase }, { on := 4, ground := Go.Ground.phase }, { on := 5, ground := Go.Ground.phase }, { on := 6, ground := Go.Ground.phase }, { on := 7, ground := Go.Ground.phase }], guard := none }) rfl (fun K hK => ?_) AllReadyH.nil
    go_simp
    refine hK.out _ _ ⟨cell_other9 hHeld.1 HD.out.1, cell_other9 hHeld.2.1 HD.out.1, cell_other9 hHeld.2.2 HD.out.1⟩ (fun hHeld => ?_)
    clear hK K
    try simp only [Act.put, List.setIfInBounds_toArray, List.set_cons_zero, List.set_cons_succ]
    refine wpAnyH_done (by kernel_rfl) ?_ _
    refine NoPanic.normal ?_
    obtain ⟨wb, hwb⟩ : ∃ W, w9.setCell ⟨q, 1, none⟩ (Value.slice A9 (m + 1) c9) = W := ⟨_, rfl⟩
    rw [hwb]
    have hv9 : (Value.slice A9 (m + 1) c9).ownBlock = (Value.slice A m c).ownBlock ∨ (Value.slice A9 (m + 1) c9).ownBlock = some (w3.alloc (.cells #[.int .i64 a1, .int .i64 a2, .int .i64 a3] 38)).drew.heap.size := H9.out.2.2
    have hq3 := blk9_lt H3.out.1.blk
    have hgl3 := H3.out.1.map.lt
    have hs3 := blk9_lt H3.out.2.1
    have hz := HSZ.out
    have hnq : (Value.slice A9 (m + 1) c9).ownBlock ≠ some q := fun e => hv9.elim (fun h => HQO.out.1 (h.symm.trans e)) (fun h => by rw [e] at h; injection h with h; omega)
    have hng : (Value.slice A9 (m + 1) c9).ownBlock ≠ some g := fun e => hv9.elim (fun h => HQO.out.2.1 (h.symm.trans e)) (fun h => by rw [e] at h; injection h with h; omega)
    have hoth : ∀ k, k ≠ q → wb.heap[k]? = w9.heap[k]? := fun k hk => by rw [← hwb]; exact Below.heap_setCell w9 ⟨q, 1, none⟩ _ k hk
    have hbq : wb.heap[q]? = some (.cells #[.int .i64 n, (Value.slice A9 (m + 1) c9), .map (some g)] 56 (0, 0)) := by
      rw [← hwb]
      exact heap_setCell_same w9 q 1 _ _ _ ((H9.out.2.1.block q (blk9_lt HQO.out.2.2) (fun e => HQO.out.1 e.symm)).trans HQO.out.2.2)
    have hsz : wb.heap.size = w9.heap.size ∧ wb.os = w9.os ∧ wb.tape = w9.tape ∧ wb.output = w9.output := by rw [← hwb]; exact ⟨by simp, rfl, rfl, rfl⟩
    have hold : ∀ k, k < w3.heap.size → k ≠ q → (Value.slice A m c).ownBlock ≠ some k → wb.heap[k]? = w3.heap[k]? := fun k hk h1 h2 => (hoth k h1).trans ((H9.out.2.1.block k (by omega) (fun e => h2 e.symm)).trans (HY.out.2.2.block k hk))
    have hrowb : wb.ownsRow 0 38 3 (Value.slice A9 (m + 1) c9) (m + 1) ((H ++ [(a1, a2, a3)]).flatMap evC) := by
      have h1 := own_block9 (w' := wb) H9.out.1 (fun k hk => hoth k (fun e => hnq (by rw [hk, e])))
      rw [List.flatMap_append]
      exact h1
    have hso : (Value.slice A m c).ownBlock ≠ some s := fun e => by
      have h1 := HX.out.1.fp s (.inr (.inr (by rw [← e, HX.out.2.2.2.2])))
      have h2 := HW.out.2.2
      omega
    have hsb : wb.heap[s]? = some (.cells #[.int .i64 a1, .int .i64 a2, .int .i64 a3] 38 (0, 0)) := (hold s hs3 HD.out.1 hso).trans H3.out.2.1
    have hmb : MapQ wb g m (PosE H) := by
      have h1 := H3.out.1.map.block (hold g hgl3 (fun e => HX.out.1.d1 e.symm) HQO.out.2.1)
      rw [HX.out.2.2.2.2] at h1
      exact h1
    have htb : TuF (FqB q g (Value.slice A m c)) (FqB q g (Value.slice A m c)) w3 wb := ⟨by rw [hsz.2.1]; exact H9.out.2.1.os.trans HY.out.2.2.os, by rw [hsz.2.2.1]; exact H9.out.2.1.tape.trans HY.out.2.2.tape, by rw [hsz.2.2.2]; exact H9.out.2.1.output.trans HY.out.2.2.output, by rw [hsz.1]; exact Nat.le_trans HY.out.2.2.size H9.out.2.1.size,
      fun k hk hn => hold k hk (fun e => hn (.inl e)) (fun e => hn (.inr (.inr e))), fun _ h => .inl h⟩
    have HB := Lib.hid (And.intro hbq (And.intro hrowb (And.intro hmb (And.intro htb (And.intro hnq (And.intro hng hsb))))))
    have hrb : ReS wb q g (Value.slice A9 (m + 1) c9) n s (a1, a2, a3) := ⟨cell9_blk hbq 0 rfl, cell9_blk hbq 1 rfl, cell9_blk hbq 2 rfl, cell9_blk hsb 0 rfl, cell9_blk hsb 1 rfl, cell9_blk hsb 2 rfl⟩
    have HRc : Hid (∀ V V', ReS V q g (Value.slice A9 (m + 1) c9) n s (a1, a2, a3) → Below V.heap.size V V' → ReS V' q g (Value.slice A9 (m + 1) c9) n s (a1, a2, a3)) := Lib.hid (fun V V' h hb => h.bl hb)
    have HRg : Hid (∀ V V', ReS V q g (Value.slice A9 (m + 1) c9) n s (a1, a2, a3) → V.grownBy V' (some g) → ReS V' q g (Value.slice A9 (m + 1) c9) n s (a1, a2, a3)) := Lib.hid (fun V V' h hb => h.gr hb HX.out.1.d1 HD.out.2.2)
    have HRd5 := Lib.hid (hrb.bl (Gw.refl wb).drew.below)
    unfold ReS at HRc HRg HRd5
    dsimp only at HRc HRg HRd5
    clear hwb hv9 hq3 hgl3 hs3 hz hnq hng hoth hbq hsz hold hrowb hso hsb hmb htb hrb c1 c1a d0 d1 d2 cq fq hHeld
    go_wp2_with fail
    go_region_held3 (fun V => V.cell? ⟨q, 0, none⟩ = some (.int .i64 n) ∧ V.cell? ⟨q, 1, none⟩ = some (Value.slice A9 (m + 1) c9) ∧ V.cell? ⟨q, 2, none⟩ = some (.map (some g)) ∧ V.cell? ⟨s, 0, none⟩ = some (.int .i64 a1) ∧ V.cell? ⟨s, 1, none⟩ = some (.int .i64 a2) ∧ V.cell? ⟨s, 2, none⟩ = some (.int .i64 a3))
      (first | exact HRd5.out | assumption | exact HRc.out _ _ (by assumption) (by assumption) | exact HRg.out _ _ (by assumption) (by assumption))
      (first
        | (with_reducible refine (HKO.out _).mono ?_; rintro e wc ⟨rfl, hbc⟩)
        | (refine step_qput g m (PosE H) a2 a3 m ((HB.out.2.2.1.bl (Gw.refl wb).drew.below).bl hbc) HX.out.2.2.1.1 HX.out.2.2.1.2 (by omega) ?_
           intro wt hmt hgt))
    have hgb : wb.grownBy wt (some g) := gb_trans (gb_trans (gb_below (some g) (Gw.refl wb).drew.below) (gb_below (some g) hbc)) hgt
    have hno := PosE.none HX.out.2.2.2.1
    have hpe := HX.out.2.2.2.1
    have hmt2 : MapQ wt g (m + 1) (PosE (H ++ [(a1, a2, a3)])) := by
      rw [hpe] at hmt
      refine MapQ.congr hmt (fun x => ?_)
      have h1 := posE_add (H := H) (e := (a1, a2, a3)) hpe x
      rw [HX.out.2.2.2.2] at h1
      exact h1
    have hlA : (H ++ [(a1, a2, a3)]).length = m + 1 := by rw [List.length_append, HX.out.2.2.2.2]; rfl
    have hIt : QuI wt q g (Value.slice A9 (m + 1) c9) n (H ++ [(a1, a2, a3)]) := by
      refine ⟨(hgb.block q (blk9_lt HB.out.1) (fun e => HX.out.1.d1 (by injection e))).trans HB.out.1, ?_, ?_, HX.out.1.d1, HB.out.2.2.2.2.1, HB.out.2.2.2.2.2.1, ?_, fun x hx => ?_, by rw [hlA]; omega⟩
      · rw [hlA]
        exact own_block9 HB.out.2.1 (fun k hk => hgb.block k (HB.out.2.1.lt k hk).2 (fun e => HB.out.2.2.2.2.2.1 (by rw [hk]; exact e)))
      · rw [hlA]
        exact hmt2
      · unfold KeyE
        rw [List.pairwise_append]
        refine ⟨HX.out.1.key, List.pairwise_singleton _ _, fun a ha b hb => ?_⟩
        rw [List.mem_singleton.1 hb]
        exact hno a ha
      · rcases List.mem_append.1 hx with hx | hx
        · exact HX.out.1.k64 x hx
        · rw [List.mem_singleton.1 hx]
          exact HX.out.2.2.1
    have htt : TuF (FqB q g (Value.slice A m c)) (FqB q g (Value.slice A9 (m + 1) c9)) w wt := by
      have h1 := ((TuF.of H3.out.2.2).trans HB.out.2.2.2.1).trans (TuF.gr hgb (.inr (.inl rfl)))
      refine ⟨h1.os, h1.tape, h1.output, h1.size, h1.block, fun k hk => ?_⟩
      rcases hk with rfl | rfl | hk
      · exact .inl (.inl rfl)
      · exact .inl (.inr (.inl rfl))
      · rcases H9.out.2.2 with h2 | h2
        · exact .inl (.inr (.inr (by rw [← h2]; exact hk)))
        · rw [hk] at h2
          injection h2 with h2
          have h3 := H3.out.2.2.size
          have h4 := HSZ.out
          exact .inr (by omega)
    have hup := UpH.add HX.out.2.1 (a1, a2, a3)
    rw [HX.out.2.2.2.2] at hup
    have HS := Lib.hid (settle_any q g (Value.slice A9 (m + 1) c9) n _ m wt hIt (by rw [hlA]; omega) hup)
    have HT := Lib.hid htt
    clear hbc hmt hgt hgb hno hpe hmt2 hlA hIt htt hup
    go_wp2_with fail
    with_reducible refine HS.out.mono ?_
    rintro e w6 ⟨rfl, H6, hI6, hp6, hh6, ht6⟩
    have HF := Lib.hid (And.intro hI6 (And.intro hp6 (And.intro hh6 (HT.out.trans ht6))))
    clear hI6 hp6 hh6 ht6
    go_wp2_with fail
    go_ret
    exact ⟨rfl, (Value.slice A9 (m + 1) c9), H6, HF.out⟩
end Go.Proofs.YtkihfafkglkjnaaDoor

/- Layer 15: Set. -/
import Derived.Test.YtkihfafkglkjnaaDoorQuPb
namespace Go.Proofs.YtkihfafkglkjnaaDoor
open Go.RowKit

theorem isEvent3_any (a1 a2 a3 : Int) (w : World) : Calls Tryd.prog 22 #[.agg #[.int .i64 a1, .int .i64 a2, .int .i64 a3]] w fun x w' => x = .returned (.bool (!badE15 (a1, a2, a3))) ∧ Below w.heap.size w w' := isEvent_any (a1, a2, a3) w
/-- What is read of a queue, its map, and the event at hand. -/
def ReS (V : World) (q g : Nat) (v : Value) (n : Int) (s : Nat) (e : Ev) : Prop := V.cell? ⟨q, 0, none⟩ = some (.int .i64 n) ∧ V.cell? ⟨q, 1, none⟩ = some v ∧ V.cell? ⟨q, 2, none⟩ = some (.map (some g)) ∧
  V.cell? ⟨s, 0, none⟩ = some (.int .i64 e.1) ∧ V.cell? ⟨s, 1, none⟩ = some (.int .i64 e.2.1) ∧ V.cell? ⟨s, 2, none⟩ = some (.int .i64 e.2.2)
theorem ReS.bl {V V' : World} {q g s : Nat} {v : Value} {n : Int} {e : Ev} (h : ReS V q g v n s e) (hb : Below V.heap.size V V') : ReS V' q g v n s e :=
  ⟨cell9_below h.1 hb, cell9_below h.2.1 hb, cell9_below h.2.2.1 hb, cell9_below h.2.2.2.1 hb, cell9_below h.2.2.2.2.1 hb, cell9_below h.2.2.2.2.2 hb⟩
theorem ReS.gr {V V' : World} {q g s b : Nat} {v : Value} {n : Int} {e : Ev} (h : ReS V q g v n s e) (hg : V.grownBy V' (some b)) (h1 : q ≠ b) (h2 : s ≠ b) : ReS V' q g v n s e :=
  ⟨cell9_grown h.1 hg h1, cell9_grown h.2.1 hg h1, cell9_grown h.2.2.1 hg h1, cell9_grown h.2.2.2.1 hg h2, cell9_grown h.2.2.2.2.1 hg h2, cell9_grown h.2.2.2.2.2 hg h2⟩
theorem QuI.res {w : World} {q g s : Nat} {v : Value} {n : Int} {H : List Ev} {e : Ev} (h : QuI w q g v n H) (hs : w.heap[s]? = some (.cells #[.int .i64 e.1, .int .i64 e.2.1, .int .i64 e.2.2] 38 (0, 0))) : ReS w q g v n s e :=
  ⟨cell9_blk h.blk 0 rfl, cell9_blk h.blk 1 rfl, cell9_blk h.blk 2 rfl, cell9_blk hs 0 rfl, cell9_blk hs 1 rfl, cell9_blk hs 2 rfl⟩
theorem QuI.put {w : World} {q g r c j : Nat} {n : Int} {H : List Ev} {e : Ev} (h : QuI w q g (.slice (some ⟨r, 0, none⟩) H.length c) n H) (hj : j < H.length) (he : e.2 = (evA H j).2) :
    QuI (setE w ⟨r, j * 3, none⟩ e) q g (.slice (some ⟨r, 0, none⟩) H.length c) n (H.set j e) ∧ TuF (FqB q g (.slice (some ⟨r, 0, none⟩) H.length c)) (FqB q g (.slice (some ⟨r, 0, none⟩) H.length c)) w (setE w ⟨r, j * 3, none⟩ e) := by
  have h1 := own_setE h.row rfl hj (add_row r (j * 3)) e
  refine ⟨⟨(h1.2.1.block q (blk9_lt h.blk) (fun e => h.d2 (by injection e with e; rw [e]; rfl))).trans h.blk, ?_, ?_, h.d1, h.d2, h.d3, h.key.set hj he, fun x hx => ?_, by rw [List.length_set]; exact h.len⟩, TuF.gr h1.2.1 (.inr (.inr rfl))⟩
  · rw [List.length_set]
    exact h1.1
  · rw [List.length_set]
    exact (h.map.block (h1.2.1.block g h.map.lt (fun e => h.d3 (by injection e with e; rw [e]; rfl)))).congr (fun x => posE_put h.key hj he x)
  · rcases (mem_set h.key hj he).1 hx with rfl | ⟨hx, _⟩
    · rw [he]
      exact h.k64 _ (evA_mem hj)
    · exact h.k64 x hx
set_option maxRecDepth 100000 in
set_option maxHeartbeats 4000000 in
/-- Set up to the look at the map: an event that may not be. -/
theorem setBad_any (q : Nat) (e : Ev) (w : World) (h : badE15 e = true) :
    Calls Tryd.prog 9 #[.pointer (some ⟨q, 0, none⟩), evV e] w fun x w' => x = .returned (errE 1) ∧ Below w.heap.size w w' := by
  obtain ⟨a1, a2, a3⟩ := e
  have hb1 : Below w.heap.size w (w.alloc (.cells #[.int .i64 a1, .int .i64 a2, .int .i64 a3] 38)) := (Below.refl _ _).alloc (Nat.le_refl _) _
  have HE := Lib.hid (by have h1 := isEvent3_any a1 a2 a3 (w.alloc (.cells #[.int .i64 a1, .int .i64 a2, .int .i64 a3] 38)); rw [h] at h1; exact h1 : Calls Tryd.prog 22 #[.agg #[.int .i64 a1, .int .i64 a2, .int .i64 a3]] (w.alloc (.cells #[.int .i64 a1, .int .i64 a2, .int .i64 a3] 38)) fun x w' => x = .returned (.bool false) ∧ Below (w.alloc (.cells #[.int .i64 a1, .int .i64 a2, .int .i64 a3] 38)).heap.size (w.alloc (.cells #[.int .i64 a1, .int .i64 a2, .int .i64 a3] 38)) w')
  have HB := Lib.hid hb1
  unfold evV errE errK
  dsimp only
  clear h hb1
  go_enter Tryd.func9, Tryd.ntmps9
  go_wp2_with (first | (with_reducible refine HE.out.mono ?_; rintro e w1 ⟨rfl, hb2⟩))
  go_ret
  exact ⟨rfl, HB.out.trans (hb2.mono HB.out.size)⟩
set_option maxRecDepth 100000 in
set_option maxHeartbeats 4000000 in
/-- Set: in the place of another one. -/
theorem setPut_any (q g : Nat) (v : Value) (n : Int) (H : List Ev) (e : Ev) (j : Nat) (w : World) (h : QuI w q g v n H) (hh : HeapE H) (hbad : badE15 e = false) (h64 : In64 e.2.1 ∧ In64 e.2.2) (hj : PosE H e.2 = some j) :
    Calls Tryd.prog 9 #[.pointer (some ⟨q, 0, none⟩), evV e] w fun x w' => x = .returned .nilIface ∧ ∃ H', QuI w' q g v n H' ∧ H'.Perm (H.set j e) ∧ HeapE H' ∧ TuF (FqB q g v) (FqB q g v) w w' := by
  obtain ⟨hjl, hjk⟩ := PosE.at_ hj
  obtain ⟨a1, a2, a3⟩ := e
  dsimp only at h64 hj hjk
  obtain ⟨s, hs⟩ : ∃ s, w.heap.size = s := ⟨_, rfl⟩
  obtain ⟨w1, hw1⟩ : ∃ W, w.alloc (.cells #[.int .i64 a1, .int .i64 a2, .int .i64 a3] 38) = W := ⟨_, rfl⟩
  have hb1 : Below w.heap.size w w1 := by rw [← hw1]; exact (Below.refl _ _).alloc (Nat.le_refl _) _
  have hg1 : w1.heap[s]? = some (.cells #[.int .i64 a1, .int .i64 a2, .int .i64 a3] 38 (0, 0)) := by rw [← hw1, ← hs]; exact heap_alloc_new w _
  have hE := isEvent3_any a1 a2 a3 w1
  rw [hbad] at hE
  have HE := Lib.hid (hE : Calls Tryd.prog 22 #[.agg #[.int .i64 a1, .int .i64 a2, .int .i64 a3]] w1 fun x w' => x = .returned (.bool true) ∧ Below w1.heap.size w1 w')
  obtain ⟨r, c, rfl, hc⟩ := h.rows (by omega)
  have hqr : q ≠ r := fun e => h.d2 (by rw [e]; rfl)
  have hgr : g ≠ r := fun e => h.d3 (by rw [e]; rfl)
  have hfp := h.fp
  have hsq : s ≠ q := fun e => by have := hfp q (.inl rfl); omega
  have hsg : s ≠ g := fun e => by have := hfp g (.inr (.inl rfl)); omega
  have hsr : s ≠ r := fun e => by have := hfp r (.inr (.inr rfl)); omega
  have hlen := h.len
  obtain ⟨m, hm⟩ : ∃ m, H.length = m := ⟨_, rfl⟩
  have hre : ReS w1 q g (.slice (some ⟨r, 0, none⟩) H.length c) n s (a1, a2, a3) := (h.bl hb1).res hg1
  rw [hm] at hre hlen hc hjl
  have j0 : (0 : Int) ≤ j := by omega
  have j1 : (j : Int) < m := by omega
  have HX := Lib.hid (And.intro h (And.intro hh (And.intro h64 (And.intro hj (And.intro hm hjk)))))
  have HW := Lib.hid (And.intro hb1 (And.intro hg1 hs))
  have HD := Lib.hid (And.intro hqr (And.intro hgr (And.intro hsq (And.intro hsg hsr))))
  have HRe := Lib.hid hre
  unfold evV
  dsimp only
  rw [hm]
  clear h hh hbad h64 hj hm hjk hb1 hg1 hE hqr hgr hsq hsg hsr hfp hre
  go_enter Tryd.func9, Tryd.ntmps9
  obtain ⟨-, -, -, d0, d1, d2⟩ := HRe.out
  dsimp only at d0 d1 d2
  go_upto_region 3 with (first | (with_reducible refine HE.out.mono ?_; rintro e w2 ⟨rfl, hb2⟩))
  have hI2 := (HX.out.1.bl HW.out.1).bl hb2
  have hg2 : w2.heap[s]? = some (.cells #[.int .i64 a1, .int .i64 a2, .int .i64 a3] 38 (0, 0)) := (hb2.block s (blk9_lt HW.out.2.1)).trans HW.out.2.1
  have HKO := Lib.hid (fun W => keyOf3_any a1 a2 a3 W)
  have HLk : Hid (∀ V, Below w2.heap.size w2 V → (Instr.lookup 54 (.map (some g)) (.agg #[.int .i64 a2, .int .i64 a3]) true).run Tryd.prog V = .ok (.tuple #[.int .i64 (j : Nat), .bool true]) V) := Lib.hid (fun V hV => by
    have h1 := (hI2.map.bl hV).look2 HX.out.2.2.1.1 HX.out.2.2.1.2
    rw [HX.out.2.2.2.1] at h1
    exact h1)
  have HRb : Hid (∀ V V', ReS V q g (.slice (some ⟨r, 0, none⟩) m c) n s (a1, a2, a3) → Below V.heap.size V V' → ReS V' q g (.slice (some ⟨r, 0, none⟩) m c) n s (a1, a2, a3)) := Lib.hid (fun V V' h hb => h.bl hb)
  have HRd := Lib.hid ((HRe.out.bl hb2).bl (Gw.refl w2).drew.below)
  have H2 := Lib.hid (And.intro hI2 (And.intro hg2 (HW.out.1.trans (hb2.mono HW.out.1.size))))
  unfold ReS at HRb HRd
  dsimp only at HRb HRd
  clear d0 d1 d2 hI2 hg2 hb2 hw1
  go_region_held3 (fun V => V.cell? ⟨q, 0, none⟩ = some (.int .i64 n) ∧ V.cell? ⟨q, 1, none⟩ = some (.slice (some ⟨r, 0, none⟩) m c) ∧ V.cell? ⟨q, 2, none⟩ = some (.map (some g)) ∧ V.cell? ⟨s, 0, none⟩ = some (.int .i64 a1) ∧ V.cell? ⟨s, 1, none⟩ = some (.int .i64 a2) ∧ V.cell? ⟨s, 2, none⟩ = some (.int .i64 a3))
    (first | exact HRd.out | assumption | exact HRb.out _ _ (by assumption) (by assumption))
    (first | (with_reducible refine (HKO.out _).mono ?_; rintro e w3 ⟨rfl, hb3⟩; have hlk3 := HLk.out w3 ((Gw.refl w2).drew.below.trans (hb3.mono (Gw.refl w2).drew.below.size))))
  have hb23 : Below w2.heap.size w2 w3 := (Gw.refl w2).drew.below.trans (hb3.mono (Gw.refl w2).drew.below.size)
  have hI3 := H2.out.1.bl hb23
  have hg3 := (hb23.block s (blk9_lt H2.out.2.1)).trans H2.out.2.1
  have hw3 := H2.out.2.2.trans (hb23.mono H2.out.2.2.size)
  have hrow := hI3.row
  rw [HX.out.2.2.2.2.1] at hrow
  obtain ⟨⟨r0, r1, r2⟩, f0, f1, f2⟩ := rowE_at hrow HX.out.2.2.2.2.1 j hjl
  have hre3 : ReS w3 q g (.slice (some ⟨r, 0, none⟩) m c) n s (a1, a2, a3) := by
    have h1 := hI3.res (e := (a1, a2, a3)) hg3
    rw [HX.out.2.2.2.2.1] at h1
    exact h1
  have HRd3 := Lib.hid (hre3.bl (Gw.refl w3).drew.below)
  have H3 := Lib.hid (And.intro hI3 (And.intro hrow hw3))
  unfold ReS at HRd3
  dsimp only at HRd3
  have HRs : Hid (∀ (V : World), (V.cell? ⟨q, 0, none⟩ = some (.int .i64 n) ∧ V.cell? ⟨q, 1, none⟩ = some (.slice (some ⟨r, 0, none⟩) m c) ∧ V.cell? ⟨q, 2, none⟩ = some (.map (some g)) ∧ V.cell? ⟨s, 0, none⟩ = some (.int .i64 a1) ∧ V.cell? ⟨s, 1, none⟩ = some (.int .i64 a2) ∧ V.cell? ⟨s, 2, none⟩ = some (.int .i64 a3)) → ∀ (x : Value) (k : Nat), ((V.setCell ⟨r, k, none⟩ x).cell? ⟨q, 0, none⟩ = some (.int .i64 n) ∧ (V.setCell ⟨r, k, none⟩ x).cell? ⟨q, 1, none⟩ = some (.slice (some ⟨r, 0, none⟩) m c) ∧ (V.setCell ⟨r, k, none⟩ x).cell? ⟨q, 2, none⟩ = some (.map (some g)) ∧ (V.setCell ⟨r, k, none⟩ x).cell? ⟨s, 0, none⟩ = some (.int .i64 a1) ∧ (V.setCell ⟨r, k, none⟩ x).cell? ⟨s, 1, none⟩ = some (.int .i64 a2) ∧ (V.setCell ⟨r, k, none⟩ x).cell? ⟨s, 2, none⟩ = some (.int .i64 a3))) := Lib.hid (fun V h x k => ⟨cell_other9 h.1 HD.out.1, cell_other9 h.2.1 HD.out.1, cell_other9 h.2.2.1 HD.out.1, cell_other9 h.2.2.2.1 HD.out.2.2.2.2, cell_other9 h.2.2.2.2.1 HD.out.2.2.2.2, cell_other9 h.2.2.2.2.2 HD.out.2.2.2.2⟩)
  clear hb3 hlk3 hb23 hI3 hg3 hw3 hrow hre3
  go_wp2_with fail
  go_region_held3 (fun V => V.cell? ⟨q, 0, none⟩ = some (.int .i64 n) ∧ V.cell? ⟨q, 1, none⟩ = some (.slice (some ⟨r, 0, none⟩) m c) ∧ V.cell? ⟨q, 2, none⟩ = some (.map (some g)) ∧ V.cell? ⟨s, 0, none⟩ = some (.int .i64 a1) ∧ V.cell? ⟨s, 1, none⟩ = some (.int .i64 a2) ∧ V.cell? ⟨s, 2, none⟩ = some (.int .i64 a3))
    (first | exact HRd3.out | assumption | exact HRs.out _ (HRs.out _ (HRs.out _ (by assumption) _ _) _ _) _ _) (fail)
  obtain ⟨w5, hw5⟩ : ∃ W, setE w3 ⟨r, j * 3, none⟩ (a1, a2, a3) = W := ⟨_, rfl⟩
  have e5 : (((w3.setCell { block := r, off := j * 3 } (.int .i64 a1)).setCell { block := r, off := j * 3 + 1 } (.int .i64 a2)).setCell { block := r, off := j * 3 + 2 } (.int .i64 a3)).drew = w5.drew := by rw [← hw5]; rfl
  rw [e5]
  have h5 := QuI.put (e := (a1, a2, a3)) H3.out.1 (by rw [HX.out.2.2.2.2.1]; exact hjl) HX.out.2.2.2.2.2.symm
  rw [hw5] at h5
  have hI5 := h5.1.gw (Gw.refl w5).drew
  have hS := settle_any q g _ n (H.set j (a1, a2, a3)) j w5.drew hI5 (by rw [List.length_set, HX.out.2.2.2.2.1]; exact hjl) (UpH.put HX.out.2.1 (by rw [HX.out.2.2.2.2.1]; exact hjl) _)
  have ht := ((TuF.of H3.out.2.2).trans h5.2).trans (.of (Gw.refl w5).drew.below)
  rw [HX.out.2.2.2.2.1] at hS ht
  have HS := Lib.hid hS
  have HT := Lib.hid ht
  clear e5 hw5 h5 hI5 hS ht r0 r1 r2 f0 f1 f2
  go_wp2_with fail
  with_reducible refine HS.out.mono ?_
  rintro e w6 ⟨rfl, H6, hI6, hp6, hh6, ht6⟩
  have HF := Lib.hid (And.intro hI6 (And.intro hp6 (And.intro hh6 (HT.out.trans ht6))))
  clear hI6 hp6 hh6 ht6
  go_wp2_with fail
  go_ret
  exact ⟨rfl, H6, HF.out⟩
end Go.Proofs.YtkihfafkglkjnaaDoor

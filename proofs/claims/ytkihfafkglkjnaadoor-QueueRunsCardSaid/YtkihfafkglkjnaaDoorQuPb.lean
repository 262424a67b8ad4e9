/- Layer 15: Find, First, Pop, Drop. -/
import Derived.Test.YtkihfafkglkjnaaDoorQuPa
namespace Go.Proofs.YtkihfafkglkjnaaDoor
open Go.RowKit

theorem MapQ.look2 {w : World} {b c : Nat} {f : Int × Int → Option Nat} (h : MapQ w b c f) {k i : Int} (hk : In64 k) (hi : In64 i) :
    (Instr.lookup 54 (.map (some b)) (.agg #[.int .i64 k, .int .i64 i]) true).run Tryd.prog w = .ok (.tuple #[.int .i64 (((f (k, i)).getD 0 : Nat) : Int), .bool (f (k, i)).isSome]) w := h.look hk hi
set_option maxRecDepth 100000 in
set_option maxHeartbeats 1000000 in
theorem find_any (v : Value) (F : Nat → Prop) (n : Int) (L : List Ev) (k i : Int) (w : World) (hk : In64 k) (hi : In64 i) (h : IsQ w v F n L) :
    Calls Tryd.prog 15 #[v, .int .i64 k, .int .i64 i] w fun x w' => ∃ a, x = .returned (.tuple #[.int .i64 a, .bool (decide (0 ≤ fdE k i L 0))]) ∧ (∀ j e, fdE k i L 0 = (j : Nat) → L[j]? = some e → a = e.1) ∧ Below w.heap.size w w' := by
  obtain ⟨q, g, u, H, rfl, rfl, h3, h4, h5, _⟩ := h
  have hlk := h3.map.look2 hk hi
  have hfd := h5.fd k i
  have c1 := cell9_blk h3.blk 1 rfl
  have c2 := cell9_blk h3.blk 2 rfl
  cases hp : PosE H (k, i) with
  | none =>
    rw [hp] at hlk hfd
    have hno : ¬ 0 ≤ fdE k i L 0 := fun h => by have := hfd.1.1 h; cases this
    rw [decide_eq_false hno]
    replace hlk : (Instr.lookup 54 (.map (some g)) (.agg #[.int .i64 k, .int .i64 i]) true).run Tryd.prog w = .ok (.tuple #[.int .i64 0, .bool false]) w := hlk
    have HN := Lib.hid hno
    clear h3 h4 h5 hfd hp hno
    go_enter Tryd.func15, Tryd.ntmps15
    go_wp2_with fail
    go_ret2
    refine ⟨0, rfl, ?_, Below.refl _ _⟩
    intros
    exfalso
    have := HN.out
    omega
  | some j =>
    rw [hp] at hlk hfd
    have hyes : 0 ≤ fdE k i L 0 := hfd.1.2 rfl
    rw [decide_eq_true hyes]
    replace hlk : (Instr.lookup 54 (.map (some g)) (.agg #[.int .i64 k, .int .i64 i]) true).run Tryd.prog w = .ok (.tuple #[.int .i64 (j : Nat), .bool true]) w := hlk
    obtain ⟨hj, _⟩ := PosE.at_ hp
    obtain ⟨r, c, rfl, hc⟩ := h3.rows (by omega)
    have hat := (rowE_at h3.row rfl j hj).1.1
    obtain ⟨x, hx⟩ : ∃ x, (evA H j).1 = x := ⟨_, rfl⟩
    rw [hx] at hat
    have hlen := h3.len
    obtain ⟨m, hm⟩ : ∃ m, H.length = m := ⟨_, rfl⟩
    have c1' : w.cell? ⟨q, 1, none⟩ = some (.slice (some ⟨r, 0, none⟩) m c) := by rw [← hm]; exact c1
    rw [hm] at hj hc hlen
    have j0 : (0 : Int) ≤ j := by omega
    have j1 : (j : Int) < m := by omega
    have HX := Lib.hid (And.intro hfd (And.intro hp hx))
    clear h3 h4 h5 hfd hp hyes c1 hx hm
    go_enter Tryd.func15, Tryd.ntmps15
    go_wp2_with fail
    go_ret2
    refine ⟨x, rfl, fun t e ht he => ?_, Below.refl _ _⟩
    have h1 := HX.out.1.2 j t rfl ht
    rw [he] at h1
    injection h1 with h1
    rw [h1]
    exact HX.out.2.2.symm
set_option maxRecDepth 100000 in
set_option maxHeartbeats 2000000 in
theorem firstI_any (q g : Nat) (v : Value) (n : Int) (H : List Ev) (w : World) (h : QuI w q g v n H) :
    Calls Tryd.prog 14 #[.pointer (some ⟨q, 0, none⟩)] w fun x w' => x = .returned (.tuple #[evV (evA H 0), .bool (!H.isEmpty)]) ∧ Below w.heap.size w w' := by
  obtain ⟨s, hs⟩ : ∃ s, w.heap.size = s := ⟨_, rfl⟩
  obtain ⟨w1, hw1⟩ : ∃ W, w.alloc (.cells #[.int .i64 0, .int .i64 0, .int .i64 0] 38) = W := ⟨_, rfl⟩
  have hb1 : Below w.heap.size w w1 := by rw [← hw1]; exact (Below.refl _ _).alloc (Nat.le_refl _) _
  have hg1 : w1.heap[s]? = some (.cells #[.int .i64 0, .int .i64 0, .int .i64 0] 38 (0, 0)) := by rw [← hw1, ← hs]; exact heap_alloc_new w _
  have hI1 := h.bl hb1
  have HL := Lib.hid (lenI_any q g v n H w1 hI1)
  have r0 := cell9_blk hg1 0 rfl
  have r1 := cell9_blk hg1 1 rfl
  have r2 := cell9_blk hg1 2 rfl
  have f0 := frz9_blk hg1 0
  have f1 := frz9_blk hg1 1
  have f2 := frz9_blk hg1 2
  have hsle : w.heap.size ≤ s := by omega
  have HG := Lib.hid (And.intro hg1 (And.intro hb1 hsle))
  obtain ⟨m, hm⟩ : ∃ m, H.length = m := ⟨_, rfl⟩
  by_cases h0 : m = 0
  · have e1 : evA H 0 = (0, 0, 0) := by have : H = [] := List.eq_nil_of_length_eq_zero (by omega); rw [this]; rfl
    have e2 : H.isEmpty = true := by have : H = [] := List.eq_nil_of_length_eq_zero (by omega); rw [this]; rfl
    rw [e1, e2]
    unfold evV
    dsimp only
    rw [hm] at HL
    have m0 : (m : Int) = 0 := by omega
    clear h hI1 hb1 hg1 hm e1 e2 h0 hsle
    go_enter Tryd.func14, Tryd.ntmps14
    go_wp2_with fail
    with_reducible refine HL.out.mono ?_
    rintro e w2 ⟨rfl, rfl⟩
    go_wp2_with fail
    refine bodyPost_ret (results_cellQ rfl _ _ s _ _ (0, 0) _ rfl (set3Q HG.out.1) Tryd.underlying38 rfl (by kernel_rfl)) rfl ?_
    exact ⟨rfl, below_set3Q HG.out.2.1 HG.out.2.2⟩
  · have e2 : H.isEmpty = false := by rw [List.isEmpty_eq_false_iff]; intro e; rw [e] at hm; exact h0 hm.symm
    rw [e2]
    obtain ⟨r, c, rfl, hc⟩ := hI1.rows (by omega)
    have hat := (rowE_at hI1.row rfl 0 (by omega)).1
    have c1 := cell9_blk hI1.blk 1 rfl
    obtain ⟨⟨x1, x2, x3⟩, hx⟩ : ∃ x, evA H 0 = x := ⟨_, rfl⟩
    rw [hx] at hat ⊢
    have hat' := hat
    rw [Nat.zero_mul] at hat'
    obtain ⟨d1, d2, d3⟩ := hat'
    unfold evV
    dsimp only at d1 d2 d3 ⊢
    rw [hm] at HL hc
    have c1' : w1.cell? ⟨q, 1, none⟩ = some (.slice (some ⟨r, 0, none⟩) m c) := by rw [← hm]; exact c1
    have m0 : ¬ (m : Int) = 0 := by omega
    have m1 : (0 : Int) < m := by omega
    clear h hI1 hb1 hg1 hm e2 h0 hsle c1 hat hx
    go_enter Tryd.func14, Tryd.ntmps14
    go_wp2_with fail
    with_reducible refine HL.out.mono ?_
    rintro e w2 ⟨rfl, rfl⟩
    go_wp2_with fail
    refine bodyPost_ret (results_cellQ rfl _ _ s _ _ (0, 0) _ rfl (set3Q HG.out.1) Tryd.underlying38 rfl (by kernel_rfl)) rfl ?_
    exact ⟨rfl, below_set3Q HG.out.2.1 HG.out.2.2⟩
theorem OrdE.first {H L : List Ev} (h : OrdE H L) (hh : HeapE H) : evA H 0 = L.headD (0, 0, 0) ∧ H.isEmpty = L.isEmpty := by
  cases L with
  | nil =>
    have : H = [] := List.eq_nil_of_length_eq_zero (by rw [h.len]; rfl)
    rw [this]
    exact ⟨rfl, rfl⟩
  | cons a r =>
    have h0 : 0 < H.length := by rw [h.len]; simp
    have h1 := h.head hh h0
    injection h1 with h1
    refine ⟨h1.symm, ?_⟩
    rw [List.isEmpty_eq_false_iff.2 (fun e => by rw [e] at h0; exact absurd h0 (Nat.lt_irrefl _))]
    rfl
theorem first_any (v : Value) (F : Nat → Prop) (n : Int) (L : List Ev) (w : World) (h : IsQ w v F n L) :
    Calls Tryd.prog 14 #[v] w fun x w' => x = .returned (.tuple #[evV (L.headD (0, 0, 0)), .bool (!L.isEmpty)]) ∧ Below w.heap.size w w' := by
  obtain ⟨q, g, u, H, rfl, rfl, h3, h4, h5, _⟩ := h
  have h6 := firstI_any q g u n H w h3
  rw [(h5.first h4).1, (h5.first h4).2] at h6
  exact h6
set_option maxRecDepth 100000 in
set_option maxHeartbeats 2000000 in
theorem nfirst_any (w : World) : Calls Tryd.prog 14 #[.pointer none] w fun x w' => x = .returned (.tuple #[evV (0, 0, 0), .bool false]) ∧ Below w.heap.size w w' := by
  obtain ⟨s, hs⟩ : ∃ s, w.heap.size = s := ⟨_, rfl⟩
  obtain ⟨w1, hw1⟩ : ∃ W, w.alloc (.cells #[.int .i64 0, .int .i64 0, .int .i64 0] 38) = W := ⟨_, rfl⟩
  have hb1 : Below w.heap.size w w1 := by rw [← hw1]; exact (Below.refl _ _).alloc (Nat.le_refl _) _
  have hg1 : w1.heap[s]? = some (.cells #[.int .i64 0, .int .i64 0, .int .i64 0] 38 (0, 0)) := by rw [← hw1, ← hs]; exact heap_alloc_new w _
  have HL := Lib.hid (nlen_any w1)
  have hsle : w.heap.size ≤ s := by omega
  have HG := Lib.hid (And.intro hg1 (And.intro hb1 hsle))
  unfold evV
  dsimp only
  clear hb1 hg1 hsle
  go_enter Tryd.func14, Tryd.ntmps14
  go_wp2_with fail
  with_reducible refine HL.out.mono ?_
  rintro e w2 ⟨rfl, hb2⟩
  have hg2 := (hb2.block s (blk9_lt HG.out.1)).trans HG.out.1
  have r0 := cell9_blk hg2 0 rfl
  have r1 := cell9_blk hg2 1 rfl
  have r2 := cell9_blk hg2 2 rfl
  have f0 := frz9_blk hg2 0
  have f1 := frz9_blk hg2 1
  have f2 := frz9_blk hg2 2
  have H2 := Lib.hid (And.intro hg2 (HG.out.2.1.trans (hb2.mono HG.out.2.1.size)))
  clear hb2 hg2
  go_wp2_with fail
  refine bodyPost_ret (results_cellQ rfl _ _ s _ _ (0, 0) _ rfl (set3Q H2.out.1) Tryd.underlying38 rfl (by kernel_rfl)) rfl ?_
  exact ⟨rfl, below_set3Q H2.out.2 HG.out.2.2⟩
set_option maxRecDepth 100000 in
set_option maxHeartbeats 4000000 in
theorem pop_any (v : Value) (F : Nat → Prop) (n : Int) (L : List Ev) (w : World) (h : IsQ w v F n L) :
    Calls Tryd.prog 13 #[v] w fun x w' => x = .returned (.tuple #[evV (L.headD (0, 0, 0)), .bool (!L.isEmpty)]) ∧ ∃ F', IsQ w' v F' n L.tail ∧ TuF F F' w w' := by
  obtain ⟨q, g, u, H, rfl, rfl, h3, h4, h5, h6, h7⟩ := h
  rw [← (h5.first h4).1, ← (h5.first h4).2]
  obtain ⟨s, hs⟩ : ∃ s, w.heap.size = s := ⟨_, rfl⟩
  obtain ⟨w1, hw1⟩ : ∃ W, w.alloc (.cells #[.int .i64 0, .int .i64 0, .int .i64 0] 38) = W := ⟨_, rfl⟩
  have hb1 : Below w.heap.size w w1 := by rw [← hw1]; exact (Below.refl _ _).alloc (Nat.le_refl _) _
  have hg1 : w1.heap[s]? = some (.cells #[.int .i64 0, .int .i64 0, .int .i64 0] 38 (0, 0)) := by rw [← hw1, ← hs]; exact heap_alloc_new w _
  have HF1 := Lib.hid (firstI_any q g u n H w1 (h3.bl hb1))
  have HX := Lib.hid (And.intro h3 (And.intro h4 (And.intro h5 (And.intro h6 h7))))
  have HG := Lib.hid (And.intro hg1 (And.intro hb1 hs))
  obtain ⟨⟨x1, x2, x3⟩, hx⟩ : ∃ x, evA H 0 = x := ⟨_, rfl⟩
  obtain ⟨e0, he0⟩ : ∃ x, H.isEmpty = x := ⟨_, rfl⟩
  rw [hx, he0] at HF1 ⊢
  unfold evV at HF1 ⊢
  dsimp only at HF1 ⊢
  have HE := Lib.hid he0
  clear h3 h4 h5 h6 h7 hb1 hg1 hx he0
  go_enter Tryd.func13, Tryd.ntmps13
  go_wp2_with fail
  with_reducible refine HF1.out.mono ?_
  rintro e w2 ⟨rfl, hb2⟩
  obtain ⟨w3, hw3⟩ : ∃ W, w2.alloc (.cells #[.int .i64 x1, .int .i64 x2, .int .i64 x3] 38) = W := ⟨_, rfl⟩
  obtain ⟨s2, hs2⟩ : ∃ s, w2.heap.size = s := ⟨_, rfl⟩
  have hb23 : Below w2.heap.size w2 w3 := by rw [← hw3]; exact (Below.refl _ _).alloc (Nat.le_refl _) _
  have hg3 : w3.heap[s2]? = some (.cells #[.int .i64 x1, .int .i64 x2, .int .i64 x3] 38 (0, 0)) := by rw [← hw3, ← hs2]; exact heap_alloc_new w2 _
  have hb13 : Below w.heap.size w w3 := HG.out.2.1.trans ((hb2.trans (hb23.mono hb2.size)).mono HG.out.2.1.size)
  have hss : s < s2 := by have h1 := blk9_lt HG.out.1; have h2 := hb2.size; omega
  have hg13 : w3.heap[s]? = some (.cells #[.int .i64 0, .int .i64 0, .int .i64 0] 38 (0, 0)) := (hb23.block s (by omega)).trans ((hb2.block s (blk9_lt HG.out.1)).trans HG.out.1)
  have H3 := Lib.hid (And.intro hb13 (And.intro hg3 (And.intro hg13 hss)))
  clear hb2 hb23 hg3 hb13 hss hg13
  have hI3 := HX.out.1.bl H3.out.1
  have HI3 := Lib.hid hI3
  have hnF : ∀ k, s ≤ k → ¬ FqB q g u k := fun k hk hf => by have := HX.out.1.fp k hf; omega
  have HNF := Lib.hid hnF
  clear hI3 hnF
  cases e0 with
  | true =>
    have hLe : L = [] := by
      have h1 := HE.out
      rw [(HX.out.2.2.1.first HX.out.2.1).2] at h1
      exact List.isEmpty_iff.1 h1
    have r0 := cell9_blk H3.out.2.2.1 0 rfl
    have r1 := cell9_blk H3.out.2.2.1 1 rfl
    have r2 := cell9_blk H3.out.2.2.1 2 rfl
    have f0 := frz9_blk H3.out.2.2.1 0
    have f1 := frz9_blk H3.out.2.2.1 1
    have f2 := frz9_blk H3.out.2.2.1 2
    have d0 := cell9_blk H3.out.2.1 0 rfl
    have d1 := cell9_blk H3.out.2.1 1 rfl
    have d2 := cell9_blk H3.out.2.1 2 rfl
    have HL := Lib.hid hLe
    clear hLe hw1
    go_wp2_with fail
    refine bodyPost_ret (results_cellQ rfl _ _ s _ _ (0, 0) _ rfl (set3Q H3.out.2.2.1) Tryd.underlying38 rfl (by kernel_rfl)) rfl ?_
    have hbf := below_set3Q (x := .int .i64 x1) (y := .int .i64 x2) (z := .int .i64 x3) H3.out.1 (show w.heap.size ≤ s by omega)
    refine ⟨rfl, FqB q g u, ?_, .of hbf⟩
    rw [HL.out]
    have h5 := HX.out.2.2.1
    rw [HL.out] at h5
    refine ⟨q, g, u, H, rfl, rfl, HX.out.1.bl hbf, HX.out.2.1, h5, ⟨?_, HX.out.2.2.2.1.2⟩, by simp⟩
    have h6 := HX.out.2.2.2.1.1
    rw [HL.out] at h6
    exact h6
  | false =>
    have hpos : 0 < H.length := by
      have h1 := HE.out
      rw [List.isEmpty_eq_false_iff] at h1
      exact List.length_pos_iff.2 h1
    have hT := take_any q g u n H 0 w3 HI3.out hpos HX.out.2.1
    rw [show (((0 : Nat) : Int)) = 0 from rfl] at hT
    have HT := Lib.hid hT
    clear hT
    have HP := Lib.hid hpos
    clear hpos hw1
    go_wp2_with fail
    with_reducible refine HT.out.mono ?_
    rintro e w4 ⟨rfl, v', hob, H', hI4, hp4, hh4, ht4⟩
    have hg4s := (ht4.block s (blk9_lt H3.out.2.2.1) (HNF.out s (Nat.le_refl _))).trans H3.out.2.2.1
    have hg4t := (ht4.block s2 (blk9_lt H3.out.2.1) (HNF.out s2 (by have := H3.out.2.2.2; omega))).trans H3.out.2.1
    have r0 := cell9_blk hg4s 0 rfl
    have r1 := cell9_blk hg4s 1 rfl
    have r2 := cell9_blk hg4s 2 rfl
    have f0 := frz9_blk hg4s 0
    have f1 := frz9_blk hg4s 1
    have f2 := frz9_blk hg4s 2
    have d0 := cell9_blk hg4t 0 rfl
    have d1 := cell9_blk hg4t 1 rfl
    have d2 := cell9_blk hg4t 2 rfl
    have H4 := Lib.hid (And.intro hg4s (And.intro hob (And.intro hI4 (And.intro hp4 (And.intro hh4 ht4)))))
    clear hg4s hg4t hob hI4 hp4 hh4 ht4
    go_wp2_with fail
    refine bodyPost_ret (results_cellQ rfl _ _ s _ _ (0, 0) _ rfl (set3Q H4.out.1) Tryd.underlying38 rfl (by kernel_rfl)) rfl ?_
    have h34 : TuF (FqB q g u) (FqB q g u) w w4 := (TuF.of H3.out.1).trans H4.out.2.2.2.2.2
    have hfin : TuF (FqB q g u) (FqB q g u) w (((w4.setCell ⟨s, 0, none⟩ (.int .i64 x1)).setCell ⟨s, 1, none⟩ (.int .i64 x2)).setCell ⟨s, 2, none⟩ (.int .i64 x3)) := by
      have h1 := below_set3Q (x := .int .i64 x1) (y := .int .i64 x2) (z := .int .i64 x3) (Below.refl s w4) (Nat.le_refl s)
      refine ⟨h1.os.trans h34.os, h1.tape.trans h34.tape, h1.output.trans h34.output, Nat.le_trans h34.size h1.size, fun k hk hn => (h1.block k (by omega)).trans (h34.block k hk hn), fun _ hk => .inl hk⟩
    have hFF : FqB q g v' = FqB q g u := by
      funext k
      unfold FqB
      rw [H4.out.2.1]
    refine ⟨rfl, FqB q g u, ⟨q, g, v', H', rfl, hFF.symm, H4.out.2.2.1.kept (fun k hk => ?_), H4.out.2.2.2.2.1, (HX.out.2.2.1.pop HX.out.2.1 HP.out).perm H4.out.2.2.2.1, ⟨?_, HX.out.2.2.2.1.2⟩, fun e he => HX.out.2.2.2.2 e (List.mem_of_mem_tail he)⟩, hfin⟩
    · have h1 := below_set3Q (x := .int .i64 x1) (y := .int .i64 x2) (z := .int .i64 x3) (Below.refl s w4) (Nat.le_refl s)
      rw [hFF] at hk
      exact h1.block k (by have := HX.out.1.fp k hk; omega)
    · have h6 := HX.out.2.2.2.1.1
      rw [List.length_tail]
      omega
set_option maxRecDepth 100000 in
set_option maxHeartbeats 4000000 in
theorem npop_any (w : World) : Calls Tryd.prog 13 #[.pointer none] w fun x w' => x = .returned (.tuple #[evV (0, 0, 0), .bool false]) ∧ Below w.heap.size w w' := by
  obtain ⟨s, hs⟩ : ∃ s, w.heap.size = s := ⟨_, rfl⟩
  obtain ⟨w1, hw1⟩ : ∃ W, w.alloc (.cells #[.int .i64 0, .int .i64 0, .int .i64 0] 38) = W := ⟨_, rfl⟩
  have hb1 : Below w.heap.size w w1 := by rw [← hw1]; exact (Below.refl _ _).alloc (Nat.le_refl _) _
  have hg1 : w1.heap[s]? = some (.cells #[.int .i64 0, .int .i64 0, .int .i64 0] 38 (0, 0)) := by rw [← hw1, ← hs]; exact heap_alloc_new w _
  have HF1 := Lib.hid (nfirst_any w1)
  have HG := Lib.hid (And.intro hg1 (And.intro hb1 hs))
  unfold evV at HF1 ⊢
  dsimp only at HF1 ⊢
  clear hb1 hg1
  go_enter Tryd.func13, Tryd.ntmps13
  go_wp2_with fail
  with_reducible refine HF1.out.mono ?_
  rintro e w2 ⟨rfl, hb2⟩
  obtain ⟨w3, hw3⟩ : ∃ W, w2.alloc (.cells #[.int .i64 0, .int .i64 0, .int .i64 0] 38) = W := ⟨_, rfl⟩
  obtain ⟨s2, hs2⟩ : ∃ s, w2.heap.size = s := ⟨_, rfl⟩
  have hb23 : Below w2.heap.size w2 w3 := by rw [← hw3]; exact (Below.refl _ _).alloc (Nat.le_refl _) _
  have hg3 : w3.heap[s2]? = some (.cells #[.int .i64 0, .int .i64 0, .int .i64 0] 38 (0, 0)) := by rw [← hw3, ← hs2]; exact heap_alloc_new w2 _
  have hb13 : Below w.heap.size w w3 := HG.out.2.1.trans ((hb2.trans (hb23.mono hb2.size)).mono HG.out.2.1.size)
  have hg13 : w3.heap[s]? = some (.cells #[.int .i64 0, .int .i64 0, .int .i64 0] 38 (0, 0)) := (hb23.block s (by have h1 := blk9_lt HG.out.1; have h2 := hb2.size; omega)).trans ((hb2.block s (blk9_lt HG.out.1)).trans HG.out.1)
  have r0 := cell9_blk hg13 0 rfl
  have r1 := cell9_blk hg13 1 rfl
  have r2 := cell9_blk hg13 2 rfl
  have f0 := frz9_blk hg13 0
  have f1 := frz9_blk hg13 1
  have f2 := frz9_blk hg13 2
  have d0 := cell9_blk hg3 0 rfl
  have d1 := cell9_blk hg3 1 rfl
  have d2 := cell9_blk hg3 2 rfl
  have H3 := Lib.hid (And.intro hb13 (And.intro hg13 hg3))
  have HW3 := Lib.hid hw3
  clear hb2 hb23 hg3 hb13 hg13 hw1 hw3
  go_upto_region 2 with fail
  rw [HW3.out]
  go_wp2_with fail
  refine bodyPost_ret (results_cellQ rfl _ _ s _ _ (0, 0) _ rfl (set3Q H3.out.2.1) Tryd.underlying38 rfl (by kernel_rfl)) rfl ?_
  exact ⟨rfl, below_set3Q H3.out.1 (by omega)⟩
set_option maxRecDepth 100000 in
set_option maxHeartbeats 4000000 in
theorem drop_any (v : Value) (F : Nat → Prop) (n : Int) (L : List Ev) (k i : Int) (w : World) (hk : In64 k) (hi : In64 i) (h : IsQ w v F n L) :
    Calls Tryd.prog 11 #[v, .int .i64 k, .int .i64 i] w fun x w' => x = .returned (.bool (drE L k i).2) ∧ ∃ F', IsQ w' v F' n (drE L k i).1 ∧ TuF F F' w w' := by
  obtain ⟨q, g, u, H, rfl, rfl, h3, h4, h5, h6, h7⟩ := h
  have hlk := h3.map.look2 hk hi
  have hfd := (h5.fd k i).1
  have c2 := cell9_blk h3.blk 2 rfl
  cases hp : PosE H (k, i) with
  | none =>
    rw [hp] at hlk hfd
    have hno : ¬ 0 ≤ fdE k i L 0 := fun h => by have := hfd.1 h; cases this
    have hdr : drE L k i = (L, false) := if_neg hno
    rw [hdr]
    dsimp only
    replace hlk : (Instr.lookup 54 (.map (some g)) (.agg #[.int .i64 k, .int .i64 i]) true).run Tryd.prog w = .ok (.tuple #[.int .i64 0, .bool false]) w := hlk
    have HX := Lib.hid (And.intro h3 (And.intro h4 (And.intro h5 (And.intro h6 h7))))
    clear h3 h4 h5 h6 h7 hfd hp hno hdr
    go_enter Tryd.func11, Tryd.ntmps11
    go_wp2_with fail
    go_ret
    exact ⟨rfl, FqB q g u, ⟨q, g, u, H, rfl, rfl, HX.out⟩, TuF.refl _⟩
  | some j =>
    rw [hp] at hlk hfd
    have hyes : 0 ≤ fdE k i L 0 := hfd.2 rfl
    obtain ⟨t, ht⟩ : ∃ t : Nat, fdE k i L 0 = t := ⟨(fdE k i L 0).toNat, by omega⟩
    have hdr : drE L k i = (wioE L t, true) := by unfold drE; rw [if_pos hyes, ht, Int.toNat_natCast]
    rw [hdr]
    dsimp only
    replace hlk : (Instr.lookup 54 (.map (some g)) (.agg #[.int .i64 k, .int .i64 i]) true).run Tryd.prog w = .ok (.tuple #[.int .i64 (j : Nat), .bool true]) w := hlk
    obtain ⟨hj, _⟩ := PosE.at_ hp
    have HT := Lib.hid (take_any q g u n H j w h3 hj h4)
    have HX := Lib.hid (And.intro (h5.del hp ht) (And.intro h6 (And.intro h7 (wioE_sub L t))))
    clear h3 h4 h5 h6 h7 hfd hp hyes hdr hj ht
    go_enter Tryd.func11, Tryd.ntmps11
    go_wp2_with fail
    with_reducible refine HT.out.mono ?_
    rintro e w4 ⟨rfl, v', hob, H', hI4, hp4, hh4, ht4⟩
    have H4 := Lib.hid (And.intro hob (And.intro hI4 (And.intro hp4 (And.intro hh4 ht4))))
    clear hob hI4 hp4 hh4 ht4
    go_wp2_with fail
    go_ret
    have hFF : FqB q g v' = FqB q g u := by
      funext k
      unfold FqB
      rw [H4.out.1]
    refine ⟨rfl, FqB q g u, ⟨q, g, v', H', rfl, hFF.symm, H4.out.2.1, H4.out.2.2.2.1, HX.out.1.perm H4.out.2.2.1, ⟨?_, HX.out.2.1.2⟩, fun e he => HX.out.2.2.1 e (HX.out.2.2.2.subset he)⟩, H4.out.2.2.2.2⟩
    have h1 := HX.out.2.2.2.length_le
    have h2 := HX.out.2.1.1
    omega
end Go.Proofs.YtkihfafkglkjnaaDoor

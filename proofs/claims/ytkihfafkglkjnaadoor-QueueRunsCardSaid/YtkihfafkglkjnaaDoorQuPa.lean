/- Layer 15: Is; New, Len, Find, First; nil queues. -/
import Derived.Test.YtkihfafkglkjnaaDoorQuTk
import Derived.Laws.ResultCell
namespace Go.Proofs.YtkihfafkglkjnaaDoor
open Go.RowKit

/-- The queue x has the blocks F, room for n, and holds L. -/
def IsQ (w : World) (x : Value) (F : Nat → Prop) (n : Int) (L : List Ev) : Prop := ∃ q g v H, x = .pointer (some ⟨q, 0, none⟩) ∧ F = FqB q g v ∧ QuI w q g v n H ∧ HeapE H ∧ OrdE H L ∧ ((L.length : Int) ≤ n ∧ n ≤ 65536) ∧ ∀ e ∈ L, badE15 e = false
theorem isQ_kept {w w' : World} {v : Value} {F : Nat → Prop} {n : Int} {L : List Ev} (h : IsQ w v F n L) (hb : ∀ k, F k → w'.heap[k]? = w.heap[k]?) : IsQ w' v F n L := by
  obtain ⟨q, g, u, H, h1, h2, h3, h4⟩ := h
  subst h2
  exact ⟨q, g, u, H, h1, rfl, h3.kept hb, h4⟩
theorem isQ_fp {w : World} {v : Value} {F : Nat → Prop} {n : Int} {L : List Ev} (h : IsQ w v F n L) : ∀ k, F k → k < w.heap.size := by
  obtain ⟨q, g, u, H, h1, rfl, h3, h4⟩ := h
  exact h3.fp
theorem isQ_ptr {w : World} {v : Value} {F : Nat → Prop} {n : Int} {L : List Ev} (h : IsQ w v F n L) : ∃ b, v = .pointer (some ⟨b, 0, none⟩) := by
  obtain ⟨q, g, u, H, h1, _⟩ := h
  exact ⟨q, h1⟩
theorem isQ_len {w : World} {v : Value} {F : Nat → Prop} {n : Int} {L : List Ev} (h : IsQ w v F n L) : (L.length : Int) ≤ n ∧ n ≤ 65536 ∧ SrE L ∧ ∀ e ∈ L, badE15 e = false := by
  obtain ⟨q, g, u, H, h1, rfl, h3, h4, h5, h6, h7⟩ := h
  exact ⟨h6.1, h6.2, h5.sr, h7⟩
theorem isQ_keys {w : World} {v : Value} {F : Nat → Prop} {n : Int} {L : List Ev} (h : IsQ w v F n L) : ∀ e ∈ L, In64 e.2.1 ∧ In64 e.2.2 := by
  obtain ⟨q, g, u, H, h1, rfl, h3, h4, h5, _⟩ := h
  exact fun e he => h3.k64 e (h5.pm.mem_iff.2 he)
theorem results_cellQ {P : Program} {fn : Func} {p u : Tmp} {ty : TypeId} (h : fn.results = #[.cell p ty, .tmp u]) (tmps : Array Value) (w : World) (g : Nat) (t : TypeId) (cs : Array Value) (fr : Nat × Nat) (d : TypeDesc)
    (hp : tmps.getD p undef = .pointer (some ⟨g, 0, none⟩)) (hg : w.heap[g]? = some (.cells cs t fr))
    (hu : P.underlying ty = some d) (hd : (match d with | .struct _ | .array _ _ => true | _ => false) = true) (hi : (P.info? ty).map (·.size) = some cs.size) :
    (results fn tmps).run P w = .ok (.tuple #[.agg cs, tmps.getD u undef]) w := by
  rw [results_cell_tmp h, hp]
  simp [asAddr, run_loadVar_row w g t ty cs fr d hg hu hd hi]
theorem set3Q {w : World} {g : Nat} {a b c x y z : Value} {t : TypeId} (h : w.heap[g]? = some (.cells #[a, b, c] t (0, 0))) : (((w.setCell ⟨g, 0, none⟩ x).setCell ⟨g, 1, none⟩ y).setCell ⟨g, 2, none⟩ z).heap[g]? = some (.cells #[x, y, z] t (0, 0)) :=
  heap_setCell_same _ g 2 _ t z (heap_setCell_same _ g 1 _ t y (heap_setCell_same w g 0 _ t x h))
theorem below_set3Q {w W : World} {B g : Nat} {x y z : Value} (h : Below B w W) (hg : B ≤ g) : Below B w (((W.setCell ⟨g, 0, none⟩ x).setCell ⟨g, 1, none⟩ y).setCell ⟨g, 2, none⟩ z) :=
  ((h.setCell hg x).setCell hg y).setCell hg z
set_option maxRecDepth 100000 in
set_option maxHeartbeats 1000000 in
theorem lenI_any (q g : Nat) (v : Value) (n : Int) (H : List Ev) (w : World) (h : QuI w q g v n H) :
    Calls Tryd.prog 16 #[.pointer (some ⟨q, 0, none⟩)] w fun x w' => x = .returned (.int .i64 (H.length : Nat)) ∧ w' = w := by
  obtain ⟨A, c, rfl, hc, _⟩ := h.form
  have c0 := cell9_blk h.blk 1 rfl
  clear h
  go_enter Tryd.func16, Tryd.ntmps16
  go_wp2_with fail
  go_ret
  exact ⟨rfl, rfl⟩
theorem leng_any (v : Value) (F : Nat → Prop) (n : Int) (L : List Ev) (w : World) (h : IsQ w v F n L) : Calls Tryd.prog 16 #[v] w fun x w' => x = .returned (.int .i64 (L.length : Nat)) ∧ Below w.heap.size w w' := by
  obtain ⟨q, g, u, H, rfl, rfl, h3, h4, h5, _⟩ := h
  refine (lenI_any q g u n H w h3).mono ?_
  rintro x w' ⟨rfl, rfl⟩
  exact ⟨by rw [h5.len], Below.refl _ _⟩
set_option maxRecDepth 100000 in
theorem nlen_any (w : World) : Calls Tryd.prog 16 #[.pointer none] w fun x w' => x = .returned (.int .i64 0) ∧ Below w.heap.size w w' := by
  go_enter Tryd.func16, Tryd.ntmps16
  go_wp2_with fail
  go_ret
  exact ⟨rfl, Below.refl _ _⟩
set_option maxRecDepth 100000 in
theorem nfind_any (k i : Int) (w : World) : Calls Tryd.prog 15 #[.pointer none, .int .i64 k, .int .i64 i] w fun x w' => ∃ a, x = .returned (.tuple #[.int .i64 a, .bool false]) ∧ Below w.heap.size w w' := by
  go_enter Tryd.func15, Tryd.ntmps15
  go_wp2_with fail
  go_ret2
  exact ⟨0, rfl, Below.refl _ _⟩
set_option maxRecDepth 100000 in
theorem ndrop_any (k i : Int) (w : World) : Calls Tryd.prog 11 #[.pointer none, .int .i64 k, .int .i64 i] w fun x w' => x = .returned (.bool false) ∧ Below w.heap.size w w' := by
  go_enter Tryd.func11, Tryd.ntmps11
  go_wp2_with fail
  go_ret
  exact ⟨rfl, Below.refl _ _⟩
set_option maxRecDepth 100000 in
theorem nset_any (e : Ev) (w : World) : Calls Tryd.prog 9 #[.pointer none, evV e] w fun x w' => x = .returned (errE 1) ∧ Below w.heap.size w w' := by
  unfold evV errE errK
  go_enter Tryd.func9, Tryd.ntmps9
  go_wp2_with fail
  go_ret
  exact ⟨rfl, (Below.refl w.heap.size w).alloc (Nat.le_refl _) _⟩
set_option maxRecDepth 100000 in
theorem nlist_any (w : World) : Calls Tryd.prog 18 #[.pointer none] w fun x w' => ∃ u, x = .returned u ∧ RowE w' u [] ∧ Below w.heap.size w w' := by
  go_enter Tryd.func18, Tryd.ntmps18
  go_wp2_with fail
  go_ret
  exact ⟨_, rfl, RowE.nil _, Below.refl _ _⟩
theorem no_any (n : Int) (w : World) (h : n < 1 ∨ 65536 < n) : Calls Tryd.prog 6 #[.int .i64 n] w fun x w' => x = .returned (.tuple #[.pointer none, errE 1]) ∧ Below w.heap.size w w' := by
  unfold errE errK
  rcases (show n < 1 ∨ (¬ n < 1 ∧ 65536 < n) by omega) with h | ⟨h, h2⟩
  all_goals
    go_enter Tryd.func6, Tryd.ntmps6
    go_wp2_with fail
    go_ret2
    exact ⟨rfl, Below.refl _ _⟩
set_option maxRecDepth 100000 in
theorem new_any (n : Int) (w : World) (h1 : 1 ≤ n) (h2 : n ≤ 65536) : Calls Tryd.prog 6 #[.int .i64 n] w fun x w' => ∃ v F, x = .returned (.tuple #[v, .nilIface]) ∧ IsQ w' v F n [] ∧ (∀ k, F k → w.heap.size ≤ k) ∧ Below w.heap.size w w' := by
  have q1 : ¬ n < 1 := by omega
  have q2 : ¬ 65536 < n := by omega
  have hmm := @run_makeMap Tryd.prog
  go_enter Tryd.func6, Tryd.ntmps6
  go_wp2_with fail
  go_ret2
  have hb1 : Below w.heap.size w (w.alloc (.map #[] 0)) := (Below.refl _ _).alloc (Nat.le_refl _) _
  refine ⟨.pointer (some ⟨w.heap.size + 1, 0, none⟩), ?_, FqB (w.heap.size + 1) w.heap.size (.slice none 0 0), ⟨w.heap.size + 1, w.heap.size, .slice none 0 0, [], rfl, rfl, ⟨heap_new2q w _ _, ⟨rfl, .inl ⟨rfl, rfl⟩⟩, ((MapQ.made w).bl ((Below.refl _ _).alloc (Nat.le_refl _) _)).congr (fun x => rfl), by omega, by simp [Value.ownBlock], by simp [Value.ownBlock], List.Pairwise.nil, by simp, by simp⟩, HeapE.nil, OrdE.nil, ⟨by simp; omega, h2⟩, by simp⟩, ?_, hb1.alloc hb1.size _⟩
  · simp
  · rintro k (rfl | rfl | hk)
    · omega
    · omega
    · cases hk
end Go.Proofs.YtkihfafkglkjnaaDoor

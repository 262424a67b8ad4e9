/- Contract: the document's Expand: who is whose member. -/
import Derived.Test.YtkfnbapnkmlopaaDoorGpCk
import Derived.Test.YtkfnbapnkmlopaaDoorGrOr
import Derived.Deep.RegionHeld3
import Derived.StillTailTactics
import Derived.Deep.QuietTactic
import Derived.Deep.Cut
namespace Go.Proofs.YtkfnbapnkmlopaaDoor
open Go.RowKit

def slB (b m : Nat) : Value := .slice (some ⟨b, 0, none⟩) m m
def rwB (m : Nat) (f : Nat → Bool) : Array Value := ((List.range m).map fun k => Value.bool (f k)).toArray
/-- Rows of marks in memory; q of n are laid. -/
structure MxB (W : World) (B G n q m : Nat) (bl : Nat → Nat) (F : Nat → Nat → Bool) : Prop where
  geG : B ≤ G
  blk : W.heap[G]? = some (.cells ((List.range n).map fun i => if i < q then slB (bl i) m else nilS).toArray 50 (0, 0))
  row : ∀ i, i < q → W.heap[bl i]? = some (.cells (rwB m (F i)) 4 (0, 0))
  inj : ∀ i j, i < q → j < q → bl i = bl j → i = j
  ge : ∀ i, i < q → B ≤ bl i
theorem rwB_same {m : Nat} {f f' : Nat → Bool} (h : ∀ k, k < m → f' k = f k) : rwB m f' = rwB m f := by
  unfold rwB
  congr 1
  exact List.map_congr_left fun k hk => by rw [h k (List.mem_range.1 hk)]
section
variable {W W' : World} {B G n q m : Nat} {bl : Nat → Nat} {F : Nat → Nat → Bool}
theorem MxB.ltG (h : MxB W B G n q m bl F) : G < W.heap.size := (Array.getElem?_eq_some_iff.1 h.blk).1
theorem MxB.lt (h : MxB W B G n q m bl F) {i : Nat} (hi : i < q) : bl i < W.heap.size := (Array.getElem?_eq_some_iff.1 (h.row i hi)).1
theorem MxB.neG (h : MxB W B G n q m bl F) {i : Nat} (hi : i < q) : bl i ≠ G := fun e => by
  have h1 := h.row i hi
  rw [e, h.blk] at h1
  injection h1 with h1
  injection h1 with _ h1
  exact absurd h1 (by decide)
theorem MxB.same (h : MxB W B G n q m bl F) {F' : Nat → Nat → Bool} (he : ∀ i k, i < q → k < m → F' i k = F i k) : MxB W B G n q m bl F' :=
  ⟨h.geG, h.blk, fun i hi => by rw [rwB_same (he i · hi)]; exact h.row i hi, h.inj, h.ge⟩
theorem MxB.below (h : MxB W B G n q m bl F) (hb : Below W.heap.size W W') : MxB W' B G n q m bl F :=
  ⟨h.geG, (hb.block G h.ltG).trans h.blk, fun i hi => (hb.block _ (h.lt hi)).trans (h.row i hi), h.inj, h.ge⟩
theorem MxB.kept (h : MxB W B G n q m bl F) (hG : W'.heap[G]? = W.heap[G]?) (hr : ∀ i, i < q → W'.heap[bl i]? = W.heap[bl i]?) : MxB W' B G n q m bl F :=
  ⟨h.geG, hG.trans h.blk, fun i hi => (hr i hi).trans (h.row i hi), h.inj, h.ge⟩
theorem MxB.drew (h : MxB W B G n q m bl F) : MxB W.drew B G n q m bl F := ⟨h.geG, h.blk, h.row, h.inj, h.ge⟩
theorem MxB.ld (h : MxB W B G n q m bl F) {i : Nat} (hq : q ≤ n) (hi : i < q) : W.cell? ⟨G, i, none⟩ = some (slB (bl i) m) :=
  cell9_blk h.blk i (by rw [List.getElem?_toArray, List.getElem?_map, List.getElem?_range (by omega)]; simp [hi])
theorem MxB.at_ (h : MxB W B G n q m bl F) {i k : Nat} (hi : i < q) (hk : k < m) : W.cell? ⟨bl i, k, none⟩ = some (.bool (F i k)) :=
  cell9_blk (h.row i hi) k (by unfold rwB; rw [List.getElem?_toArray, List.getElem?_map, List.getElem?_range hk]; rfl)
theorem MxB.frz (h : MxB W B G n q m bl F) {i : Nat} (hi : i < q) (k : Nat) : W.frozen? ⟨bl i, k, none⟩ = false := frz9_blk (h.row i hi) k
theorem MxB.frG (h : MxB W B G n q m bl F) (k : Nat) : W.frozen? ⟨G, k, none⟩ = false := frz9_blk h.blk k
theorem MxB.set (h : MxB W B G n q m bl F) {i k : Nat} (hi : i < q) (v : Bool) : MxB (W.setCell ⟨bl i, k, none⟩ (.bool v)) B G n q m bl (fun a k' => if a = i ∧ k' = k then v else F a k') := by
  refine ⟨h.geG, (Below.heap_setCell W _ _ G (fun e => h.neG hi e.symm)).trans h.blk, fun a ha => ?_, h.inj, h.ge⟩
  by_cases e : a = i
  · subst e
    rw [heap_setCell_same _ (bl a) k _ _ _ (h.row a hi)]
    congr 2
    unfold rwB
    rw [List.setIfInBounds_toArray]
    congr 1
    apply List.ext_getElem
    · simp
    · intro j h1 h2
      simp only [List.getElem_set, List.getElem_map, List.getElem_range]
      by_cases ek : k = j
      · rw [if_pos ek, if_pos ⟨trivial, ek.symm⟩]
      · rw [if_neg ek, if_neg (fun x => ek x.2.symm)]
  · rw [Below.heap_setCell W _ _ _ (fun x => e (h.inj a i ha hi x)), h.row a ha]
    congr 2
    exact (rwB_same fun k' _ => by rw [if_neg (fun x => e x.1)]).symm
/-- One row more. -/
theorem MxB.lay (h : MxB W B G n q m bl F) (hqn : q < n) (hB : B ≤ W.heap.size) (hb : Below W.heap.size W W') (hnew : W'.heap[W.heap.size]? = some (.cells (rwB m fun _ => false) 4 (0, 0))) :
    MxB (W'.setCell ⟨G, q, none⟩ (slB W.heap.size m)) B G n (q + 1) m (fun i => if i = q then W.heap.size else bl i) (fun a k => if a = q then false else F a k) := by
  have h1 := h.below hb
  have hGs : G ≠ W.heap.size := fun e => by have := h.ltG; omega
  refine ⟨h.geG, ?_, fun i hi => ?_, fun i j hi hj e => ?_, fun i hi => ?_⟩
  · rw [heap_setCell_same _ G q _ _ _ h1.blk]
    congr 2
    rw [List.setIfInBounds_toArray]
    congr 1
    apply List.ext_getElem
    · simp
    · intro j h2 h3
      simp only [List.getElem_set, List.getElem_map, List.getElem_range]
      by_cases e : q = j
      · subst e
        rw [if_pos rfl, if_pos (Nat.lt_succ_self q), if_pos rfl]
      · rw [if_neg e]
        by_cases e2 : j < q
        · rw [if_pos e2, if_pos (by omega), if_neg (fun x => e x.symm)]
        · rw [if_neg e2, if_neg (by omega)]
  · by_cases e : i = q
    · subst e
      rw [if_pos rfl, Below.heap_setCell W' _ _ _ (fun x => hGs x.symm), hnew]
      congr 2
      exact (rwB_same fun k _ => by rw [if_pos rfl]).symm
    · have hiq : i < q := by omega
      rw [if_neg e, Below.heap_setCell W' _ _ _ (h.neG hiq), h1.row i hiq]
      congr 2
      exact (rwB_same fun k _ => by rw [if_neg e]).symm
  · by_cases ei : i = q
    · by_cases ej : j = q
      · omega
      · rw [if_pos ei, if_neg ej] at e
        have := h.lt (i := j) (by omega)
        omega
    · by_cases ej : j = q
      · rw [if_neg ei, if_pos ej] at e
        have := h.lt (i := i) (by omega)
        omega
      · rw [if_neg ei, if_neg ej] at e
        exact h.inj i j (by omega) (by omega) e
  · by_cases ei : i = q
    · rw [if_pos ei]; exact hB
    · rw [if_neg ei]; exact h.ge i (by omega)
end
set_option maxRecDepth 100000 in
theorem mkM_run (n : Nat) (hn : n ≤ 4096) (W : World) : (Instr.makeSlice 72 (.int .i64 (n : Nat)) (.int .i64 (n : Nat))).run Tryd.prog W = .ok (.slice (some ⟨W.heap.size, 0, none⟩) n n) (W.alloc (.cells (List.replicate n nilS).toArray 50)) := by
  have hel : Elem Tryd.prog 72 50 nilS 24 := ⟨Tryd.underlying72, by kernel_rfl, rfl⟩
  have h := run_mk hel (n : Nat) (n : Nat) (by omega) (Int.le_refl _) (by omega) (by omega) W
  rw [h]
  congr 3
  rw [Int.toNat_natCast]
  apply Array.toList_inj.1
  have h2 := toList_madeCells_one nilS n
  rw [show (nilS : Value).cells = #[nilS] from rfl, h2]
set_option maxRecDepth 100000 in
theorem mkR_run (m : Nat) (hm : m ≤ 4096) (W : World) : (Instr.makeSlice 50 (.int .i64 (m : Nat)) (.int .i64 (m : Nat))).run Tryd.prog W = .ok (slB W.heap.size m) (W.alloc (.cells (rwB m fun _ => false) 4)) := by
  have h := run_mk (P := Tryd.prog) elBo (m : Nat) (m : Nat) (by omega) (Int.le_refl _) (by omega) (by omega) W
  rw [h]
  congr 3
  rw [Int.toNat_natCast]
  apply Array.toList_inj.1
  have h2 := toList_madeCells_one (Value.bool false) m
  rw [show (Value.bool false : Value).cells = #[Value.bool false] from rfl, h2]
  unfold rwB
  apply List.ext_getElem
  · simp
  · intro j h1 h2
    simp
theorem MxB.make (W : World) (B n m : Nat) (hB : B ≤ W.heap.size) : MxB (W.alloc (.cells (List.replicate n nilS).toArray 50)) B W.heap.size n 0 m (fun _ => 0) (fun _ _ => false) := by
  refine ⟨hB, ?_, fun i hi => absurd hi (Nat.not_lt_zero i), fun i _ hi => absurd hi (Nat.not_lt_zero i), fun i hi => absurd hi (Nat.not_lt_zero i)⟩
  rw [(MapKept.heap_alloc W _).1]
  congr 3
  apply List.ext_getElem
  · simp
  · intro j h1 h2
    simp
/-- What the first sweep has laid: rows ahead of i whole, of row i k marks. -/
def D1 (g : List Grp) (x : List Itm) (i k a b : Nat) : Bool := if a < i then dirB g x a b else decide (a = i ∧ b < k) && dirB g x a b
/-- What a row has taken over from row t: k marks. -/
def D2 (F : Nat → Nat → Bool) (i t k a b : Nat) : Bool := if a = i ∧ b < k then (F i b || F t b) else F a b
/-- Rows of places, each one's own, in a row of one's own. -/
structure LsO (W : World) (B : Nat) (v : Value) (LL : List (List Nat)) (Z : List Value) : Prop where
  own : W.ownsRow B 48 1 v Z.length Z
  len : Z.length = LL.length
  row : ∀ i u, Z[i]? = some u → W.ownsRow B 3 1 u (LL.getD i []).length ((LL.getD i []).map intC)
/-- A slice of slices of places. -/
def RowLL (w : World) (v : Value) (LL : List (List Nat)) : Prop := ∃ A c, ∃ Z : List Value, v = .slice A LL.length c ∧ LL.length ≤ c ∧ c ≤ maxLen ∧ Rd w A Z ∧ Z.length = LL.length ∧ ∀ i u, Z[i]? = some u → RowN w u (LL.getD i [])
theorem LsO.rowLL {W : World} {B : Nat} {v : Value} {LL : List (List Nat)} {Z : List Value} (h : LsO W B v LL Z) : RowLL W v LL := by
  obtain ⟨A, c, rfl, h1, h2, _, h3, _⟩ := owns_form h.own
  have e := h.len
  exact ⟨A, c, Z, by rw [e], by omega, h2, h3, e, fun i u hu => RowN.owned rfl (h.row i u hu)⟩
theorem own_base {W : World} {B B' : Nat} {e : TypeId} {v : Value} {n : Nat} {xs : List Value} (h : W.ownsRow B e 1 v n xs) (hb : B' ≤ B) : W.ownsRow B' e 1 v n xs := by
  obtain ⟨h1, h2⟩ := h
  refine ⟨h1, h2.imp id ?_⟩
  rintro ⟨g', cap, cur, rfl, hg, rest⟩
  exact ⟨g', cap, cur, rfl, Nat.le_trans hb hg, rest⟩
theorem LsO.nil (W : World) (B : Nat) : LsO W B (.slice none 0 0) [] [] := ⟨⟨rfl, .inl ⟨rfl, rfl⟩⟩, rfl, fun i u h => by simp at h⟩
theorem LsO.below {W W' : World} {B : Nat} {v : Value} {LL : List (List Nat)} {Z : List Value} (h : LsO W B v LL Z) (hb : Below W.heap.size W W') : LsO W' B v LL Z :=
  ⟨own_sameO h.own hb, h.len, fun i u hu => own_sameO (h.row i u hu) hb⟩
theorem LsO.push {W W' : World} {B : Nat} {v v' u : Value} {LL : List (List Nat)} {Z : List Value} {L : List Nat} (h : LsO W B v LL Z) (hu : W.ownsRow B 3 1 u L.length (L.map intC))
    (ho : W'.ownsRow B 48 1 v' (Z.length + 1) (Z ++ [u])) (hg : W.grownBy W' v.ownBlock) : LsO W' B v' (LL ++ [L]) (Z ++ [u]) := by
  have hty : ∀ {y : Value} {n : Nat} {xs : List Value}, W.ownsRow B 3 1 y n xs → ∀ b, y.ownBlock = some b → some b ≠ v.ownBlock := fun hy b hb e => by
    obtain ⟨c1, f1, e1⟩ := own_typed hy b hb
    obtain ⟨c2, f2, e2⟩ := own_typed h.own b e.symm
    rw [e1] at e2
    injection e2 with e2
    injection e2 with _ e2
    exact absurd e2 (by decide)
  have hkeep : ∀ {y : Value} {n : Nat} {xs : List Value}, W.ownsRow B 3 1 y n xs → W'.ownsRow B 3 1 y n xs := fun hy => own_block9 hy fun b hb => hg.block b (hy.lt b hb).2 (hty hy b hb)
  refine ⟨by rw [List.length_append]; exact ho, by rw [List.length_append, List.length_append, h.len]; rfl, fun i y hy => ?_⟩
  by_cases hi : i < Z.length
  · rw [List.getElem?_append_left hi] at hy
    have e : (LL ++ [L]).getD i [] = LL.getD i [] := by
      rw [List.getD_eq_getElem?_getD, List.getD_eq_getElem?_getD, List.getElem?_append_left (by rw [← h.len]; exact hi)]
    rw [e]
    exact hkeep (h.row i y hy)
  · have hi2 : i = Z.length := by
      have := (List.getElem?_eq_some_iff.1 hy).1
      rw [List.length_append, List.length_singleton] at this
      omega
    subst hi2
    have ey : u = y := by simpa using hy
    have e : (LL ++ [L]).getD Z.length [] = L := by
      rw [List.getD_eq_getElem?_getD, h.len, List.getElem?_append_right (Nat.le_refl _), Nat.sub_self]
      rfl
    rw [e, ← ey]
    exact hkeep hu
theorem elL : Elem Tryd.prog 30 48 nilS 24 := ⟨Tryd.underlying30, by kernel_rfl, rfl⟩
theorem exG_len (g : List Grp) (x : List Itm) : (exG g x).length = g.length := by unfold exG; rw [List.length_map, List.length_range]
theorem exG_get {g : List Grp} {x : List Itm} {i : Nat} (h : i < (exG g x).length) : (exG g x)[i] = memL g x i := by
  have h2 : (exG g x)[i]? = some (memL g x i) := by
    have hi : i < g.length := by rw [exG_len] at h; exact h
    unfold exG
    rw [List.getElem?_map, List.getElem?_range hi]
    rfl
  exact Option.some.inj ((List.getElem?_eq_getElem h).symm.trans h2)
theorem memL_lt (g : List Grp) (x : List Itm) (i : Nat) : (memL g x i).Pairwise (· < ·) := by
  unfold memL
  exact List.pairwise_lt_range.filter _
theorem filt_none {L : List Nat} {k : Nat} (h : k ∉ L) : L.filter (fun j => decide (j < k + 1)) = L.filter (fun j => decide (j < k)) := by
  refine List.filter_congr fun j hj => ?_
  rw [decide_eq_decide]
  have : j ≠ k := fun e => h (e ▸ hj)
  omega
theorem filt_more : ∀ {L : List Nat} {k : Nat}, L.Pairwise (· < ·) → k ∈ L → L.filter (fun j => decide (j < k + 1)) = L.filter (fun j => decide (j < k)) ++ [k]
  | a :: L, k, hp, hk => by
    obtain ⟨h1, h2⟩ := List.pairwise_cons.1 hp
    rcases List.mem_cons.1 hk with rfl | hk
    · have e1 : L.filter (fun j => decide (j < k + 1)) = [] := List.filter_eq_nil_iff.2 fun j hj => by have := h1 j hj; simp; omega
      have e2 : L.filter (fun j => decide (j < k)) = [] := List.filter_eq_nil_iff.2 fun j hj => by have := h1 j hj; simp; omega
      rw [List.filter_cons, List.filter_cons, if_pos (by simp), if_neg (by simp), e1, e2]
      rfl
    · have h3 := h1 k hk
      rw [List.filter_cons, List.filter_cons, if_pos (by simp; omega), if_pos (by simp; omega), filt_more h2 hk]
      rfl
set_option maxRecDepth 100000 in
set_option maxHeartbeats 8000000 in
theorem refGEx_any (v u : Value) (g : List Grp) (x : List Itm) (w : World) (hv : RowG w v g) (hu : RowX w u x) (hok : OkG g x) :
    Calls Tryd.prog 14 #[v, u] w fun e w' => ∃ o, e = .returned o ∧ RowLL w' o (exG g x) ∧ Below w.heap.size w w' := by
  obtain ⟨A, c, rfl, hr⟩ := hv.form
  obtain ⟨B, d, rfl, hs⟩ := hu.form
  obtain ⟨n, hn⟩ : ∃ m, g.length = m := ⟨_, rfl⟩
  obtain ⟨m, hm⟩ : ∃ m, x.length = m := ⟨_, rfl⟩
  have hnm : n ≤ 1024 ∧ m ≤ 1024 := by
    have h := hok.full
    unfold fullG at h
    simp only [Bool.or_eq_false_iff, decide_eq_false_iff_not] at h
    omega
  rw [hn] at hr
  rw [hm] at hs
  rw [hn, hm]
  have hokW : Okw n (wyG g) := by rw [← hn]; exact okW hok.no
  have hcy : ¬ Cyc (eM (wyG g)) := by
    rintro ⟨i, hi⟩
    exact hok.lp i (by rw [hn]; exact (hi.lt hokW).1) hi
  have H := Lib.hid (And.intro hr (And.intro hs (And.intro hn (And.intro hm (And.intro hok (And.intro hokW hcy))))))
  have hmkM := mkM_run n (by omega) w
  have hM0 := MxB.make w w.heap.size n m (Nat.le_refl _)
  have hb0 : Below w.heap.size w (w.alloc (.cells (List.replicate n nilS).toArray 50)) := (Below.refl _ _).alloc (Nat.le_refl _) _
  obtain ⟨W0, hW0⟩ : ∃ y, w.alloc (.cells (List.replicate n nilS).toArray 50) = y := ⟨_, rfl⟩
  rw [hW0] at hmkM hM0 hb0
  obtain ⟨G, hG⟩ : ∃ y, w.heap.size = y := ⟨_, rfl⟩
  rw [hG] at hmkM
  rw [hG] at hM0
  have H0 := Lib.hid (And.intro hM0 (And.intro hb0 hG))
  obtain ⟨hn1, hm1⟩ := hnm
  clear hr hs hv hu hn hm hok hokW hcy hM0 hb0 hW0
  go_enter Tryd.func14, Tryd.ntmps14
  go_wp2_with fail
  clear hmkM hG
  go_loopw [6] (fun iv wr => ∃ (i : Nat) (bl : Nat → Nat), iv = .int .i64 i ∧ i ≤ n ∧ Below w.heap.size w wr ∧ MxB wr G G n i m bl (D1 g x i 0)) (fun iv _ => n - (intOf iv).toNat)
  case atStart => exact ⟨0, _, rfl, Nat.zero_le _, H0.out.2.1, H0.out.1.same fun a k ha => absurd ha (Nat.not_lt_zero a)⟩
  case round =>
    obtain ⟨i, bl, rfl, hi, hb, hM⟩ := hrel
    by_cases hin : i < n
    · have q0 : (0 : Int) ≤ i := by omega
      have q1 : (i : Int) < n := by omega
      have hmkR := mkR_run m (by omega) wr
      have hwG : G ≤ wr.heap.size := Nat.le_of_lt hM.ltG
      have hal : Below wr.heap.size wr (wr.alloc (.cells (rwB m fun _ => false) 4)) := (Below.refl _ _).alloc (Nat.le_refl _) _
      have hlay := hM.lay hin hwG hal (MapKept.heap_alloc wr _).1
      have hfG := (hM.below hal).frG i
      have hcG : (wr.alloc (.cells (rwB m fun _ => false) 4)).cell? ⟨G, i, none⟩ = some nilS := cell9_blk (hM.below hal).blk i (by rw [List.getElem?_toArray, List.getElem?_map, List.getElem?_range hin]; simp)
      have hbl : Below w.heap.size w ((wr.alloc (.cells (rwB m fun _ => false) 4)).setCell ⟨G, i, none⟩ (slB wr.heap.size m)) := (hb.trans (hal.mono hb.size)).setCell (by show _ ≤ G; rw [H0.out.2.2]; exact Nat.le_refl _) _
      obtain ⟨b, hbe⟩ : ∃ y, wr.heap.size = y := ⟨_, rfl⟩
      obtain ⟨W1, hW1⟩ : ∃ y, wr.alloc (.cells (rwB m fun _ => false) 4) = y := ⟨_, rfl⟩
      obtain ⟨W2, hW2⟩ : ∃ y, W1.setCell ⟨G, i, none⟩ (slB b m) = y := ⟨_, rfl⟩
      rw [hbe, hW1] at hmkR hlay hbl
      rw [hW1] at hfG hcG
      rw [hW2] at hlay hbl
      have HL := Lib.hid (And.intro hlay hbl)
      unfold slB at hmkR hW2
      clear hM hb hal hlay hbl hbe hW1
      go_wp2_with fail
      clear hmkR hcG hfG
      go_loopw [7] (fun kv wr3 => ∃ k : Nat, kv = .int .i64 k ∧ k ≤ m ∧ Below w.heap.size w wr3 ∧ MxB wr3 G G n (i + 1) m (fun a => if a = i then b else bl a) (D1 g x i k)) (fun kv _ => m - (intOf kv).toNat)
      case atStart =>
        refine ⟨0, rfl, Nat.zero_le _, HL.out.2, HL.out.1.same fun a k ha hk => ?_⟩
        unfold D1
        by_cases e : a = i
        · rw [if_pos e, if_neg (by omega)]
          simp
        · rw [if_neg e]
      case round =>
        obtain ⟨k, rfl, hk, hb, hM⟩ := hrel
        by_cases hkm : k < m
        · have r0 : (0 : Int) ≤ k := by omega
          have r1 : (k : Int) < m := by omega
          obtain ⟨a, ha⟩ : ∃ a, g[i]? = some a := ⟨_, List.getElem?_eq_getElem (by rw [H.out.2.2.1]; exact hin)⟩
          obtain ⟨y, hy⟩ : ∃ y, x[k]? = some y := ⟨_, List.getElem?_eq_getElem (by rw [H.out.2.2.2.1]; exact hkm)⟩
          obtain ⟨ad, X, Am, cm, Ag, cg, hA, hX, k0, k1, _, rm, _⟩ := (H.out.1.below hb).parts.2.2.2 i hin a ha
          obtain ⟨ax, Y, Ay, cy, hBx, hY, y0, y1, ry⟩ := (H.out.2.1.below hb).parts.2.2.2 k hkm y hy
          subst hA hBx
          have HX0 := H.out.1.parts.2.2.2 i hin a ha
          have HY0 := H.out.2.1.parts.2.2.2 k hkm y hy
          have hXw : X.block < w.heap.size := by
            obtain ⟨ad', X', _, _, _, _, e1, e2, e3, _⟩ := HX0
            injection e1 with e1
            subst e1
            rw [hX] at e2
            subst e2
            exact World.block_lt_of_cell? _ _ e3
          have hYw : Y.block < w.heap.size := by
            obtain ⟨ad', X', _, _, e1, e2, e3, _⟩ := HY0
            injection e1 with e1
            subst e1
            rw [hY] at e2
            subst e2
            exact World.block_lt_of_cell? _ _ e3
          clear HX0 HY0
          have hbG : w.heap.size ≤ b := by
            have h1 := hM.ge i (Nat.lt_succ_self i)
            rw [if_pos rfl] at h1
            rw [H0.out.2.2]
            exact h1
          have hbneG : b ≠ G := by
            have h1 := hM.neG (Nat.lt_succ_self i)
            rw [if_pos rfl] at h1
            exact h1
          have cG := hM.ld (by omega) (Nat.lt_succ_self i)
          rw [if_pos rfl] at cG
          unfold slB at cG
          have fR := hM.frz (Nat.lt_succ_self i) k
          rw [if_pos rfl] at fR
          have cR := hM.at_ (Nat.lt_succ_self i) hkm
          rw [if_pos rfl] at cR
          have hset := fun v => hM.set (k := k) (Nat.lt_succ_self i) v
          rw [if_pos rfl] at hset
          have hbs := fun (v : Bool) => hb.setCell (p := ⟨b, k, none⟩) (by show _ ≤ b; exact hbG) (.bool v)
          have hdir : dirB g x i k = (a.2.1.contains y.1 || y.2.contains a.1) := by unfold dirB; rw [ha, hy]; rfl
          have hh1 := fun W (hW : Below wr.heap.size wr W) => refHas_any _ a.2.1 y.1 W (rm.below hW)
          have hh2 := fun W (hW : Below wr.heap.size wr W) => refHas_any _ y.2 a.1 W (ry.below hW)
          obtain ⟨l1, hl1⟩ : ∃ l, a.2.1.length = l := ⟨_, rfl⟩
          obtain ⟨l2, hl2⟩ : ∃ l, y.2.length = l := ⟨_, rfl⟩
          obtain ⟨S1, hS1⟩ : ∃ S, str a.1 = S := ⟨_, rfl⟩
          obtain ⟨S2, hS2⟩ : ∃ S, str y.1 = S := ⟨_, rfl⟩
          obtain ⟨b1, hb1⟩ : ∃ z, a.2.1.contains y.1 = z := ⟨_, rfl⟩
          obtain ⟨b2, hb2⟩ : ∃ z, y.2.contains a.1 = z := ⟨_, rfl⟩
          rw [hl1] at k1 hh1
          rw [hl2] at y1 hh2
          rw [hS1] at k0 hh2
          rw [hS2] at y0 hh1
          rw [hb1] at hh1
          rw [hb2] at hh2
          rw [hb1, hb2] at hdir
          have hdr : Below wr.heap.size wr wr.drew := ⟨rfl, rfl, rfl, Nat.le_refl _, fun _ _ => rfl⟩
          have HH1 := Lib.hid (hh1 wr.drew hdr)
          have HH2 := Lib.hid (hh2 wr.drew hdr)
          have HS0 : Hid (wr.cell? { block := G, off := i } = some (.slice (some { block := b, off := 0 }) m m) ∧ wr.cell? { block := X.block, off := X.off + 1 } = some (.slice Am l1 cm) ∧ wr.cell? Y = some (.string S2) ∧ wr.cell? X = some (.string S1) ∧ wr.cell? { block := Y.block, off := Y.off + 1 } = some (.slice Ay l2 cy)) := Lib.hid ⟨cG, k1, y0, k0, y1⟩
          have HNe := Lib.hid (And.intro (show G ≠ b from fun e => hbneG e.symm) (And.intro (show X.block ≠ b by omega) (show Y.block ≠ b by omega)))
          have hnew : ∀ v, v = dirB g x i k → MxB (wr.setCell ⟨b, k, none⟩ (.bool v)) G G n (i + 1) m (fun a => if a = i then b else bl a) (D1 g x i (k + 1)) := fun v hv => by
            refine (hset v).same fun a' k' ha' hk' => ?_
            unfold D1
            by_cases e : a' = i ∧ k' = k
            · rw [if_pos e, if_neg (by omega), e.1, e.2, hv]
              simp
            · rw [if_neg e]
              by_cases e2 : a' < i
              · rw [if_pos e2, if_pos e2]
              · rw [if_neg e2, if_neg e2]
                have e3 : (a' = i ∧ k' < k + 1) ↔ (a' = i ∧ k' < k) := by omega
                rw [decide_eq_decide.2 e3]
          have HFin := Lib.hid (And.intro hnew (And.intro hbs hdir))
          clear hM hb hset hbs hdir hh1 hh2 rm ry ha hy hl1 hl2 hS1 hS2 hb1 hb2 hnew hXw hYw cG k0 k1 y0 y1
          cases b1 with
          | true =>
            go_upto_region 9 with (fail)
            refine wp_region_noPanic ?_
            refine wp_region_held_drew (S := fun W => W.cell? { block := G, off := i } = some (.slice (some { block := b, off := 0 }) m m) ∧ W.cell? { block := X.block, off := X.off + 1 } = some (.slice Am l1 cm) ∧ W.cell? Y = some (.string S2) ∧ W.cell? X = some (.string S1) ∧ W.cell? { block := Y.block, off := Y.off + 1 } = some (.slice Ay l2 cy)) (by kernel_rfl) HS0.out (fun hHeld => ?_)
            refine' wpAnyH_take (i := 0) (oi := { dst := some 38, op := Go.Op.move (Go.Operand.tmp 5), type := 72, pos := "ref.go:121", after := #[], guard := none }) (v := _) rfl (by kernel_rfl) (by kernel_rfl) (by kernel_rfl) (fun _ _ _ h => h) (Or.inl ⟨by rfl, ?_⟩) (by assumption) ?_
            rotate_left
            · (intro W hSw; go_simp; try with_reducible rfl)
            try simp only [Act.put, List.setIfInBounds_toArray, List.set_cons_zero, List.set_cons_succ]
            refine' wpAnyH_take (i := 1) (oi := { dst := some 39, op := Go.Op.move (Go.Operand.tmp 6), type := 3, pos := "ref.go:121", after := #[], guard := none }) (v := _) rfl (by kernel_rfl) (by kernel_rfl) (by kernel_rfl) (fun _ _ _ h => h) (Or.inl ⟨by rfl, ?_⟩) (by assumption) ?_
            rotate_left
            · (intro W hSw; go_simp; try with_reducible rfl)
            try simp only [Act.put, List.setIfInBounds_toArray, List.set_cons_zero, List.set_cons_succ]
            refine' wpAnyH_take (i := 2) (oi := { dst := some 40, op := Go.Op.indexAddr 72 (Go.Operand.tmp 38) (Go.Operand.tmp 39), type := 0, pos := "ref.go:121", after := #[{ on := 0, ground := Go.Ground.data }, { on := 1, ground := Go.Ground.data }], guard := none }) (v := _) rfl (by kernel_rfl) (by kernel_rfl) (by kernel_rfl) (fun _ _ _ h => h) (Or.inl ⟨by rfl, ?_⟩) (by assumption) ?_
            rotate_left
            · (intro W hSw; go_simp; try with_reducible rfl)
            try simp only [Act.put, List.setIfInBounds_toArray, List.set_cons_zero, List.set_cons_succ]
            refine' wpAnyH_take (i := 3) (oi := { dst := some 41, op := Go.Op.load 50 (Go.Operand.tmp 40), type := 50, pos := "ref.go:121", after := #[{ on := 2, ground := Go.Ground.data }], guard := none }) (v := _) rfl (by kernel_rfl) (by kernel_rfl) (by kernel_rfl) (fun _ _ _ h => h) (Or.inl ⟨by rfl, ?_⟩) (by assumption) ?_
            rotate_left
            · (intro W hSw; obtain ⟨a0, a1, a2, a3, a4⟩ := hSw; go_simp; try with_reducible rfl)
            try simp only [Act.put, List.setIfInBounds_toArray, List.set_cons_zero, List.set_cons_succ]
            refine' wpAnyH_take (i := 4) (oi := { dst := some 42, op := Go.Op.move (Go.Operand.tmp 7), type := 3, pos := "ref.go:121", after := #[], guard := none }) (v := _) rfl (by kernel_rfl) (by kernel_rfl) (by kernel_rfl) (fun _ _ _ h => h) (Or.inl ⟨by rfl, ?_⟩) (by assumption) ?_
            rotate_left
            · (intro W hSw; go_simp; try with_reducible rfl)
            try simp only [Act.put, List.setIfInBounds_toArray, List.set_cons_zero, List.set_cons_succ]
            refine' wpAnyH_take (i := 5) (oi := { dst := some 43, op := Go.Op.move (Go.Operand.tmp 0), type := 22, pos := "ref.go:121", after := #[], guard := none }) (v := _) rfl (by kernel_rfl) (by kernel_rfl) (by kernel_rfl) (fun _ _ _ h => h) (Or.inl ⟨by rfl, ?_⟩) (by assumption) ?_
            rotate_left
            · (intro W hSw; go_simp; try with_reducible rfl)
            try simp only [Act.put, List.setIfInBounds_toArray, List.set_cons_zero, List.set_cons_succ]
            refine' wpAnyH_take (i := 6) (oi := { dst := some 44, op := Go.Op.move (Go.Operand.tmp 6), type := 3, pos := "ref.go:121", after := #[], guard := none }) (v := _) rfl (by kernel_rfl) (by kernel_rfl) (by kernel_rfl) (fun _ _ _ h => h) (Or.inl ⟨by rfl, ?_⟩) (by assumption) ?_
            rotate_left
            · (intro W hSw; go_simp; try with_reducible rfl)
            try simp only [Act.put, List.setIfInBounds_toArray, List.set_cons_zero, List.set_cons_succ]
            refine' wpAnyH_take (i := 7) (oi := { dst := some 45, op := Go.Op.indexAddr 22 (Go.Operand.tmp 43) (Go.Operand.tmp 44), type := 0, pos := "ref.go:121", after := #[{ on := 5, ground := Go.Ground.data }, { on := 6, ground := Go.Ground.data }], guard := none }) (v := _) rfl (by kernel_rfl) (by kernel_rfl) (by kernel_rfl) (fun _ _ _ h => h) (Or.inl ⟨by rfl, ?_⟩) (by assumption) ?_
            rotate_left
            · (intro W hSw; go_simp; try with_reducible rfl)
            try simp only [Act.put, List.setIfInBounds_toArray, List.set_cons_zero, List.set_cons_succ]
            refine' wpAnyH_take (i := 8) (oi := { dst := some 46, op := Go.Op.fieldAddr 53 (Go.Operand.tmp 45) 1, type := 0, pos := "ref.go:121", after := #[{ on := 7, ground := Go.Ground.data }], guard := none }) (v := _) rfl (by kernel_rfl) (by kernel_rfl) (by kernel_rfl) (fun _ _ _ h => h) (Or.inl ⟨by rfl, ?_⟩) (by assumption) ?_
            rotate_left
            · (intro W hSw; go_simp; try with_reducible rfl)
            try simp only [Act.put, List.setIfInBounds_toArray, List.set_cons_zero, List.set_cons_succ]
            refine' wpAnyH_take (i := 9) (oi := { dst := some 47, op := Go.Op.load 43 (Go.Operand.tmp 46), type := 43, pos := "ref.go:121", after := #[{ on := 8, ground := Go.Ground.data }], guard := none }) (v := _) rfl (by kernel_rfl) (by kernel_rfl) (by kernel_rfl) (fun _ _ _ h => h) (Or.inl ⟨by rfl, ?_⟩) (by assumption) ?_
            rotate_left
            · (intro W hSw; obtain ⟨a0, a1, a2, a3, a4⟩ := hSw; go_simp; try with_reducible rfl)
            try simp only [Act.put, List.setIfInBounds_toArray, List.set_cons_zero, List.set_cons_succ]
            refine' wpAnyH_take (i := 10) (oi := { dst := some 48, op := Go.Op.move (Go.Operand.tmp 1), type := 23, pos := "ref.go:121", after := #[], guard := none }) (v := _) rfl (by kernel_rfl) (by kernel_rfl) (by kernel_rfl) (fun _ _ _ h => h) (Or.inl ⟨by rfl, ?_⟩) (by assumption) ?_
            rotate_left
            · (intro W hSw; go_simp; try with_reducible rfl)
            try simp only [Act.put, List.setIfInBounds_toArray, List.set_cons_zero, List.set_cons_succ]
            refine' wpAnyH_take (i := 11) (oi := { dst := some 49, op := Go.Op.move (Go.Operand.tmp 7), type := 3, pos := "ref.go:121", after := #[], guard := none }) (v := _) rfl (by kernel_rfl) (by kernel_rfl) (by kernel_rfl) (fun _ _ _ h => h) (Or.inl ⟨by rfl, ?_⟩) (by assumption) ?_
            rotate_left
            · (intro W hSw; go_simp; try with_reducible rfl)
            try simp only [Act.put, List.setIfInBounds_toArray, List.set_cons_zero, List.set_cons_succ]
            refine' wpAnyH_take (i := 12) (oi := { dst := some 50, op := Go.Op.indexAddr 23 (Go.Operand.tmp 48) (Go.Operand.tmp 49), type := 0, pos := "ref.go:121", after := #[{ on := 10, ground := Go.Ground.data }, { on := 11, ground := Go.Ground.data }], guard := none }) (v := _) rfl (by kernel_rfl) (by kernel_rfl) (by kernel_rfl) (fun _ _ _ h => h) (Or.inl ⟨by rfl, ?_⟩) (by assumption) ?_
            rotate_left
            · (intro W hSw; go_simp; try with_reducible rfl)
            try simp only [Act.put, List.setIfInBounds_toArray, List.set_cons_zero, List.set_cons_succ]
            refine' wpAnyH_take (i := 13) (oi := { dst := some 51, op := Go.Op.fieldAddr 54 (Go.Operand.tmp 50) 0, type := 0, pos := "ref.go:121", after := #[{ on := 12, ground := Go.Ground.data }], guard := none }) (v := _) rfl (by kernel_rfl) (by kernel_rfl) (by kernel_rfl) (fun _ _ _ h => h) (Or.inl ⟨by rfl, ?_⟩) (by assumption) ?_
            rotate_left
            · (intro W hSw; go_simp; try with_reducible rfl)
            try simp only [Act.put, List.setIfInBounds_toArray, List.set_cons_zero, List.set_cons_succ]
            refine' wpAnyH_take (i := 14) (oi := { dst := some 52, op := Go.Op.load 9 (Go.Operand.tmp 51), type := 9, pos := "ref.go:121", after := #[{ on := 13, ground := Go.Ground.data }], guard := none }) (v := _) rfl (by kernel_rfl) (by kernel_rfl) (by kernel_rfl) (fun _ _ _ h => h) (Or.inl ⟨by rfl, ?_⟩) (by assumption) ?_
            rotate_left
            · (intro W hSw; obtain ⟨a0, a1, a2, a3, a4⟩ := hSw; go_simp; try with_reducible rfl)
            try simp only [Act.put, List.setIfInBounds_toArray, List.set_cons_zero, List.set_cons_succ]
            refine wpAnyH_ready (rs := [15]) (by kernel_rfl) (by simp) ?_
            refine AllReadyH.cons (o := { dst := some 53, op := Go.Op.call { callee := Go.Callee.value (Go.Operand.func 26), args := #[Go.Operand.tmp 47, Go.Operand.tmp 52], argTypes := #[43, 9] }, type := 4, pos := "ref.go:121", after := #[{ on := 9, ground := Go.Ground.data }, { on := 14, ground := Go.Ground.data }], guard := none }) rfl (fun K hK => ?_) AllReadyH.nil
            go_simp
            with_reducible refine (HH1.out).mono ?_
            rintro e w9 ⟨rfl, rfl⟩
            clear hHeld
            try go_wp2_with fail
            refine hK.out _ _ HS0.out (fun hHeld => ?_)
            clear hK K
            try simp only [Act.put, List.setIfInBounds_toArray, List.set_cons_zero, List.set_cons_succ]
            refine' wpAnyH_take (i := 16) (oi := { dst := some 54, op := Go.Op.move (Go.Operand.tmp 53), type := 4, pos := "ref.go:121", after := #[{ on := 15, ground := Go.Ground.data }, { on := 15, ground := Go.Ground.chain }], guard := none }) (v := _) rfl (by kernel_rfl) (by kernel_rfl) (by kernel_rfl) (fun _ _ _ h => h) (Or.inl ⟨by rfl, ?_⟩) (by assumption) ?_
            rotate_left
            · (intro W hSw; go_simp; try with_reducible rfl)
            try simp only [Act.put, List.setIfInBounds_toArray, List.set_cons_zero, List.set_cons_succ]
            refine wpAnyH_take (i := 17) (oi := { dst := some 55, op := Go.Op.move (Go.Operand.tmp 1), type := 23, pos := "ref.go:121", after := #[{ on := 16, ground := Go.Ground.guard }], guard := some (16, false) }) (v := undef) rfl (by kernel_rfl) (by kernel_rfl) (by kernel_rfl) (fun _ _ _ h => h) (Or.inr ⟨by rfl, rfl⟩) (by assumption) ?_
            try simp only [Act.put, List.setIfInBounds_toArray, List.set_cons_zero, List.set_cons_succ]
            refine wpAnyH_take (i := 18) (oi := { dst := some 56, op := Go.Op.move (Go.Operand.tmp 7), type := 3, pos := "ref.go:121", after := #[{ on := 16, ground := Go.Ground.guard }], guard := some (16, false) }) (v := undef) rfl (by kernel_rfl) (by kernel_rfl) (by kernel_rfl) (fun _ _ _ h => h) (Or.inr ⟨by rfl, rfl⟩) (by assumption) ?_
            try simp only [Act.put, List.setIfInBounds_toArray, List.set_cons_zero, List.set_cons_succ]
            refine wpAnyH_take (i := 19) (oi := { dst := some 57, op := Go.Op.indexAddr 23 (Go.Operand.tmp 55) (Go.Operand.tmp 56), type := 0, pos := "ref.go:121", after := #[{ on := 17, ground := Go.Ground.data }, { on := 18, ground := Go.Ground.data }, { on := 16, ground := Go.Ground.guard }], guard := some (16, false) }) (v := undef) rfl (by kernel_rfl) (by kernel_rfl) (by kernel_rfl) (fun _ _ _ h => h) (Or.inr ⟨by rfl, rfl⟩) (by assumption) ?_
            try simp only [Act.put, List.setIfInBounds_toArray, List.set_cons_zero, List.set_cons_succ]
            refine wpAnyH_take (i := 20) (oi := { dst := some 58, op := Go.Op.fieldAddr 54 (Go.Operand.tmp 57) 1, type := 0, pos := "ref.go:121", after := #[{ on := 19, ground := Go.Ground.data }, { on := 16, ground := Go.Ground.guard }], guard := some (16, false) }) (v := undef) rfl (by kernel_rfl) (by kernel_rfl) (by kernel_rfl) (fun _ _ _ h => h) (Or.inr ⟨by rfl, rfl⟩) (by assumption) ?_
            try simp only [Act.put, List.setIfInBounds_toArray, List.set_cons_zero, List.set_cons_succ]
            refine wpAnyH_take (i := 21) (oi := { dst := some 59, op := Go.Op.load 43 (Go.Operand.tmp 58), type := 43, pos := "ref.go:121", after := #[{ on := 20, ground := Go.Ground.data }, { on := 16, ground := Go.Ground.guard }], guard := some (16, false) }) (v := undef) rfl (by kernel_rfl) (by kernel_rfl) (by kernel_rfl) (fun _ _ _ h => h) (Or.inr ⟨by rfl, rfl⟩) (by assumption) ?_
            try simp only [Act.put, List.setIfInBounds_toArray, List.set_cons_zero, List.set_cons_succ]
            refine wpAnyH_take (i := 22) (oi := { dst := some 60, op := Go.Op.move (Go.Operand.tmp 0), type := 22, pos := "ref.go:121", after := #[{ on := 16, ground := Go.Ground.guard }], guard := some (16, false) }) (v := undef) rfl (by kernel_rfl) (by kernel_rfl) (by kernel_rfl) (fun _ _ _ h => h) (Or.inr ⟨by rfl, rfl⟩) (by assumption) ?_
            try simp only [Act.put, List.setIfInBounds_toArray, List.set_cons_zero, List.set_cons_succ]
            refine wpAnyH_take (i := 23) (oi := { dst := some 61, op := Go.Op.move (Go.Operand.tmp 6), type := 3, pos := "ref.go:121", after := #[{ on := 16, ground := Go.Ground.guard }], guard := some (16, false) }) (v := undef) rfl (by kernel_rfl) (by kernel_rfl) (by kernel_rfl) (fun _ _ _ h => h) (Or.inr ⟨by rfl, rfl⟩) (by assumption) ?_
            try simp only [Act.put, List.setIfInBounds_toArray, List.set_cons_zero, List.set_cons_succ]
            refine wpAnyH_take (i := 24) (oi := { dst := some 62, op := Go.Op.indexAddr 22 (Go.Operand.tmp 60) (Go.Operand.tmp 61), type := 0, pos := "ref.go:121", after := #[{ on := 22, ground := Go.Ground.data }, { on := 23, ground := Go.Ground.data }, { on := 16, ground := Go.Ground.guard }], guard := some (16, false) }) (v := undef) rfl (by kernel_rfl) (by kernel_rfl) (by kernel_rfl) (fun _ _ _ h => h) (Or.inr ⟨by rfl, rfl⟩) (by assumption) ?_
            try simp only [Act.put, List.setIfInBounds_toArray, List.set_cons_zero, List.set_cons_succ]
            refine wpAnyH_take (i := 25) (oi := { dst := some 63, op := Go.Op.fieldAddr 53 (Go.Operand.tmp 62) 0, type := 0, pos := "ref.go:121", after := #[{ on := 24, ground := Go.Ground.data }, { on := 16, ground := Go.Ground.guard }], guard := some (16, false) }) (v := undef) rfl (by kernel_rfl) (by kernel_rfl) (by kernel_rfl) (fun _ _ _ h => h) (Or.inr ⟨by rfl, rfl⟩) (by assumption) ?_
            try simp only [Act.put, List.setIfInBounds_toArray, List.set_cons_zero, List.set_cons_succ]
            refine wpAnyH_take (i := 26) (oi := { dst := some 64, op := Go.Op.load 9 (Go.Operand.tmp 63), type := 9, pos := "ref.go:121", after := #[{ on := 25, ground := Go.Ground.data }, { on := 16, ground := Go.Ground.guard }], guard := some (16, false) }) (v := undef) rfl (by kernel_rfl) (by kernel_rfl) (by kernel_rfl) (fun _ _ _ h => h) (Or.inr ⟨by rfl, rfl⟩) (by assumption) ?_
            try simp only [Act.put, List.setIfInBounds_toArray, List.set_cons_zero, List.set_cons_succ]
            refine wpAnyH_take (i := 27) (oi := { dst := some 65, op := Go.Op.call { callee := Go.Callee.value (Go.Operand.func 26), args := #[Go.Operand.tmp 59, Go.Operand.tmp 64], argTypes := #[43, 9] }, type := 4, pos := "ref.go:121", after := #[{ on := 21, ground := Go.Ground.data }, { on := 26, ground := Go.Ground.data }, { on := 16, ground := Go.Ground.chain }, { on := 16, ground := Go.Ground.guard }], guard := some (16, false) }) (v := undef) rfl (by kernel_rfl) (by kernel_rfl) (by kernel_rfl) (fun _ _ _ h => h) (Or.inr ⟨by rfl, rfl⟩) (by assumption) ?_
            try simp only [Act.put, List.setIfInBounds_toArray, List.set_cons_zero, List.set_cons_succ]
            refine' wpAnyH_take (i := 28) (oi := { dst := some 66, op := Go.Op.pick (Go.Operand.tmp 54) (Go.Operand.const (Go.Value.bool true)) (Go.Operand.tmp 65), type := 4, pos := "ref.go:121", after := #[{ on := 16, ground := Go.Ground.data }, { on := 27, ground := Go.Ground.data }], guard := none }) (v := _) rfl (by kernel_rfl) (by kernel_rfl) (by kernel_rfl) (fun _ _ _ h => h) (Or.inl ⟨by rfl, ?_⟩) (by assumption) ?_
            rotate_left
            · (intro W hSw; go_simp; try with_reducible rfl)
            try simp only [Act.put, List.setIfInBounds_toArray, List.set_cons_zero, List.set_cons_succ]
            refine' wpAnyH_take (i := 29) (oi := { dst := some 67, op := Go.Op.indexAddr 50 (Go.Operand.tmp 41) (Go.Operand.tmp 42), type := 0, pos := "ref.go:121", after := #[{ on := 3, ground := Go.Ground.data }, { on := 4, ground := Go.Ground.data }, { on := 0, ground := Go.Ground.phase }, { on := 1, ground := Go.Ground.phase }, { on := 2, ground := Go.Ground.phase }, { on := 3, ground := Go.Ground.phase }, { on := 4, ground := Go.Ground.phase }, { on := 5, ground := Go.Ground.phase }, { on := 6, ground := Go.Ground.phase }, { on := 7, ground := Go.Ground.phase }, { on := 8, ground := Go.Ground.phase }, { on := 9, ground := Go.Ground.phase }, { on := 10, ground := Go.Ground.phase }, { on := 11, ground := Go.Ground.phase }, { on := 12, ground := Go.Ground.phase }, { on := 13, ground := Go.Ground.phase }, { on := 14, ground := Go.Ground.phase }, { on := 15, ground := Go.Ground.phase }, { on := 16, ground := Go.Ground.phase }, { on := 17, ground := Go.Ground.phase }, { on := 18, ground := Go.Ground.phase }, { on := 19, ground := Go.Ground.phase }, { on := 20, ground := Go.Ground.phase }, { on := 21, ground := Go.Ground.phase }, { on := 22, ground := Go.Ground.phase }, { on := 23, ground := Go.Ground.phase }, { on := 24, ground := Go.Ground.phase }, { on := 25, ground := Go.Ground.phase }, { on := 26, ground := Go.Ground.phase }, { on := 27, ground := Go.Ground.phase }, { on := 28, ground := Go.Ground.phase }], guard := none }) (v := _) rfl (by kernel_rfl) (by kernel_rfl) (by kernel_rfl) (fun _ _ _ h => h) (Or.inl ⟨by rfl, ?_⟩) (by assumption) ?_
            rotate_left
            · (intro W hSw; go_simp; try with_reducible rfl)
            try simp only [Act.put, List.setIfInBounds_toArray, List.set_cons_zero, List.set_cons_succ]
            refine wpAnyH_ready (rs := [30]) (by kernel_rfl) (by simp) ?_
            refine AllReadyH.cons (o := { dst := none, op := Go.Op.store 4 (Go.Operand.tmp 67) (Go.Operand.tmp 66), type := 0, pos := "ref.go:121", after := #[{ on := 29, ground := Go.Ground.data }, { on := 28, ground := Go.Ground.data }, { on := 27, ground := Go.Ground.chain }, { on := 0, ground := Go.Ground.phase }, { on := 1, ground := Go.Ground.phase }, { on := 2, ground := Go.Ground.phase }, { on := 3, ground := Go.Ground.phase }, { on := 4, ground := Go.Ground.phase }, { on := 5, ground := Go.Ground.phase }, { on := 6, ground := Go.Ground.phase }, { on := 7, ground := Go.Ground.phase }, { on := 8, ground := Go.Ground.phase }, { on := 9, ground := Go.Ground.phase }, { on := 10, ground := Go.Ground.phase }, { on := 11, ground := Go.Ground.phase }, { on := 12, ground := Go.Ground.phase }, { on := 13, ground := Go.Ground.phase }, { on := 14, ground := Go.Ground.phase }, { on := 15, ground := Go.Ground.phase }, { on := 16, ground := Go.Ground.phase }, { on := 17, ground := Go.Ground.phase }, { on := 18, ground := Go.Ground.phase }, { on := 19, ground := Go.Ground.phase }, { on := 20, ground := Go.Ground.phase }, { on := 21, ground := Go.Ground.phase }, { on := 22, ground := Go.Ground.phase }, { on := 23, ground := Go.Ground.phase }, { on := 24, ground := Go.Ground.phase }, { on := 25, ground := Go.Ground.phase }, { on := 26, ground := Go.Ground.phase }, { on := 27, ground := Go.Ground.phase }, { on := 28, ground := Go.Ground.phase }], guard := none }) rfl (fun K hK => ?_) AllReadyH.nil
            go_simp
            refine hK.out _ _ ⟨(World.cell?_of_block (a := ⟨G, i, none⟩) (Below.heap_setCell _ ⟨b, k, none⟩ _ _ HNe.out.1)).trans hHeld.1, (World.cell?_of_block (a := { block := X.block, off := X.off + 1 }) (Below.heap_setCell _ ⟨b, k, none⟩ _ _ HNe.out.2.1)).trans hHeld.2.1, (World.cell?_of_block (a := Y) (Below.heap_setCell _ ⟨b, k, none⟩ _ _ HNe.out.2.2)).trans hHeld.2.2.1, (World.cell?_of_block (a := X) (Below.heap_setCell _ ⟨b, k, none⟩ _ _ HNe.out.2.1)).trans hHeld.2.2.2.1, (World.cell?_of_block (a := { block := Y.block, off := Y.off + 1 }) (Below.heap_setCell _ ⟨b, k, none⟩ _ _ HNe.out.2.2)).trans hHeld.2.2.2.2⟩ (fun hHeld => ?_)
            clear hK K
            try simp only [Act.put, List.setIfInBounds_toArray, List.set_cons_zero, List.set_cons_succ]
            refine wpAnyH_done (by kernel_rfl) ?_ _
            refine NoPanic.normal ?_
            try simp only [Exit.then]
            clear cR fR hHeld
            go_wp2_with fail
            exact ⟨⟨k + 1, by go_num, hkm, (HFin.out.2.1 true).trans (below_dq _ 1), (HFin.out.1 true (by rw [HFin.out.2.2]; rfl)).drew⟩, by simp [intOf]; omega⟩
          | false =>
            go_upto_region 9 with (fail)
            refine wp_region_noPanic ?_
            refine wp_region_held_drew (S := fun W => W.cell? { block := G, off := i } = some (.slice (some { block := b, off := 0 }) m m) ∧ W.cell? { block := X.block, off := X.off + 1 } = some (.slice Am l1 cm) ∧ W.cell? Y = some (.string S2) ∧ W.cell? X = some (.string S1) ∧ W.cell? { block := Y.block, off := Y.off + 1 } = some (.slice Ay l2 cy)) (by kernel_rfl) HS0.out (fun hHeld => ?_)
            refine' wpAnyH_take (i := 0) (oi := { dst := some 38, op := Go.Op.move (Go.Operand.tmp 5), type := 72, pos := "ref.go:121", after := #[], guard := none }) (v := _) rfl (by kernel_rfl) (by kernel_rfl) (by kernel_rfl) (fun _ _ _ h => h) (Or.inl ⟨by rfl, ?_⟩) (by assumption) ?_
            rotate_left
            · (intro W hSw; go_simp; try with_reducible rfl)
            try simp only [Act.put, List.setIfInBounds_toArray, List.set_cons_zero, List.set_cons_succ]
            refine' wpAnyH_take (i := 1) (oi := { dst := some 39, op := Go.Op.move (Go.Operand.tmp 6), type := 3, pos := "ref.go:121", after := #[], guard := none }) (v := _) rfl (by kernel_rfl) (by kernel_rfl) (by kernel_rfl) (fun _ _ _ h => h) (Or.inl ⟨by rfl, ?_⟩) (by assumption) ?_
            rotate_left
            · (intro W hSw; go_simp; try with_reducible rfl)
            try simp only [Act.put, List.setIfInBounds_toArray, List.set_cons_zero, List.set_cons_succ]
            refine' wpAnyH_take (i := 2) (oi := { dst := some 40, op := Go.Op.indexAddr 72 (Go.Operand.tmp 38) (Go.Operand.tmp 39), type := 0, pos := "ref.go:121", after := #[{ on := 0, ground := Go.Ground.data }, { on := 1, ground := Go.Ground.data }], guard := none }) (v := _) rfl (by kernel_rfl) (by kernel_rfl) (by kernel_rfl) (fun _ _ _ h => h) (Or.inl ⟨by rfl, ?_⟩) (by assumption) ?_
            rotate_left
            · (intro W hSw; go_simp; try with_reducible rfl)
            try simp only [Act.put, List.setIfInBounds_toArray, List.set_cons_zero, List.set_cons_succ]
            refine' wpAnyH_take (i := 3) (oi := { dst := some 41, op := Go.Op.load 50 (Go.Operand.tmp 40), type := 50, pos := "ref.go:121", after := #[{ on := 2, ground := Go.Ground.data }], guard := none }) (v := _) rfl (by kernel_rfl) (by kernel_rfl) (by kernel_rfl) (fun _ _ _ h => h) (Or.inl ⟨by rfl, ?_⟩) (by assumption) ?_
            rotate_left
            · (intro W hSw; obtain ⟨a0, a1, a2, a3, a4⟩ := hSw; go_simp; try with_reducible rfl)
            try simp only [Act.put, List.setIfInBounds_toArray, List.set_cons_zero, List.set_cons_succ]
            refine' wpAnyH_take (i := 4) (oi := { dst := some 42, op := Go.Op.move (Go.Operand.tmp 7), type := 3, pos := "ref.go:121", after := #[], guard := none }) (v := _) rfl (by kernel_rfl) (by kernel_rfl) (by kernel_rfl) (fun _ _ _ h => h) (Or.inl ⟨by rfl, ?_⟩) (by assumption) ?_
            rotate_left
            · (intro W hSw; go_simp; try with_reducible rfl)
            try simp only [Act.put, List.setIfInBounds_toArray, List.set_cons_zero, List.set_cons_succ]
            refine' wpAnyH_take (i := 5) (oi := { dst := some 43, op := Go.Op.move (Go.Operand.tmp 0), type := 22, pos := "ref.go:121", after := #[], guard := none }) (v := _) rfl (by kernel_rfl) (by kernel_rfl) (by kernel_rfl) (fun _ _ _ h => h) (Or.inl ⟨by rfl, ?_⟩) (by assumption) ?_
            rotate_left
            · (intro W hSw; go_simp; try with_reducible rfl)
            try simp only [Act.put, List.setIfInBounds_toArray, List.set_cons_zero, List.set_cons_succ]
            refine' wpAnyH_take (i := 6) (oi := { dst := some 44, op := Go.Op.move (Go.Operand.tmp 6), type := 3, pos := "ref.go:121", after := #[], guard := none }) (v := _) rfl (by kernel_rfl) (by kernel_rfl) (by kernel_rfl) (fun _ _ _ h => h) (Or.inl ⟨by rfl, ?_⟩) (by assumption) ?_
            rotate_left
            · (intro W hSw; go_simp; try with_reducible rfl)
            try simp only [Act.put, List.setIfInBounds_toArray, List.set_cons_zero, List.set_cons_succ]
            refine' wpAnyH_take (i := 7) (oi := { dst := some 45, op := Go.Op.indexAddr 22 (Go.Operand.tmp 43) (Go.Operand.tmp 44), type := 0, pos := "ref.go:121", after := #[{ on := 5, ground := Go.Ground.data }, { on := 6, ground := Go.Ground.data }], guard := none }) (v := _) rfl (by kernel_rfl) (by kernel_rfl) (by kernel_rfl) (fun _ _ _ h => h) (Or.inl ⟨by rfl, ?_⟩) (by assumption) ?_
            rotate_left
            · (intro W hSw; go_simp; try with_reducible rfl)
            try simp only [Act.put, List.setIfInBounds_toArray, List.set_cons_zero, List.set_cons_succ]
            refine' wpAnyH_take (i := 8) (oi := { dst := some 46, op := Go.Op.fieldAddr 53 (Go.Operand.tmp 45) 1, type := 0, pos := "ref.go:121", after := #[{ on := 7, ground := Go.Ground.data }], guard := none }) (v := _) rfl (by kernel_rfl) (by kernel_rfl) (by kernel_rfl) (fun _ _ _ h => h) (Or.inl ⟨by rfl, ?_⟩) (by assumption) ?_
            rotate_left
            · (intro W hSw; go_simp; try with_reducible rfl)
            try simp only [Act.put, List.setIfInBounds_toArray, List.set_cons_zero, List.set_cons_succ]
            refine' wpAnyH_take (i := 9) (oi := { dst := some 47, op := Go.Op.load 43 (Go.Operand.tmp 46), type := 43, pos := "ref.go:121", after := #[{ on := 8, ground := Go.Ground.data }], guard := none }) (v := _) rfl (by kernel_rfl) (by kernel_rfl) (by kernel_rfl) (fun _ _ _ h => h) (Or.inl ⟨by rfl, ?_⟩) (by assumption) ?_
            rotate_left
            · (intro W hSw; obtain ⟨a0, a1, a2, a3, a4⟩ := hSw; go_simp; try with_reducible rfl)
            try simp only [Act.put, List.setIfInBounds_toArray, List.set_cons_zero, List.set_cons_succ]
            refine' wpAnyH_take (i := 10) (oi := { dst := some 48, op := Go.Op.move (Go.Operand.tmp 1), type := 23, pos := "ref.go:121", after := #[], guard := none }) (v := _) rfl (by kernel_rfl) (by kernel_rfl) (by kernel_rfl) (fun _ _ _ h => h) (Or.inl ⟨by rfl, ?_⟩) (by assumption) ?_
            rotate_left
            · (intro W hSw; go_simp; try with_reducible rfl)
            try simp only [Act.put, List.setIfInBounds_toArray, List.set_cons_zero, List.set_cons_succ]
            refine' wpAnyH_take (i := 11) (oi := { dst := some 49, op := Go.Op.move (Go.Operand.tmp 7), type := 3, pos := "ref.go:121", after := #[], guard := none }) (v := _) rfl (by kernel_rfl) (by kernel_rfl) (by kernel_rfl) (fun _ _ _ h => h) (Or.inl ⟨by rfl, ?_⟩) (by assumption) ?_
            rotate_left
            · (intro W hSw; go_simp; try with_reducible rfl)
            try simp only [Act.put, List.setIfInBounds_toArray, List.set_cons_zero, List.set_cons_succ]
            refine' wpAnyH_take (i := 12) (oi := { dst := some 50, op := Go.Op.indexAddr 23 (Go.Operand.tmp 48) (Go.Operand.tmp 49), type := 0, pos := "ref.go:121", after := #[{ on := 10, ground := Go.Ground.data }, { on := 11, ground := Go.Ground.data }], guard := none }) (v := _) rfl (by kernel_rfl) (by kernel_rfl) (by kernel_rfl) (fun _ _ _ h => h) (Or.inl ⟨by rfl, ?_⟩) (by assumption) ?_
            rotate_left
            · (intro W hSw; go_simp; try with_reducible rfl)
            try simp only [Act.put, List.setIfInBounds_toArray, List.set_cons_zero, List.set_cons_succ]
            refine' wpAnyH_take (i := 13) (oi := { dst := some 51, op := Go.Op.fieldAddr 54 (Go.Operand.tmp 50) 0, type := 0, pos := "ref.go:121", after := #[{ on := 12, ground := Go.Ground.data }], guard := none }) (v := _) rfl (by kernel_rfl) (by kernel_rfl) (by kernel_rfl) (fun _ _ _ h => h) (Or.inl ⟨by rfl, ?_⟩) (by assumption) ?_
            rotate_left
            · (intro W hSw; go_simp; try with_reducible rfl)
            try simp only [Act.put, List.setIfInBounds_toArray, List.set_cons_zero, List.set_cons_succ]
            refine' wpAnyH_take (i := 14) (oi := { dst := some 52, op := Go.Op.load 9 (Go.Operand.tmp 51), type := 9, pos := "ref.go:121", after := #[{ on := 13, ground := Go.Ground.data }], guard := none }) (v := _) rfl (by kernel_rfl) (by kernel_rfl) (by kernel_rfl) (fun _ _ _ h => h) (Or.inl ⟨by rfl, ?_⟩) (by assumption) ?_
            rotate_left
            · (intro W hSw; obtain ⟨a0, a1, a2, a3, a4⟩ := hSw; go_simp; try with_reducible rfl)
            try simp only [Act.put, List.setIfInBounds_toArray, List.set_cons_zero, List.set_cons_succ]
            refine wpAnyH_ready (rs := [15]) (by kernel_rfl) (by simp) ?_
            refine AllReadyH.cons (o := { dst := some 53, op := Go.Op.call { callee := Go.Callee.value (Go.Operand.func 26), args := #[Go.Operand.tmp 47, Go.Operand.tmp 52], argTypes := #[43, 9] }, type := 4, pos := "ref.go:121", after := #[{ on := 9, ground := Go.Ground.data }, { on := 14, ground := Go.Ground.data }], guard := none }) rfl (fun K hK => ?_) AllReadyH.nil
            go_simp
            with_reducible refine (HH1.out).mono ?_
            rintro e w9 ⟨rfl, rfl⟩
            clear hHeld
            try go_wp2_with fail
            refine hK.out _ _ HS0.out (fun hHeld => ?_)
            clear hK K
            try simp only [Act.put, List.setIfInBounds_toArray, List.set_cons_zero, List.set_cons_succ]
            refine' wpAnyH_take (i := 16) (oi := { dst := some 54, op := Go.Op.move (Go.Operand.tmp 53), type := 4, pos := "ref.go:121", after := #[{ on := 15, ground := Go.Ground.data }, { on := 15, ground := Go.Ground.chain }], guard := none }) (v := _) rfl (by kernel_rfl) (by kernel_rfl) (by kernel_rfl) (fun _ _ _ h => h) (Or.inl ⟨by rfl, ?_⟩) (by assumption) ?_
            rotate_left
            · (intro W hSw; go_simp; try with_reducible rfl)
            try simp only [Act.put, List.setIfInBounds_toArray, List.set_cons_zero, List.set_cons_succ]
            refine' wpAnyH_take (i := 17) (oi := { dst := some 55, op := Go.Op.move (Go.Operand.tmp 1), type := 23, pos := "ref.go:121", after := #[{ on := 16, ground := Go.Ground.guard }], guard := some (16, false) }) (v := _) rfl (by kernel_rfl) (by kernel_rfl) (by kernel_rfl) (fun _ _ _ h => h) (Or.inl ⟨by rfl, ?_⟩) (by assumption) ?_
            rotate_left
            · (intro W hSw; go_simp; try with_reducible rfl)
            try simp only [Act.put, List.setIfInBounds_toArray, List.set_cons_zero, List.set_cons_succ]
            refine' wpAnyH_take (i := 18) (oi := { dst := some 56, op := Go.Op.move (Go.Operand.tmp 7), type := 3, pos := "ref.go:121", after := #[{ on := 16, ground := Go.Ground.guard }], guard := some (16, false) }) (v := _) rfl (by kernel_rfl) (by kernel_rfl) (by kernel_rfl) (fun _ _ _ h => h) (Or.inl ⟨by rfl, ?_⟩) (by assumption) ?_
            rotate_left
            · (intro W hSw; go_simp; try with_reducible rfl)
            try simp only [Act.put, List.setIfInBounds_toArray, List.set_cons_zero, List.set_cons_succ]
            refine' wpAnyH_take (i := 19) (oi := { dst := some 57, op := Go.Op.indexAddr 23 (Go.Operand.tmp 55) (Go.Operand.tmp 56), type := 0, pos := "ref.go:121", after := #[{ on := 17, ground := Go.Ground.data }, { on := 18, ground := Go.Ground.data }, { on := 16, ground := Go.Ground.guard }], guard := some (16, false) }) (v := _) rfl (by kernel_rfl) (by kernel_rfl) (by kernel_rfl) (fun _ _ _ h => h) (Or.inl ⟨by rfl, ?_⟩) (by assumption) ?_
            rotate_left
            · (intro W hSw; go_simp; try with_reducible rfl)
            try simp only [Act.put, List.setIfInBounds_toArray, List.set_cons_zero, List.set_cons_succ]
            refine' wpAnyH_take (i := 20) (oi := { dst := some 58, op := Go.Op.fieldAddr 54 (Go.Operand.tmp 57) 1, type := 0, pos := "ref.go:121", after := #[{ on := 19, ground := Go.Ground.data }, { on := 16, ground := Go.Ground.guard }], guard := some (16, false) }) (v := _) rfl (by kernel_rfl) (by kernel_rfl) (by kernel_rfl) (fun _ _ _ h => h) (Or.inl ⟨by rfl, ?_⟩) (by assumption) ?_
            rotate_left
            · (intro W hSw; go_simp; try with_reducible rfl)
            try simp only [Act.put, List.setIfInBounds_toArray, List.set_cons_zero, List.set_cons_succ]
            refine' wpAnyH_take (i := 21) (oi := { dst := some 59, op := Go.Op.load 43 (Go.Operand.tmp 58), type := 43, pos := "ref.go:121", after := #[{ on := 20, ground := Go.Ground.data }, { on := 16, ground := Go.Ground.guard }], guard := some (16, false) }) (v := _) rfl (by kernel_rfl) (by kernel_rfl) (by kernel_rfl) (fun _ _ _ h => h) (Or.inl ⟨by rfl, ?_⟩) (by assumption) ?_
            rotate_left
            · (intro W hSw; obtain ⟨a0, a1, a2, a3, a4⟩ := hSw; go_simp; try with_reducible rfl)
            try simp only [Act.put, List.setIfInBounds_toArray, List.set_cons_zero, List.set_cons_succ]
            refine' wpAnyH_take (i := 22) (oi := { dst := some 60, op := Go.Op.move (Go.Operand.tmp 0), type := 22, pos := "ref.go:121", after := #[{ on := 16, ground := Go.Ground.guard }], guard := some (16, false) }) (v := _) rfl (by kernel_rfl) (by kernel_rfl) (by kernel_rfl) (fun _ _ _ h => h) (Or.inl ⟨by rfl, ?_⟩) (by assumption) ?_
            rotate_left
            · (intro W hSw; go_simp; try with_reducible rfl)
            try simp only [Act.put, List.setIfInBounds_toArray, List.set_cons_zero, List.set_cons_succ]
            refine' wpAnyH_take (i := 23) (oi := { dst := some 61, op := Go.Op.move (Go.Operand.tmp 6), type := 3, pos := "ref.go:121", after := #[{ on := 16, ground := Go.Ground.guard }], guard := some (16, false) }) (v := _) rfl (by kernel_rfl) (by kernel_rfl) (by kernel_rfl) (fun _ _ _ h => h) (Or.inl ⟨by rfl, ?_⟩) (by assumption) ?_
            rotate_left
            · (intro W hSw; go_simp; try with_reducible rfl)
            try simp only [Act.put, List.setIfInBounds_toArray, List.set_cons_zero, List.set_cons_succ]
            refine' wpAnyH_take (i := 24) (oi := { dst := some 62, op := Go.Op.indexAddr 22 (Go.Operand.tmp 60) (Go.Operand.tmp 61), type := 0, pos := "ref.go:121", after := #[{ on := 22, ground := Go.Ground.data }, { on := 23, ground := Go.Ground.data }, { on := 16, ground := Go.Ground.guard }], guard := some (16, false) }) (v := _) rfl (by kernel_rfl) (by kernel_rfl) (by kernel_rfl) (fun _ _ _ h => h) (Or.inl ⟨by rfl, ?_⟩) (by assumption) ?_
            rotate_left
            · (intro W hSw; go_simp; try with_reducible rfl)
            try simp only [Act.put, List.setIfInBounds_toArray, List.set_cons_zero, List.set_cons_succ]
            refine' wpAnyH_take (i := 25) (oi := { dst := some 63, op := Go.Op.fieldAddr 53 (Go.Operand.tmp 62) 0, type := 0, pos := "ref.go:121", after := #[{ on := 24, ground := Go.Ground.data }, { on := 16, ground := Go.Ground.guard }], guard := some (16, false) }) (v := _) rfl (by kernel_rfl) (by kernel_rfl) (by kernel_rfl) (fun _ _ _ h => h) (Or.inl ⟨by rfl, ?_⟩) (by assumption) ?_
            rotate_left
            · (intro W hSw; go_simp; try with_reducible rfl)
            try simp only [Act.put, List.setIfInBounds_toArray, List.set_cons_zero, List.set_cons_succ]
            refine' wpAnyH_take (i := 26) (oi := { dst := some 64, op := Go.Op.load 9 (Go.Operand.tmp 63), type := 9, pos := "ref.go:121", after := #[{ on := 25, ground := Go.Ground.data }, { on := 16, ground := Go.Ground.guard }], guard := some (16, false) }) (v := _) rfl (by kernel_rfl) (by kernel_rfl) (by kernel_rfl) (fun _ _ _ h => h) (Or.inl ⟨by rfl, ?_⟩) (by assumption) ?_
            rotate_left
            · (intro W hSw; obtain ⟨a0, a1, a2, a3, a4⟩ := hSw; go_simp; try with_reducible rfl)
            try simp only [Act.put, List.setIfInBounds_toArray, List.set_cons_zero, List.set_cons_succ]
            refine wpAnyH_ready (rs := [27]) (by kernel_rfl) (by simp) ?_
            refine AllReadyH.cons (o := { dst := some 65, op := Go.Op.call { callee := Go.Callee.value (Go.Operand.func 26), args := #[Go.Operand.tmp 59, Go.Operand.tmp 64], argTypes := #[43, 9] }, type := 4, pos := "ref.go:121", after := #[{ on := 21, ground := Go.Ground.data }, { on := 26, ground := Go.Ground.data }, { on := 16, ground := Go.Ground.chain }, { on := 16, ground := Go.Ground.guard }], guard := some (16, false) }) rfl (fun K hK => ?_) AllReadyH.nil
            go_simp
            with_reducible refine (HH2.out).mono ?_
            rintro e w9 ⟨rfl, rfl⟩
            clear hHeld
            try go_wp2_with fail
            refine hK.out _ _ HS0.out (fun hHeld => ?_)
            clear hK K
            try simp only [Act.put, List.setIfInBounds_toArray, List.set_cons_zero, List.set_cons_succ]
            refine' wpAnyH_take (i := 28) (oi := { dst := some 66, op := Go.Op.pick (Go.Operand.tmp 54) (Go.Operand.const (Go.Value.bool true)) (Go.Operand.tmp 65), type := 4, pos := "ref.go:121", after := #[{ on := 16, ground := Go.Ground.data }, { on := 27, ground := Go.Ground.data }], guard := none }) (v := _) rfl (by kernel_rfl) (by kernel_rfl) (by kernel_rfl) (fun _ _ _ h => h) (Or.inl ⟨by rfl, ?_⟩) (by assumption) ?_
            rotate_left
            · (intro W hSw; go_simp; try with_reducible rfl)
            try simp only [Act.put, List.setIfInBounds_toArray, List.set_cons_zero, List.set_cons_succ]
            refine' wpAnyH_take (i := 29) (oi := { dst := some 67, op := Go.Op.indexAddr 50 (Go.Operand.tmp 41) (Go.Operand.tmp 42), type := 0, pos := "ref.go:121", after := #[{ on := 3, ground := Go.Ground.data }, { on := 4, ground := Go.Ground.data }, { on := 0, ground := Go.Ground.phase }, { on := 1, ground := Go.Ground.phase }, { on := 2, ground := Go.Ground.phase }, { on := 3, ground := Go.Ground.phase }, { on := 4, ground := Go.Ground.phase }, { on := 5, ground := Go.Ground.phase }, { on := 6, ground := Go.Ground.phase }, { on := 7, ground := Go.Ground.phase }, { on := 8, ground := Go.Ground.phase }, { on := 9, ground := Go.Ground.phase }, { on := 10, ground := Go.Ground.phase }, { on := 11, ground := Go.Ground.phase }, { on := 12, ground := Go.Ground.phase }, { on := 13, ground := Go.Ground.phase }, { on := 14, ground := Go.Ground.phase }, { on := 15, ground := Go.Ground.phase }, { on := 16, ground := Go.Ground.phase }, { on := 17, ground := Go.Ground.phase }, { on := 18, ground := Go.Ground.phase }, { on := 19, ground := Go.Ground.phase }, { on := 20, ground := Go.Ground.phase }, { on := 21, ground := Go.Ground.phase }, { on := 22, ground := Go.Ground.phase }, { on := 23, ground := Go.Ground.phase }, { on := 24, ground := Go.Ground.phase }, { on := 25, ground := Go.Ground.phase }, { on := 26, ground := Go.Ground.phase }, { on := 27, ground := Go.Ground.phase }, { on := 28, ground := Go.Ground.phase }], guard := none }) (v := _) rfl (by kernel_rfl) (by kernel_rfl) (by kernel_rfl) (fun _ _ _ h => h) (Or.inl ⟨by rfl, ?_⟩) (by assumption) ?_
            rotate_left
            · (intro W hSw; go_simp; try with_reducible rfl)
            try simp only [Act.put, List.setIfInBounds_toArray, List.set_cons_zero, List.set_cons_succ]
            refine wpAnyH_ready (rs := [30]) (by kernel_rfl) (by simp) ?_
            refine AllReadyH.cons (o := { dst := none, op := Go.Op.store 4 (Go.Operand.tmp 67) (Go.Operand.tmp 66), type := 0, pos := "ref.go:121", after := #[{ on := 29, ground := Go.Ground.data }, { on := 28, ground := Go.Ground.data }, { on := 27, ground := Go.Ground.chain }, { on := 0, ground := Go.Ground.phase }, { on := 1, ground := Go.Ground.phase }, { on := 2, ground := Go.Ground.phase }, { on := 3, ground := Go.Ground.phase }, { on := 4, ground := Go.Ground.phase }, { on := 5, ground := Go.Ground.phase }, { on := 6, ground := Go.Ground.phase }, { on := 7, ground := Go.Ground.phase }, { on := 8, ground := Go.Ground.phase }, { on := 9, ground := Go.Ground.phase }, { on := 10, ground := Go.Ground.phase }, { on := 11, ground := Go.Ground.phase }, { on := 12, ground := Go.Ground.phase }, { on := 13, ground := Go.Ground.phase }, { on := 14, ground := Go.Ground.phase }, { on := 15, ground := Go.Ground.phase }, { on := 16, ground := Go.Ground.phase }, { on := 17, ground := Go.Ground.phase }, { on := 18, ground := Go.Ground.phase }, { on := 19, ground := Go.Ground.phase }, { on := 20, ground := Go.Ground.phase }, { on := 21, ground := Go.Ground.phase }, { on := 22, ground := Go.Ground.phase }, { on := 23, ground := Go.Ground.phase }, { on := 24, ground := Go.Ground.phase }, { on := 25, ground := Go.Ground.phase }, { on := 26, ground := Go.Ground.phase }, { on := 27, ground := Go.Ground.phase }, { on := 28, ground := Go.Ground.phase }], guard := none }) rfl (fun K hK => ?_) AllReadyH.nil
            go_simp
            refine hK.out _ _ ⟨(World.cell?_of_block (a := ⟨G, i, none⟩) (Below.heap_setCell _ ⟨b, k, none⟩ _ _ HNe.out.1)).trans hHeld.1, (World.cell?_of_block (a := { block := X.block, off := X.off + 1 }) (Below.heap_setCell _ ⟨b, k, none⟩ _ _ HNe.out.2.1)).trans hHeld.2.1, (World.cell?_of_block (a := Y) (Below.heap_setCell _ ⟨b, k, none⟩ _ _ HNe.out.2.2)).trans hHeld.2.2.1, (World.cell?_of_block (a := X) (Below.heap_setCell _ ⟨b, k, none⟩ _ _ HNe.out.2.1)).trans hHeld.2.2.2.1, (World.cell?_of_block (a := { block := Y.block, off := Y.off + 1 }) (Below.heap_setCell _ ⟨b, k, none⟩ _ _ HNe.out.2.2)).trans hHeld.2.2.2.2⟩ (fun hHeld => ?_)
            clear hK K
            try simp only [Act.put, List.setIfInBounds_toArray, List.set_cons_zero, List.set_cons_succ]
            refine wpAnyH_done (by kernel_rfl) ?_ _
            refine NoPanic.normal ?_
            try simp only [Exit.then]
            clear cR fR hHeld
            go_wp2_with fail
            exact ⟨⟨k + 1, by go_num, hkm, (HFin.out.2.1 b2).trans (below_dq _ 1), (HFin.out.1 b2 (by rw [HFin.out.2.2]; rfl)).drew⟩, by simp [intOf]; omega⟩
        · obtain rfl : m = k := by omega
          have r1 : ¬ (m : Int) < m := by omega
          have hM2 : MxB wr G G n (i + 1) m (fun a => if a = i then b else bl a) (D1 g x (i + 1) 0) := hM.same fun a k ha hk => by
            unfold D1
            by_cases e : a < i
            · rw [if_pos e, if_pos (by omega)]
            · rw [if_neg e, if_pos ha, decide_eq_true (show a = i ∧ k < m by omega)]
              rfl
          have HM2 := Lib.hid (And.intro hb hM2)
          clear hb hM hM2
          go_wp2_with fail
          exact ⟨⟨i + 1, _, by go_num, hin, HM2.out.1, HM2.out.2⟩, by simp [intOf]; omega⟩
    · obtain rfl : n = i := by omega
      have q1 : ¬ (n : Int) < n := by omega
      have hR0 : Rex g x 0 0 0 (fun a k => decide (a < n ∧ k < m) && dirB g x a k) := Rex.init g x _ fun a k => by
        rw [Bool.and_eq_true, decide_eq_true_iff, H.out.2.2.1, H.out.2.2.2.1]
        exact and_assoc
      have hM2 : MxB wr G G n n m bl (fun a k => decide (a < n ∧ k < m) && dirB g x a k) := hM.same fun a k ha hk => by
        unfold D1
        rw [if_pos ha, decide_eq_true (And.intro ha hk)]
        rfl
      have HM2 := Lib.hid (And.intro hb (And.intro hM2 hR0))
      clear hb hM hM2 hR0
      go_wp2_with fail
      go_loopw [8] (fun rv W => ∃ (r : Nat) (F : Nat → Nat → Bool), rv = .int .i64 r ∧ r ≤ n ∧ Below w.heap.size w W ∧ MxB W G G n n m bl F ∧ Rex g x r 0 0 F) (fun rv _ => n - (intOf rv).toNat)
      case atStart => exact ⟨0, _, rfl, Nat.zero_le _, HM2.out.1, HM2.out.2.1, HM2.out.2.2⟩
      case round =>
        obtain ⟨r, F0, rfl, hr, hb, hM, hR⟩ := hrel
        by_cases hrn : r < n
        · have r0 : (0 : Int) ≤ r := by omega
          have r1 : (r : Int) < n := by omega
          have HK := Lib.hid (And.intro hb (And.intro hM hR))
          clear hb hM hR
          go_wp2_with fail
          go_loopw [9] (fun iv W => ∃ (i : Nat) (F : Nat → Nat → Bool), iv = .int .i64 i ∧ i ≤ n ∧ Below w.heap.size w W ∧ MxB W G G n n m bl F ∧ Rex g x r i 0 F) (fun iv _ => n - (intOf iv).toNat)
          case atStart => exact ⟨0, F0, rfl, Nat.zero_le _, HK.out.1, HK.out.2.1, HK.out.2.2⟩
          case round =>
            obtain ⟨i, F1, rfl, hi, hb, hM, hR⟩ := hrel
            by_cases hin2 : i < n
            · have i0 : (0 : Int) ≤ i := by omega
              have i1 : (i : Int) < n := by omega
              obtain ⟨a, ha⟩ : ∃ a, g[i]? = some a := ⟨_, List.getElem?_eq_getElem (by rw [H.out.2.2.1]; exact hin2)⟩
              have hparts := fun (W : World) (hW : Below w.heap.size w W) => (H.out.1.below hW).parts.2.2.2 i hin2 a ha
              have heq := eG_at ha
              have hql : (eG g i).length = a.2.2.length := by rw [heq, List.length_map]
              have HB := Lib.hid (And.intro ha (And.intro hparts (And.intro heq hql)))
              have HS := Lib.hid (And.intro hb (And.intro hM hR))
              clear hb hM hR ha hparts heq hql
              go_wp2_with fail
              go_loopw [10] (fun jv W => ∃ (j : Nat) (F : Nat → Nat → Bool), jv = .int .i64 j ∧ j ≤ (eG g i).length ∧ Below w.heap.size w W ∧ MxB W G G n n m bl F ∧ Rex g x r i j F) (fun jv _ => (eG g i).length - (intOf jv).toNat)
              case atStart => exact ⟨0, F1, rfl, Nat.zero_le _, HS.out.1, HS.out.2.1, HS.out.2.2⟩
              case round =>
                obtain ⟨j, F, rfl, hj, hb, hM, hR⟩ := hrel
                obtain ⟨ad, X, Am, cm, Ag, cg, hA, hX, _, _, k2, _, rg⟩ := HB.out.2.1 wr hb
                subst hA
                have hql := HB.out.2.2.2
                obtain ⟨q, hq⟩ : ∃ q, a.2.2.length = q := ⟨_, rfl⟩
                rw [hq] at k2 rg hql
                have hq9 : q ≤ 9223372036854775807 := by
                  have h1 := rg.at9.2.1
                  have h2 := rg.at9.2.2.1
                  unfold maxLen at h2
                  omega
                by_cases hjq : j < q
                · have j0 : (0 : Int) ≤ j := by omega
                  have j1 : (j : Int) < q := by omega
                  obtain ⟨ag, s, rfl, hs, cs⟩ := rg.at9.2.2.2 j hjq
                  have hC := refGrp_any (.slice (some ad) n c) g s wr (H.out.1.below hb)
                  obtain ⟨t, ht⟩ : ∃ t, (eG g i)[j]? = some t := ⟨_, List.getElem?_eq_getElem (by rw [hql]; exact hjq)⟩
                  have htm : t ∈ eG g i := List.mem_of_getElem? ht
                  have htn := (H.out.2.2.2.2.2.1 _ (wyG_mem.2 htm)).2
                  dsimp only at htn
                  have hzt : ixI (gN g) s = (t : Nat) := by
                    have ht2 := ht
                    rw [HB.out.2.2.1, List.getElem?_map, hs] at ht2
                    have h1 : (ixI (gN g) s).toNat = t := Option.some.inj ht2
                    have h2 : 0 ≤ ixI (gN g) s := by
                      have h3 := H.out.2.2.2.2.1.no i (by rw [H.out.2.2.1]; exact hin2)
                      refine Classical.byContradiction fun hneg => ?_
                      rw [non_g HB.out.1 hs (by omega)] at h3
                      cases h3
                    omega
                  rw [hzt] at hC
                  obtain ⟨SB, hSB⟩ : ∃ S, str s = S := ⟨_, rfl⟩
                  rw [hSB] at cs hC
                  have HC := Lib.hid hC
                  have t0 : (0 : Int) ≤ t := by omega
                  have t1 : (t : Int) < n := by omega
                  have HT := Lib.hid (And.intro ht (And.intro hb (And.intro hM (And.intro hR hql))))
                  clear hb hM hR ht htm hzt hs hSB hC rg hq hql hj
                  go_wp2_with fail
                  with_reducible refine HC.out.mono ?_
                  rintro e w9 ⟨rfl, rfl⟩
                  go_wp2_with fail
                  clear cs k2
                  go_loopw [12] (fun kv W => ∃ k : Nat, kv = .int .i64 k ∧ k ≤ m ∧ Below w.heap.size w W ∧ MxB W G G n n m bl (D2 F i t k)) (fun kv _ => m - (intOf kv).toNat)
                  case atStart => exact ⟨0, rfl, Nat.zero_le _, HT.out.2.1, HT.out.2.2.1.same fun a' k' _ _ => by unfold D2; rw [if_neg (fun h => absurd h.2 (Nat.not_lt_zero _))]⟩
                  case round =>
                    obtain ⟨k, rfl, hk, hb, hM⟩ := hrel
                    by_cases hkm : k < m
                    · have s0 : (0 : Int) ≤ k := by omega
                      have s1 : (k : Int) < m := by omega
                      have cGi := hM.ld (Nat.le_refl _) hin2
                      have cGt := hM.ld (Nat.le_refl _) htn
                      unfold slB at cGi cGt
                      have ci := hM.at_ hin2 hkm
                      have ct := hM.at_ htn hkm
                      have fz := hM.frz hin2 k
                      have ei : D2 F i t k i k = F i k := by unfold D2; rw [if_neg (fun h => absurd h.2 (Nat.lt_irrefl _))]
                      have et : D2 F i t k t k = F t k := by unfold D2; rw [if_neg (fun h => absurd h.2 (Nat.lt_irrefl _))]
                      rw [ei] at ci
                      rw [et] at ct
                      have hbi : w.heap.size ≤ bl i := by rw [H0.out.2.2]; exact hM.ge i hin2
                      have hnew : MxB (wr.setCell ⟨bl i, k, none⟩ (.bool (F i k || F t k))) G G n n m bl (D2 F i t (k + 1)) := (hM.set hin2 (k := k) (F i k || F t k)).same fun a' k' _ _ => by
                        unfold D2
                        by_cases e : a' = i ∧ k' = k
                        · rw [if_pos e, e.1, e.2, if_pos ⟨rfl, Nat.lt_succ_self k⟩]
                        · rw [if_neg e]
                          by_cases e2 : a' = i ∧ k' < k
                          · rw [if_pos e2, if_pos ⟨e2.1, by omega⟩]
                          · rw [if_neg e2, if_neg (by omega)]
                      have hbs := hb.setCell (p := ⟨bl i, k, none⟩) hbi (.bool (F i k || F t k))
                      obtain ⟨v1, hv1⟩ : ∃ v, F i k = v := ⟨_, rfl⟩
                      obtain ⟨v2, hv2⟩ : ∃ v, F t k = v := ⟨_, rfl⟩
                      rw [hv1] at ci
                      rw [hv2] at ct
                      rw [hv1, hv2] at hnew hbs
                      have HN := Lib.hid (And.intro hnew hbs)
                      have hti : t ≠ i := fun e => by
                        have h1 := HT.out.1
                        rw [e] at h1
                        exact H.out.2.2.2.2.2.2 ⟨i, .one (eM_wyG.2 (List.mem_of_getElem? h1))⟩
                      have hbb : bl t ≠ bl i := fun e => hti (hM.inj t i htn hin2 e)
                      have hbG : G ≠ bl i := fun e => hM.neG hin2 e.symm
                      obtain ⟨bi, hbie⟩ : ∃ y, bl i = y := ⟨_, rfl⟩
                      obtain ⟨bT, hbte⟩ : ∃ y, bl t = y := ⟨_, rfl⟩
                      rw [hbie] at cGi ci fz HN hbb hbG
                      rw [hbte] at cGt ct hbb
                      have HNe := Lib.hid (And.intro hbG hbb)
                      have HS0 : Hid (wr.cell? { block := G, off := i } = some (.slice (some { block := bi, off := 0 }) m m) ∧ wr.cell? { block := G, off := t } = some (.slice (some { block := bT, off := 0 }) m m) ∧ wr.cell? { block := bT, off := k } = some (.bool v2)) := Lib.hid ⟨cGi, cGt, ct⟩
                      have cid : wr.drew.cell? { block := bi, off := k } = some (.bool v1) := ci
                      clear hM hb ei et hnew hbs hv1 hv2 hbi hbie hbte hti hbb hbG
                      cases v1 with
                      | true =>
                        go_upto_region 23 with (fail)
                        refine wp_region_noPanic ?_
                        refine wp_region_held_drew (S := fun W => W.cell? { block := G, off := i } = some (.slice (some { block := bi, off := 0 }) m m) ∧ W.cell? { block := G, off := t } = some (.slice (some { block := bT, off := 0 }) m m) ∧ W.cell? { block := bT, off := k } = some (.bool v2)) (by kernel_rfl) HS0.out (fun hHeld => ?_)
                        refine' wpAnyH_take (i := 0) (oi := { dst := some 106, op := Go.Op.move (Go.Operand.tmp 5), type := 72, pos := "ref.go:129", after := #[], guard := none }) (v := _) rfl (by kernel_rfl) (by kernel_rfl) (by kernel_rfl) (fun _ _ _ h => h) (Or.inl ⟨by rfl, ?_⟩) (by assumption) ?_
                        rotate_left
                        · (intro W hSw; go_simp; try with_reducible rfl)
                        try simp only [Act.put, List.setIfInBounds_toArray, List.set_cons_zero, List.set_cons_succ]
                        refine' wpAnyH_take (i := 1) (oi := { dst := some 107, op := Go.Op.move (Go.Operand.tmp 9), type := 3, pos := "ref.go:129", after := #[], guard := none }) (v := _) rfl (by kernel_rfl) (by kernel_rfl) (by kernel_rfl) (fun _ _ _ h => h) (Or.inl ⟨by rfl, ?_⟩) (by assumption) ?_
                        rotate_left
                        · (intro W hSw; go_simp; try with_reducible rfl)
                        try simp only [Act.put, List.setIfInBounds_toArray, List.set_cons_zero, List.set_cons_succ]
                        refine' wpAnyH_take (i := 2) (oi := { dst := some 108, op := Go.Op.indexAddr 72 (Go.Operand.tmp 106) (Go.Operand.tmp 107), type := 0, pos := "ref.go:129", after := #[{ on := 0, ground := Go.Ground.data }, { on := 1, ground := Go.Ground.data }], guard := none }) (v := _) rfl (by kernel_rfl) (by kernel_rfl) (by kernel_rfl) (fun _ _ _ h => h) (Or.inl ⟨by rfl, ?_⟩) (by assumption) ?_
                        rotate_left
                        · (intro W hSw; go_simp; try with_reducible rfl)
                        try simp only [Act.put, List.setIfInBounds_toArray, List.set_cons_zero, List.set_cons_succ]
                        refine' wpAnyH_take (i := 3) (oi := { dst := some 109, op := Go.Op.load 50 (Go.Operand.tmp 108), type := 50, pos := "ref.go:129", after := #[{ on := 2, ground := Go.Ground.data }], guard := none }) (v := _) rfl (by kernel_rfl) (by kernel_rfl) (by kernel_rfl) (fun _ _ _ h => h) (Or.inl ⟨by rfl, ?_⟩) (by assumption) ?_
                        rotate_left
                        · (intro W hSw; obtain ⟨a0, a1, a2⟩ := hSw; go_simp; try with_reducible rfl)
                        try simp only [Act.put, List.setIfInBounds_toArray, List.set_cons_zero, List.set_cons_succ]
                        refine' wpAnyH_take (i := 4) (oi := { dst := some 110, op := Go.Op.move (Go.Operand.tmp 12), type := 3, pos := "ref.go:129", after := #[], guard := none }) (v := _) rfl (by kernel_rfl) (by kernel_rfl) (by kernel_rfl) (fun _ _ _ h => h) (Or.inl ⟨by rfl, ?_⟩) (by assumption) ?_
                        rotate_left
                        · (intro W hSw; go_simp; try with_reducible rfl)
                        try simp only [Act.put, List.setIfInBounds_toArray, List.set_cons_zero, List.set_cons_succ]
                        refine' wpAnyH_take (i := 5) (oi := { dst := some 111, op := Go.Op.move (Go.Operand.tmp 5), type := 72, pos := "ref.go:129", after := #[], guard := none }) (v := _) rfl (by kernel_rfl) (by kernel_rfl) (by kernel_rfl) (fun _ _ _ h => h) (Or.inl ⟨by rfl, ?_⟩) (by assumption) ?_
                        rotate_left
                        · (intro W hSw; go_simp; try with_reducible rfl)
                        try simp only [Act.put, List.setIfInBounds_toArray, List.set_cons_zero, List.set_cons_succ]
                        refine' wpAnyH_take (i := 6) (oi := { dst := some 112, op := Go.Op.move (Go.Operand.tmp 9), type := 3, pos := "ref.go:129", after := #[], guard := none }) (v := _) rfl (by kernel_rfl) (by kernel_rfl) (by kernel_rfl) (fun _ _ _ h => h) (Or.inl ⟨by rfl, ?_⟩) (by assumption) ?_
                        rotate_left
                        · (intro W hSw; go_simp; try with_reducible rfl)
                        try simp only [Act.put, List.setIfInBounds_toArray, List.set_cons_zero, List.set_cons_succ]
                        refine' wpAnyH_take (i := 7) (oi := { dst := some 113, op := Go.Op.indexAddr 72 (Go.Operand.tmp 111) (Go.Operand.tmp 112), type := 0, pos := "ref.go:129", after := #[{ on := 5, ground := Go.Ground.data }, { on := 6, ground := Go.Ground.data }], guard := none }) (v := _) rfl (by kernel_rfl) (by kernel_rfl) (by kernel_rfl) (fun _ _ _ h => h) (Or.inl ⟨by rfl, ?_⟩) (by assumption) ?_
                        rotate_left
                        · (intro W hSw; go_simp; try with_reducible rfl)
                        try simp only [Act.put, List.setIfInBounds_toArray, List.set_cons_zero, List.set_cons_succ]
                        refine' wpAnyH_take (i := 8) (oi := { dst := some 114, op := Go.Op.load 50 (Go.Operand.tmp 113), type := 50, pos := "ref.go:129", after := #[{ on := 7, ground := Go.Ground.data }], guard := none }) (v := _) rfl (by kernel_rfl) (by kernel_rfl) (by kernel_rfl) (fun _ _ _ h => h) (Or.inl ⟨by rfl, ?_⟩) (by assumption) ?_
                        rotate_left
                        · (intro W hSw; obtain ⟨a0, a1, a2⟩ := hSw; go_simp; try with_reducible rfl)
                        try simp only [Act.put, List.setIfInBounds_toArray, List.set_cons_zero, List.set_cons_succ]
                        refine' wpAnyH_take (i := 9) (oi := { dst := some 115, op := Go.Op.move (Go.Operand.tmp 12), type := 3, pos := "ref.go:129", after := #[], guard := none }) (v := _) rfl (by kernel_rfl) (by kernel_rfl) (by kernel_rfl) (fun _ _ _ h => h) (Or.inl ⟨by rfl, ?_⟩) (by assumption) ?_
                        rotate_left
                        · (intro W hSw; go_simp; try with_reducible rfl)
                        try simp only [Act.put, List.setIfInBounds_toArray, List.set_cons_zero, List.set_cons_succ]
                        refine' wpAnyH_take (i := 10) (oi := { dst := some 116, op := Go.Op.indexAddr 50 (Go.Operand.tmp 114) (Go.Operand.tmp 115), type := 0, pos := "ref.go:129", after := #[{ on := 8, ground := Go.Ground.data }, { on := 9, ground := Go.Ground.data }], guard := none }) (v := _) rfl (by kernel_rfl) (by kernel_rfl) (by kernel_rfl) (fun _ _ _ h => h) (Or.inl ⟨by rfl, ?_⟩) (by assumption) ?_
                        rotate_left
                        · (intro W hSw; go_simp; try with_reducible rfl)
                        try simp only [Act.put, List.setIfInBounds_toArray, List.set_cons_zero, List.set_cons_succ]
                        refine wpAnyH_ready (rs := [11]) (by kernel_rfl) (by simp) ?_
                        refine AllReadyH.cons (o := { dst := some 117, op := Go.Op.load 4 (Go.Operand.tmp 116), type := 4, pos := "ref.go:129", after := #[{ on := 10, ground := Go.Ground.data }], guard := none }) rfl (fun K hK => ?_) AllReadyH.nil
                        go_simp
                        refine hK.out _ _ hHeld (fun hHeld => ?_)
                        clear hK K
                        try simp only [Act.put, List.setIfInBounds_toArray, List.set_cons_zero, List.set_cons_succ]
                        refine' wpAnyH_take (i := 12) (oi := { dst := some 118, op := Go.Op.move (Go.Operand.tmp 117), type := 4, pos := "ref.go:129", after := #[{ on := 11, ground := Go.Ground.data }], guard := none }) (v := _) rfl (by kernel_rfl) (by kernel_rfl) (by kernel_rfl) (fun _ _ _ h => h) (Or.inl ⟨by rfl, ?_⟩) (by assumption) ?_
                        rotate_left
                        · (intro W hSw; go_simp; try with_reducible rfl)
                        try simp only [Act.put, List.setIfInBounds_toArray, List.set_cons_zero, List.set_cons_succ]
                        refine wpAnyH_take (i := 13) (oi := { dst := some 119, op := Go.Op.move (Go.Operand.tmp 5), type := 72, pos := "ref.go:129", after := #[{ on := 12, ground := Go.Ground.guard }], guard := some (12, false) }) (v := undef) rfl (by kernel_rfl) (by kernel_rfl) (by kernel_rfl) (fun _ _ _ h => h) (Or.inr ⟨by rfl, rfl⟩) (by assumption) ?_
                        try simp only [Act.put, List.setIfInBounds_toArray, List.set_cons_zero, List.set_cons_succ]
                        refine wpAnyH_take (i := 14) (oi := { dst := some 120, op := Go.Op.move (Go.Operand.tmp 11), type := 3, pos := "ref.go:129", after := #[{ on := 12, ground := Go.Ground.guard }], guard := some (12, false) }) (v := undef) rfl (by kernel_rfl) (by kernel_rfl) (by kernel_rfl) (fun _ _ _ h => h) (Or.inr ⟨by rfl, rfl⟩) (by assumption) ?_
                        try simp only [Act.put, List.setIfInBounds_toArray, List.set_cons_zero, List.set_cons_succ]
                        refine wpAnyH_take (i := 15) (oi := { dst := some 121, op := Go.Op.indexAddr 72 (Go.Operand.tmp 119) (Go.Operand.tmp 120), type := 0, pos := "ref.go:129", after := #[{ on := 13, ground := Go.Ground.data }, { on := 14, ground := Go.Ground.data }, { on := 12, ground := Go.Ground.guard }], guard := some (12, false) }) (v := undef) rfl (by kernel_rfl) (by kernel_rfl) (by kernel_rfl) (fun _ _ _ h => h) (Or.inr ⟨by rfl, rfl⟩) (by assumption) ?_
                        try simp only [Act.put, List.setIfInBounds_toArray, List.set_cons_zero, List.set_cons_succ]
                        refine wpAnyH_take (i := 16) (oi := { dst := some 122, op := Go.Op.load 50 (Go.Operand.tmp 121), type := 50, pos := "ref.go:129", after := #[{ on := 15, ground := Go.Ground.data }, { on := 12, ground := Go.Ground.guard }], guard := some (12, false) }) (v := undef) rfl (by kernel_rfl) (by kernel_rfl) (by kernel_rfl) (fun _ _ _ h => h) (Or.inr ⟨by rfl, rfl⟩) (by assumption) ?_
                        try simp only [Act.put, List.setIfInBounds_toArray, List.set_cons_zero, List.set_cons_succ]
                        refine wpAnyH_take (i := 17) (oi := { dst := some 123, op := Go.Op.move (Go.Operand.tmp 12), type := 3, pos := "ref.go:129", after := #[{ on := 12, ground := Go.Ground.guard }], guard := some (12, false) }) (v := undef) rfl (by kernel_rfl) (by kernel_rfl) (by kernel_rfl) (fun _ _ _ h => h) (Or.inr ⟨by rfl, rfl⟩) (by assumption) ?_
                        try simp only [Act.put, List.setIfInBounds_toArray, List.set_cons_zero, List.set_cons_succ]
                        refine wpAnyH_take (i := 18) (oi := { dst := some 124, op := Go.Op.indexAddr 50 (Go.Operand.tmp 122) (Go.Operand.tmp 123), type := 0, pos := "ref.go:129", after := #[{ on := 16, ground := Go.Ground.data }, { on := 17, ground := Go.Ground.data }, { on := 12, ground := Go.Ground.guard }], guard := some (12, false) }) (v := undef) rfl (by kernel_rfl) (by kernel_rfl) (by kernel_rfl) (fun _ _ _ h => h) (Or.inr ⟨by rfl, rfl⟩) (by assumption) ?_
                        try simp only [Act.put, List.setIfInBounds_toArray, List.set_cons_zero, List.set_cons_succ]
                        refine wpAnyH_take (i := 19) (oi := { dst := some 125, op := Go.Op.load 4 (Go.Operand.tmp 124), type := 4, pos := "ref.go:129", after := #[{ on := 18, ground := Go.Ground.data }, { on := 12, ground := Go.Ground.guard }], guard := some (12, false) }) (v := undef) rfl (by kernel_rfl) (by kernel_rfl) (by kernel_rfl) (fun _ _ _ h => h) (Or.inr ⟨by rfl, rfl⟩) (by assumption) ?_
                        try simp only [Act.put, List.setIfInBounds_toArray, List.set_cons_zero, List.set_cons_succ]
                        refine' wpAnyH_take (i := 20) (oi := { dst := some 126, op := Go.Op.pick (Go.Operand.tmp 118) (Go.Operand.const (Go.Value.bool true)) (Go.Operand.tmp 125), type := 4, pos := "ref.go:129", after := #[{ on := 12, ground := Go.Ground.data }, { on := 19, ground := Go.Ground.data }], guard := none }) (v := _) rfl (by kernel_rfl) (by kernel_rfl) (by kernel_rfl) (fun _ _ _ h => h) (Or.inl ⟨by rfl, ?_⟩) (by assumption) ?_
                        rotate_left
                        · (intro W hSw; go_simp; try with_reducible rfl)
                        try simp only [Act.put, List.setIfInBounds_toArray, List.set_cons_zero, List.set_cons_succ]
                        refine' wpAnyH_take (i := 21) (oi := { dst := some 127, op := Go.Op.indexAddr 50 (Go.Operand.tmp 109) (Go.Operand.tmp 110), type := 0, pos := "ref.go:129", after := #[{ on := 3, ground := Go.Ground.data }, { on := 4, ground := Go.Ground.data }, { on := 0, ground := Go.Ground.phase }, { on := 1, ground := Go.Ground.phase }, { on := 2, ground := Go.Ground.phase }, { on := 3, ground := Go.Ground.phase }, { on := 4, ground := Go.Ground.phase }, { on := 5, ground := Go.Ground.phase }, { on := 6, ground := Go.Ground.phase }, { on := 7, ground := Go.Ground.phase }, { on := 8, ground := Go.Ground.phase }, { on := 9, ground := Go.Ground.phase }, { on := 10, ground := Go.Ground.phase }, { on := 11, ground := Go.Ground.phase }, { on := 12, ground := Go.Ground.phase }, { on := 13, ground := Go.Ground.phase }, { on := 14, ground := Go.Ground.phase }, { on := 15, ground := Go.Ground.phase }, { on := 16, ground := Go.Ground.phase }, { on := 17, ground := Go.Ground.phase }, { on := 18, ground := Go.Ground.phase }, { on := 19, ground := Go.Ground.phase }, { on := 20, ground := Go.Ground.phase }], guard := none }) (v := _) rfl (by kernel_rfl) (by kernel_rfl) (by kernel_rfl) (fun _ _ _ h => h) (Or.inl ⟨by rfl, ?_⟩) (by assumption) ?_
                        rotate_left
                        · (intro W hSw; go_simp; try with_reducible rfl)
                        try simp only [Act.put, List.setIfInBounds_toArray, List.set_cons_zero, List.set_cons_succ]
                        refine wpAnyH_ready (rs := [22]) (by kernel_rfl) (by simp) ?_
                        refine AllReadyH.cons (o := { dst := none, op := Go.Op.store 4 (Go.Operand.tmp 127) (Go.Operand.tmp 126), type := 0, pos := "ref.go:129", after := #[{ on := 21, ground := Go.Ground.data }, { on := 20, ground := Go.Ground.data }, { on := 12, ground := Go.Ground.chain }, { on := 0, ground := Go.Ground.phase }, { on := 1, ground := Go.Ground.phase }, { on := 2, ground := Go.Ground.phase }, { on := 3, ground := Go.Ground.phase }, { on := 4, ground := Go.Ground.phase }, { on := 5, ground := Go.Ground.phase }, { on := 6, ground := Go.Ground.phase }, { on := 7, ground := Go.Ground.phase }, { on := 8, ground := Go.Ground.phase }, { on := 9, ground := Go.Ground.phase }, { on := 10, ground := Go.Ground.phase }, { on := 11, ground := Go.Ground.phase }, { on := 12, ground := Go.Ground.phase }, { on := 13, ground := Go.Ground.phase }, { on := 14, ground := Go.Ground.phase }, { on := 15, ground := Go.Ground.phase }, { on := 16, ground := Go.Ground.phase }, { on := 17, ground := Go.Ground.phase }, { on := 18, ground := Go.Ground.phase }, { on := 19, ground := Go.Ground.phase }, { on := 20, ground := Go.Ground.phase }], guard := none }) rfl (fun K hK => ?_) AllReadyH.nil
                        go_simp
                        refine hK.out _ _ ⟨(World.cell?_of_block (a := ⟨G, i, none⟩) (Below.heap_setCell _ ⟨bi, k, none⟩ _ _ HNe.out.1)).trans hHeld.1, (World.cell?_of_block (a := ⟨G, t, none⟩) (Below.heap_setCell _ ⟨bi, k, none⟩ _ _ HNe.out.1)).trans hHeld.2.1, (World.cell?_of_block (a := ⟨bT, k, none⟩) (Below.heap_setCell _ ⟨bi, k, none⟩ _ _ HNe.out.2)).trans hHeld.2.2⟩ (fun hHeld => ?_)
                        clear hK K
                        try simp only [Act.put, List.setIfInBounds_toArray, List.set_cons_zero, List.set_cons_succ]
                        refine wpAnyH_done (by kernel_rfl) ?_ _
                        refine NoPanic.normal ?_
                        try simp only [Exit.then]
                        clear ci cid fz hHeld
                        go_wp2_with fail
                        exact ⟨⟨k + 1, by go_num, hkm, HN.out.2.trans (below_dq _ 1), HN.out.1.drew⟩, by simp [intOf]; omega⟩
                      | false =>
                        go_upto_region 23 with (fail)
                        refine wp_region_noPanic ?_
                        refine wp_region_held_drew (S := fun W => W.cell? { block := G, off := i } = some (.slice (some { block := bi, off := 0 }) m m) ∧ W.cell? { block := G, off := t } = some (.slice (some { block := bT, off := 0 }) m m) ∧ W.cell? { block := bT, off := k } = some (.bool v2)) (by kernel_rfl) HS0.out (fun hHeld => ?_)
                        refine' wpAnyH_take (i := 0) (oi := { dst := some 106, op := Go.Op.move (Go.Operand.tmp 5), type := 72, pos := "ref.go:129", after := #[], guard := none }) (v := _) rfl (by kernel_rfl) (by kernel_rfl) (by kernel_rfl) (fun _ _ _ h => h) (Or.inl ⟨by rfl, ?_⟩) (by assumption) ?_
                        rotate_left
                        · (intro W hSw; go_simp; try with_reducible rfl)
                        try simp only [Act.put, List.setIfInBounds_toArray, List.set_cons_zero, List.set_cons_succ]
                        refine' wpAnyH_take (i := 1) (oi := { dst := some 107, op := Go.Op.move (Go.Operand.tmp 9), type := 3, pos := "ref.go:129", after := #[], guard := none }) (v := _) rfl (by kernel_rfl) (by kernel_rfl) (by kernel_rfl) (fun _ _ _ h => h) (Or.inl ⟨by rfl, ?_⟩) (by assumption) ?_
                        rotate_left
                        · (intro W hSw; go_simp; try with_reducible rfl)
                        try simp only [Act.put, List.setIfInBounds_toArray, List.set_cons_zero, List.set_cons_succ]
                        refine' wpAnyH_take (i := 2) (oi := { dst := some 108, op := Go.Op.indexAddr 72 (Go.Operand.tmp 106) (Go.Operand.tmp 107), type := 0, pos := "ref.go:129", after := #[{ on := 0, ground := Go.Ground.data }, { on := 1, ground := Go.Ground.data }], guard := none }) (v := _) rfl (by kernel_rfl) (by kernel_rfl) (by kernel_rfl) (fun _ _ _ h => h) (Or.inl ⟨by rfl, ?_⟩) (by assumption) ?_
                        rotate_left
                        · (intro W hSw; go_simp; try with_reducible rfl)
                        try simp only [Act.put, List.setIfInBounds_toArray, List.set_cons_zero, List.set_cons_succ]
                        refine' wpAnyH_take (i := 3) (oi := { dst := some 109, op := Go.Op.load 50 (Go.Operand.tmp 108), type := 50, pos := "ref.go:129", after := #[{ on := 2, ground := Go.Ground.data }], guard := none }) (v := _) rfl (by kernel_rfl) (by kernel_rfl) (by kernel_rfl) (fun _ _ _ h => h) (Or.inl ⟨by rfl, ?_⟩) (by assumption) ?_
                        rotate_left
                        · (intro W hSw; obtain ⟨a0, a1, a2⟩ := hSw; go_simp; try with_reducible rfl)
                        try simp only [Act.put, List.setIfInBounds_toArray, List.set_cons_zero, List.set_cons_succ]
                        refine' wpAnyH_take (i := 4) (oi := { dst := some 110, op := Go.Op.move (Go.Operand.tmp 12), type := 3, pos := "ref.go:129", after := #[], guard := none }) (v := _) rfl (by kernel_rfl) (by kernel_rfl) (by kernel_rfl) (fun _ _ _ h => h) (Or.inl ⟨by rfl, ?_⟩) (by assumption) ?_
                        rotate_left
                        · (intro W hSw; go_simp; try with_reducible rfl)
                        try simp only [Act.put, List.setIfInBounds_toArray, List.set_cons_zero, List.set_cons_succ]
                        refine' wpAnyH_take (i := 5) (oi := { dst := some 111, op := Go.Op.move (Go.Operand.tmp 5), type := 72, pos := "ref.go:129", after := #[], guard := none }) (v := _) rfl (by kernel_rfl) (by kernel_rfl) (by kernel_rfl) (fun _ _ _ h => h) (Or.inl ⟨by rfl, ?_⟩) (by assumption) ?_
                        rotate_left
                        · (intro W hSw; go_simp; try with_reducible rfl)
                        try simp only [Act.put, List.setIfInBounds_toArray, List.set_cons_zero, List.set_cons_succ]
                        refine' wpAnyH_take (i := 6) (oi := { dst := some 112, op := Go.Op.move (Go.Operand.tmp 9), type := 3, pos := "ref.go:129", after := #[], guard := none }) (v := _) rfl (by kernel_rfl) (by kernel_rfl) (by kernel_rfl) (fun _ _ _ h => h) (Or.inl ⟨by rfl, ?_⟩) (by assumption) ?_
                        rotate_left
                        · (intro W hSw; go_simp; try with_reducible rfl)
                        try simp only [Act.put, List.setIfInBounds_toArray, List.set_cons_zero, List.set_cons_succ]
                        refine' wpAnyH_take (i := 7) (oi := { dst := some 113, op := Go.Op.indexAddr 72 (Go.Operand.tmp 111) (Go.Operand.tmp 112), type := 0, pos := "ref.go:129", after := #[{ on := 5, ground := Go.Ground.data }, { on := 6, ground := Go.Ground.data }], guard := none }) (v := _) rfl (by kernel_rfl) (by kernel_rfl) (by kernel_rfl) (fun _ _ _ h => h) (Or.inl ⟨by rfl, ?_⟩) (by assumption) ?_
                        rotate_left
                        · (intro W hSw; go_simp; try with_reducible rfl)
                        try simp only [Act.put, List.setIfInBounds_toArray, List.set_cons_zero, List.set_cons_succ]
                        refine' wpAnyH_take (i := 8) (oi := { dst := some 114, op := Go.Op.load 50 (Go.Operand.tmp 113), type := 50, pos := "ref.go:129", after := #[{ on := 7, ground := Go.Ground.data }], guard := none }) (v := _) rfl (by kernel_rfl) (by kernel_rfl) (by kernel_rfl) (fun _ _ _ h => h) (Or.inl ⟨by rfl, ?_⟩) (by assumption) ?_
                        rotate_left
                        · (intro W hSw; obtain ⟨a0, a1, a2⟩ := hSw; go_simp; try with_reducible rfl)
                        try simp only [Act.put, List.setIfInBounds_toArray, List.set_cons_zero, List.set_cons_succ]
                        refine' wpAnyH_take (i := 9) (oi := { dst := some 115, op := Go.Op.move (Go.Operand.tmp 12), type := 3, pos := "ref.go:129", after := #[], guard := none }) (v := _) rfl (by kernel_rfl) (by kernel_rfl) (by kernel_rfl) (fun _ _ _ h => h) (Or.inl ⟨by rfl, ?_⟩) (by assumption) ?_
                        rotate_left
                        · (intro W hSw; go_simp; try with_reducible rfl)
                        try simp only [Act.put, List.setIfInBounds_toArray, List.set_cons_zero, List.set_cons_succ]
                        refine' wpAnyH_take (i := 10) (oi := { dst := some 116, op := Go.Op.indexAddr 50 (Go.Operand.tmp 114) (Go.Operand.tmp 115), type := 0, pos := "ref.go:129", after := #[{ on := 8, ground := Go.Ground.data }, { on := 9, ground := Go.Ground.data }], guard := none }) (v := _) rfl (by kernel_rfl) (by kernel_rfl) (by kernel_rfl) (fun _ _ _ h => h) (Or.inl ⟨by rfl, ?_⟩) (by assumption) ?_
                        rotate_left
                        · (intro W hSw; go_simp; try with_reducible rfl)
                        try simp only [Act.put, List.setIfInBounds_toArray, List.set_cons_zero, List.set_cons_succ]
                        refine wpAnyH_ready (rs := [11]) (by kernel_rfl) (by simp) ?_
                        refine AllReadyH.cons (o := { dst := some 117, op := Go.Op.load 4 (Go.Operand.tmp 116), type := 4, pos := "ref.go:129", after := #[{ on := 10, ground := Go.Ground.data }], guard := none }) rfl (fun K hK => ?_) AllReadyH.nil
                        go_simp
                        refine hK.out _ _ hHeld (fun hHeld => ?_)
                        clear hK K
                        try simp only [Act.put, List.setIfInBounds_toArray, List.set_cons_zero, List.set_cons_succ]
                        refine' wpAnyH_take (i := 12) (oi := { dst := some 118, op := Go.Op.move (Go.Operand.tmp 117), type := 4, pos := "ref.go:129", after := #[{ on := 11, ground := Go.Ground.data }], guard := none }) (v := _) rfl (by kernel_rfl) (by kernel_rfl) (by kernel_rfl) (fun _ _ _ h => h) (Or.inl ⟨by rfl, ?_⟩) (by assumption) ?_
                        rotate_left
                        · (intro W hSw; go_simp; try with_reducible rfl)
                        try simp only [Act.put, List.setIfInBounds_toArray, List.set_cons_zero, List.set_cons_succ]
                        refine' wpAnyH_take (i := 13) (oi := { dst := some 119, op := Go.Op.move (Go.Operand.tmp 5), type := 72, pos := "ref.go:129", after := #[{ on := 12, ground := Go.Ground.guard }], guard := some (12, false) }) (v := _) rfl (by kernel_rfl) (by kernel_rfl) (by kernel_rfl) (fun _ _ _ h => h) (Or.inl ⟨by rfl, ?_⟩) (by assumption) ?_
                        rotate_left
                        · (intro W hSw; go_simp; try with_reducible rfl)
                        try simp only [Act.put, List.setIfInBounds_toArray, List.set_cons_zero, List.set_cons_succ]
                        refine' wpAnyH_take (i := 14) (oi := { dst := some 120, op := Go.Op.move (Go.Operand.tmp 11), type := 3, pos := "ref.go:129", after := #[{ on := 12, ground := Go.Ground.guard }], guard := some (12, false) }) (v := _) rfl (by kernel_rfl) (by kernel_rfl) (by kernel_rfl) (fun _ _ _ h => h) (Or.inl ⟨by rfl, ?_⟩) (by assumption) ?_
                        rotate_left
                        · (intro W hSw; go_simp; try with_reducible rfl)
                        try simp only [Act.put, List.setIfInBounds_toArray, List.set_cons_zero, List.set_cons_succ]
                        refine' wpAnyH_take (i := 15) (oi := { dst := some 121, op := Go.Op.indexAddr 72 (Go.Operand.tmp 119) (Go.Operand.tmp 120), type := 0, pos := "ref.go:129", after := #[{ on := 13, ground := Go.Ground.data }, { on := 14, ground := Go.Ground.data }, { on := 12, ground := Go.Ground.guard }], guard := some (12, false) }) (v := _) rfl (by kernel_rfl) (by kernel_rfl) (by kernel_rfl) (fun _ _ _ h => h) (Or.inl ⟨by rfl, ?_⟩) (by assumption) ?_
                        rotate_left
                        · (intro W hSw; go_simp; try with_reducible rfl)
                        try simp only [Act.put, List.setIfInBounds_toArray, List.set_cons_zero, List.set_cons_succ]
                        refine' wpAnyH_take (i := 16) (oi := { dst := some 122, op := Go.Op.load 50 (Go.Operand.tmp 121), type := 50, pos := "ref.go:129", after := #[{ on := 15, ground := Go.Ground.data }, { on := 12, ground := Go.Ground.guard }], guard := some (12, false) }) (v := _) rfl (by kernel_rfl) (by kernel_rfl) (by kernel_rfl) (fun _ _ _ h => h) (Or.inl ⟨by rfl, ?_⟩) (by assumption) ?_
                        rotate_left
                        · (intro W hSw; obtain ⟨a0, a1, a2⟩ := hSw; go_simp; try with_reducible rfl)
                        try simp only [Act.put, List.setIfInBounds_toArray, List.set_cons_zero, List.set_cons_succ]
                        refine' wpAnyH_take (i := 17) (oi := { dst := some 123, op := Go.Op.move (Go.Operand.tmp 12), type := 3, pos := "ref.go:129", after := #[{ on := 12, ground := Go.Ground.guard }], guard := some (12, false) }) (v := _) rfl (by kernel_rfl) (by kernel_rfl) (by kernel_rfl) (fun _ _ _ h => h) (Or.inl ⟨by rfl, ?_⟩) (by assumption) ?_
                        rotate_left
                        · (intro W hSw; go_simp; try with_reducible rfl)
                        try simp only [Act.put, List.setIfInBounds_toArray, List.set_cons_zero, List.set_cons_succ]
                        refine' wpAnyH_take (i := 18) (oi := { dst := some 124, op := Go.Op.indexAddr 50 (Go.Operand.tmp 122) (Go.Operand.tmp 123), type := 0, pos := "ref.go:129", after := #[{ on := 16, ground := Go.Ground.data }, { on := 17, ground := Go.Ground.data }, { on := 12, ground := Go.Ground.guard }], guard := some (12, false) }) (v := _) rfl (by kernel_rfl) (by kernel_rfl) (by kernel_rfl) (fun _ _ _ h => h) (Or.inl ⟨by rfl, ?_⟩) (by assumption) ?_
                        rotate_left
                        · (intro W hSw; go_simp; try with_reducible rfl)
                        try simp only [Act.put, List.setIfInBounds_toArray, List.set_cons_zero, List.set_cons_succ]
                        refine' wpAnyH_take (i := 19) (oi := { dst := some 125, op := Go.Op.load 4 (Go.Operand.tmp 124), type := 4, pos := "ref.go:129", after := #[{ on := 18, ground := Go.Ground.data }, { on := 12, ground := Go.Ground.guard }], guard := some (12, false) }) (v := _) rfl (by kernel_rfl) (by kernel_rfl) (by kernel_rfl) (fun _ _ _ h => h) (Or.inl ⟨by rfl, ?_⟩) (by assumption) ?_
                        rotate_left
                        · (intro W hSw; obtain ⟨a0, a1, a2⟩ := hSw; go_simp; try with_reducible rfl)
                        try simp only [Act.put, List.setIfInBounds_toArray, List.set_cons_zero, List.set_cons_succ]
                        refine' wpAnyH_take (i := 20) (oi := { dst := some 126, op := Go.Op.pick (Go.Operand.tmp 118) (Go.Operand.const (Go.Value.bool true)) (Go.Operand.tmp 125), type := 4, pos := "ref.go:129", after := #[{ on := 12, ground := Go.Ground.data }, { on := 19, ground := Go.Ground.data }], guard := none }) (v := _) rfl (by kernel_rfl) (by kernel_rfl) (by kernel_rfl) (fun _ _ _ h => h) (Or.inl ⟨by rfl, ?_⟩) (by assumption) ?_
                        rotate_left
                        · (intro W hSw; go_simp; try with_reducible rfl)
                        try simp only [Act.put, List.setIfInBounds_toArray, List.set_cons_zero, List.set_cons_succ]
                        refine' wpAnyH_take (i := 21) (oi := { dst := some 127, op := Go.Op.indexAddr 50 (Go.Operand.tmp 109) (Go.Operand.tmp 110), type := 0, pos := "ref.go:129", after := #[{ on := 3, ground := Go.Ground.data }, { on := 4, ground := Go.Ground.data }, { on := 0, ground := Go.Ground.phase }, { on := 1, ground := Go.Ground.phase }, { on := 2, ground := Go.Ground.phase }, { on := 3, ground := Go.Ground.phase }, { on := 4, ground := Go.Ground.phase }, { on := 5, ground := Go.Ground.phase }, { on := 6, ground := Go.Ground.phase }, { on := 7, ground := Go.Ground.phase }, { on := 8, ground := Go.Ground.phase }, { on := 9, ground := Go.Ground.phase }, { on := 10, ground := Go.Ground.phase }, { on := 11, ground := Go.Ground.phase }, { on := 12, ground := Go.Ground.phase }, { on := 13, ground := Go.Ground.phase }, { on := 14, ground := Go.Ground.phase }, { on := 15, ground := Go.Ground.phase }, { on := 16, ground := Go.Ground.phase }, { on := 17, ground := Go.Ground.phase }, { on := 18, ground := Go.Ground.phase }, { on := 19, ground := Go.Ground.phase }, { on := 20, ground := Go.Ground.phase }], guard := none }) (v := _) rfl (by kernel_rfl) (by kernel_rfl) (by kernel_rfl) (fun _ _ _ h => h) (Or.inl ⟨by rfl, ?_⟩) (by assumption) ?_
                        rotate_left
                        · (intro W hSw; go_simp; try with_reducible rfl)
                        try simp only [Act.put, List.setIfInBounds_toArray, List.set_cons_zero, List.set_cons_succ]
                        refine wpAnyH_ready (rs := [22]) (by kernel_rfl) (by simp) ?_
                        refine AllReadyH.cons (o := { dst := none, op := Go.Op.store 4 (Go.Operand.tmp 127) (Go.Operand.tmp 126), type := 0, pos := "ref.go:129", after := #[{ on := 21, ground := Go.Ground.data }, { on := 20, ground := Go.Ground.data }, { on := 12, ground := Go.Ground.chain }, { on := 0, ground := Go.Ground.phase }, { on := 1, ground := Go.Ground.phase }, { on := 2, ground := Go.Ground.phase }, { on := 3, ground := Go.Ground.phase }, { on := 4, ground := Go.Ground.phase }, { on := 5, ground := Go.Ground.phase }, { on := 6, ground := Go.Ground.phase }, { on := 7, ground := Go.Ground.phase }, { on := 8, ground := Go.Ground.phase }, { on := 9, ground := Go.Ground.phase }, { on := 10, ground := Go.Ground.phase }, { on := 11, ground := Go.Ground.phase }, { on := 12, ground := Go.Ground.phase }, { on := 13, ground := Go.Ground.phase }, { on := 14, ground := Go.Ground.phase }, { on := 15, ground := Go.Ground.phase }, { on := 16, ground := Go.Ground.phase }, { on := 17, ground := Go.Ground.phase }, { on := 18, ground := Go.Ground.phase }, { on := 19, ground := Go.Ground.phase }, { on := 20, ground := Go.Ground.phase }], guard := none }) rfl (fun K hK => ?_) AllReadyH.nil
                        go_simp
                        refine hK.out _ _ ⟨(World.cell?_of_block (a := ⟨G, i, none⟩) (Below.heap_setCell _ ⟨bi, k, none⟩ _ _ HNe.out.1)).trans hHeld.1, (World.cell?_of_block (a := ⟨G, t, none⟩) (Below.heap_setCell _ ⟨bi, k, none⟩ _ _ HNe.out.1)).trans hHeld.2.1, (World.cell?_of_block (a := ⟨bT, k, none⟩) (Below.heap_setCell _ ⟨bi, k, none⟩ _ _ HNe.out.2)).trans hHeld.2.2⟩ (fun hHeld => ?_)
                        clear hK K
                        try simp only [Act.put, List.setIfInBounds_toArray, List.set_cons_zero, List.set_cons_succ]
                        refine wpAnyH_done (by kernel_rfl) ?_ _
                        refine NoPanic.normal ?_
                        try simp only [Exit.then]
                        clear ci cid fz hHeld
                        go_wp2_with fail
                        exact ⟨⟨k + 1, by go_num, hkm, HN.out.2.trans (below_dq _ 1), HN.out.1.drew⟩, by simp [intOf]; omega⟩
                    · obtain rfl : m = k := by omega
                      have s1 : ¬ (m : Int) < m := by omega
                      have hR2 := HT.out.2.2.2.1.step (F' := D2 F i t m) (by rw [H.out.2.2.1]; exact H.out.2.2.2.2.2.1) HT.out.1 (fun a' k' => by unfold D2; rw [H.out.2.2.2.1])
                      have HE := Lib.hid (And.intro hb (And.intro hM hR2))
                      clear hb hM hR2
                      go_wp2_with fail
                      exact ⟨⟨j + 1, _, by go_num, by rw [HT.out.2.2.2.2]; exact hjq, HE.out.1, HE.out.2.1, HE.out.2.2⟩, by simp [intOf]; have := HT.out.2.2.2.2; omega⟩
                · obtain rfl : q = j := by omega
                  have j1 : ¬ (q : Int) < q := by omega
                  have hR2 : Rex g x r (i + 1) 0 F := Rex.next (by rw [H.out.2.2.1]; exact H.out.2.2.2.2.2.1) H.out.2.2.2.2.2.2 (by rw [hql]; exact hR)
                  have HE := Lib.hid (And.intro hb (And.intro hM hR2))
                  clear hb hM hR hR2 rg hql hq hj
                  go_wp2_with fail
                  exact ⟨⟨i + 1, F, by go_num, hin2, HE.out.1, HE.out.2.1, HE.out.2.2⟩, by simp [intOf]; omega⟩
            · obtain rfl : n = i := by omega
              have i1 : ¬ (n : Int) < n := by omega
              have hR2 : Rex g x (r + 1) 0 0 F1 := Rex.round (by rw [H.out.2.2.1]; exact hR)
              have HE := Lib.hid (And.intro hb (And.intro hM hR2))
              clear hb hM hR hR2
              go_wp2_with fail
              exact ⟨⟨r + 1, F1, by go_num, hrn, HE.out.1, HE.out.2.1, HE.out.2.2⟩, by simp [intOf]; omega⟩
        · obtain rfl : n = r := by omega
          have r1 : ¬ (n : Int) < n := by omega
          have hfin : ∀ a k, a < n → k < m → (F0 a k = true ↔ memB g x a k) := fun a k ha hk => Rex.fin H.out.2.2.2.2.2.2 (by rw [H.out.2.2.1]; exact hR) (by rw [H.out.2.2.1]; exact ha) (by rw [H.out.2.2.2.1]; exact hk)
          have HE := Lib.hid (And.intro hb (And.intro hM hfin))
          clear hb hM hR hfin
          go_wp2_with fail
          obtain ⟨w5, rfl⟩ : ∃ y, y = wr := ⟨_, rfl⟩
          go_loopw [13, 14] (fun ov iv W => ∃ (i : Nat) (o : Value) (Z : List Value), o = ov ∧ iv = .int .i64 i ∧ i ≤ n ∧ Below w5.heap.size w5 W ∧ LsO W w5.heap.size o ((exG g x).take i) Z) (fun _ iv _ => n - (intOf iv).toNat)
          case atStart => exact ⟨0, _, [], rfl, rfl, Nat.zero_le _, Below.refl _ _, by rw [List.take_zero]; exact LsO.nil _ _⟩
          case round =>
            obtain ⟨i, o, Z, rfl, rfl, hi, hb, hL⟩ := hrel
            have hexl : (exG g x).length = n := by unfold exG; rw [List.length_map, List.length_range]; exact H.out.2.2.1
            have hZi : Z.length = i := by rw [hL.len, List.length_take, hexl]; omega
            by_cases hin3 : i < n
            · have i0 : (0 : Int) ≤ i := by omega
              have i1 : (i : Int) < n := by omega
              have hMw := HE.out.2.1.below hb
              have cG := hMw.ld (Nat.le_refl _) hin3
              unfold slB at cG
              have hsz5 := hb.size
              obtain ⟨U1, hU1⟩ : ∃ y, wr.heap.size = y := ⟨_, rfl⟩
              have HS := Lib.hid (And.intro hb (And.intro hL (And.intro hMw (And.intro hU1 (And.intro hexl hZi)))))
              obtain ⟨bi, hbi⟩ : ∃ y, bl i = y := ⟨_, rfl⟩
              have HBi := Lib.hid hbi
              rw [hbi] at cG
              clear hb hL hMw hexl hZi hbi hU1
              go_wp2_with fail
              obtain ⟨w6, rfl⟩ : ∃ y, y = wr := ⟨_, rfl⟩
              go_loopw [15, 16] (fun lv kv W => ∃ (k : Nat) (l : Value) (L : List Nat), l = lv ∧ kv = .int .i64 k ∧ k ≤ m ∧ Below w6.heap.size w6 W ∧ L = (memL g x i).filter (fun j => decide (j < k)) ∧ L.length ≤ k ∧ W.ownsRow U1 3 1 l L.length (L.map intC)) (fun _ kv _ => m - (intOf kv).toNat)
              case atStart => exact ⟨0, _, [], rfl, rfl, Nat.zero_le _, Below.refl _ _, by rw [List.filter_eq_nil_iff.2 (fun j _ => by simp)], Nat.zero_le _, ⟨rfl, .inl ⟨rfl, rfl⟩⟩⟩
              case round =>
                obtain ⟨k, l, L, rfl, rfl, hk, hb6, hLe, hLk, hown⟩ := hrel
                by_cases hkm : k < m
                · have k0 : (0 : Int) ≤ k := by omega
                  have k1 : (k : Int) < m := by omega
                  have cGd : wr.cell? { block := G, off := i } = some (.slice (some { block := bi, off := 0 }) m m) := cell9_below cG hb6
                  have cik := cell9_below (HS.out.2.2.1.at_ hin3 hkm) hb6
                  rw [HBi.out] at cik
                  have hmem : F0 i k = decide (k ∈ memL g x i) := by
                    have h1 := HE.out.2.2 i k hin3 hkm
                    rw [Bool.eq_iff_iff, h1, decide_eq_true_iff, memL_mem]
                    exact ⟨fun h => ⟨by rw [H.out.2.2.2.1]; exact hkm, h⟩, fun h => h.2⟩
                  obtain ⟨nl, hnl⟩ : ∃ z, L.length = z := ⟨_, rfl⟩
                  rw [hnl] at hown hLk
                  obtain ⟨bv, hbv⟩ : ∃ z, F0 i k = z := ⟨_, rfl⟩
                  rw [hbv] at cik hmem
                  have hU6 : U1 ≤ wr.heap.size := by rw [← HS.out.2.2.2.1]; exact hb6.size
                  have HK := Lib.hid (And.intro hb6 (And.intro hLe (And.intro hown (And.intro hmem hnl))))
                  clear hb6 hLe hown hmem hnl hbv
                  cases bv with
                  | true =>
                    have hnx : (memL g x i).filter (fun j => decide (j < k + 1)) = L ++ [k] := by
                      rw [HK.out.2.1]
                      have hkin : k ∈ memL g x i := of_decide_eq_true HK.out.2.2.2.1.symm
                      exact filt_more (memL_lt g x i) hkin
                    have HNx := Lib.hid hnx
                    clear hnx
                    go_wp2_with
                      (at_builtin
                       refine wpList_app rfl (.tmp 147) (.tmp 149) 48 rfl elN U1 l nl (L.map intC) rfl (own_sameO HK.out.2.2.1 ((Below.refl wr.heap.size wr).alloc (Nat.le_refl _) _)) (some ⟨wr.heap.size, 0, none⟩) 1 1 [.int .i64 (k : Nat)] rfl rfl (Rd.block (MapKept.heap_alloc wr (.cells #[.int .i64 (k : Nat)] 3)).1) (fun u hu => by rw [List.mem_singleton.1 hu]; rfl) (by unfold maxLen; omega) (by omega) (by rw [World.size_alloc]; omega) ?_
                       intro v' w'' ho hg hob
                       have HN2 := Lib.hid (And.intro ho hg)
                       clear ho hg hob)
                    refine ⟨⟨k + 1, v', L ++ [k], rfl, by go_num, hkm, ?_, HNx.out.symm, by rw [List.length_append, List.length_singleton, HK.out.2.2.2.2]; omega, ?_⟩, by simp [intOf]; omega⟩
                    · have hal : Below w6.heap.size w6 (wr.alloc (.cells #[.int .i64 (k : Nat)] 3)) := HK.out.1.alloc HK.out.1.size _
                      exact Below.grown hal HN2.out.2 hal.size (fun b hb => by rw [HS.out.2.2.2.1]; exact (HK.out.2.2.1.lt b hb).1)
                    · rw [List.length_append, List.length_singleton, HK.out.2.2.2.2, List.map_append]
                      exact HN2.out.1
                  | false =>
                    have hnx : (memL g x i).filter (fun j => decide (j < k + 1)) = L := by
                      rw [HK.out.2.1]
                      exact filt_none (of_decide_eq_false HK.out.2.2.2.1.symm)
                    have HNx := Lib.hid hnx
                    clear hnx
                    go_wp2_with fail
                    exact ⟨⟨k + 1, l, L, rfl, by go_num, hkm, HK.out.1, HNx.out.symm, by rw [HK.out.2.2.2.2]; omega, by rw [HK.out.2.2.2.2]; exact HK.out.2.2.1⟩, by simp [intOf]; omega⟩
                · obtain rfl : m = k := by omega
                  have k1 : ¬ (m : Int) < m := by omega
                  have hLf : L = memL g x i := by
                    rw [hLe]
                    exact List.filter_eq_self.2 fun j hj => decide_eq_true (by have := (memL_mem.1 hj).1; rw [H.out.2.2.2.1] at this; exact this)
                  rw [hLf] at hown
                  have how := own_base (B' := w5.heap.size) hown (by rw [← HS.out.2.2.2.1]; exact hsz5)
                  have hLs := HS.out.2.1.below hb6
                  obtain ⟨Al, cl, hlv, _, _, _, _, _⟩ := owns_form hown
                  subst hlv
                  obtain ⟨nl, hnl⟩ : ∃ z, (memL g x i).length = z := ⟨_, rfl⟩
                  rw [hnl] at how ⊢
                  have HK := Lib.hid (And.intro hb6 (And.intro how (And.intro hLs hnl)))
                  have hZ := HS.out.2.2.2.2.2
                  have HZ := Lib.hid hZ
                  have hown2 := hLs.own
                  rw [hZ] at hown2
                  have HO := Lib.hid hown2
                  have hsz6 := hb6.size
                  clear hb6 hLe hown hLf how hLs hnl hLk hZ hown2
                  go_wp2_with
                    (at_builtin
                     refine wpList_app rfl (.tmp 151) (.tmp 153) 30 rfl elL w5.heap.size o i Z rfl (own_sameO HO.out ((Below.refl wr.heap.size wr).alloc (Nat.le_refl _) _)) (some ⟨wr.heap.size, 0, none⟩) 1 1 [.slice Al nl cl] rfl rfl (Rd.block (MapKept.heap_alloc wr (.cells #[.slice Al nl cl] 48)).1) (fun u hu => by rw [List.mem_singleton.1 hu]; rfl) (by unfold maxLen; omega) (by omega) (by rw [World.size_alloc]; omega) ?_
                     intro v' w'' ho hg hob
                     have HN2 := Lib.hid (And.intro ho hg)
                     clear ho hg hob)
                  have hal : Below wr.heap.size wr (wr.alloc (.cells #[.slice Al nl cl] 48)) := (Below.refl _ _).alloc (Nat.le_refl _) _
                  have hpush := LsO.push (L := memL g x i) (HK.out.2.2.1.below hal) (by rw [HK.out.2.2.2]; exact own_sameO HK.out.2.1 hal) (by rw [HZ.out]; exact HN2.out.1) HN2.out.2
                  have hex : (exG g x).take i ++ [memL g x i] = (exG g x).take (i + 1) := by
                    have hil : i < (exG g x).length := by rw [HS.out.2.2.2.2.1]; exact hin3
                    rw [List.take_succ_eq_append_getElem hil, exG_get hil]
                  rw [hex] at hpush
                  have hb7 : Below w5.heap.size w5 (wr.alloc (.cells #[.slice Al nl cl] 48)) := (HS.out.1.trans (HK.out.1.mono HS.out.1.size)).trans (hal.mono (Nat.le_trans HS.out.1.size hsz6))
                  exact ⟨⟨i + 1, v', _, rfl, by go_num, hin3, Below.grown hb7 HN2.out.2 hb7.size (fun b hb => (HO.out.lt b hb).1), hpush⟩, by simp [intOf]; omega⟩
            · obtain rfl : n = i := by omega
              have i1 : ¬ (n : Int) < n := by omega
              rw [List.take_of_length_le (by omega)] at hL
              have HL := Lib.hid (And.intro hL.rowLL (HE.out.1.trans (hb.mono HE.out.1.size)))
              clear hL hb hexl hZi
              go_wp2_with fail
              go_ret
              exact ⟨_, rfl, HL.out.1, HL.out.2⟩
end Go.Proofs.YtkfnbapnkmlopaaDoor

/- Layer 3's laws over a disk and the reference's: the pair at a round's begin. -/
import Derived.Test.YtljagggankmnkaaDoorL3Try
import Derived.Test.YtljagggankmnkaaDoorL3Same
namespace Go.Proofs.YtljagggankmnkaaDoor
open Go.RowKit Go.Maps

theorem RdA.six' {w : World} {A : Option Addr} {L : List Act3} (h : RdA w A L) (i : Nat) (hi : i < L.length) : ∃ ad X, A = some ad ∧ ad.add (i * 6) = X ∧ X.block < w.heap.size ∧ ∀ w', Below w.heap.size w w' → w'.cell? X = some (.int .i64 L[i].kind) ∧ w'.cell? { block := X.block, off := X.off + 1 } = some (.string (str L[i].nm)) ∧ w'.cell? { block := X.block, off := X.off + 2 } = some (.string (str L[i].to)) ∧ w'.cell? { block := X.block, off := X.off + 3 } = some (.string (str L[i].b)) ∧ w'.cell? { block := X.block, off := X.off + 4 } = some (.int .i64 L[i].steps) ∧ w'.cell? { block := X.block, off := X.off + 5 } = some (.int .i64 L[i].part) := by
  obtain ⟨ad, e, hc⟩ := h.at_ i hi
  have h0 := hc 0 _ (by omega) rfl
  have hl := World.block_lt_of_cell? w _ h0
  refine ⟨ad, _, e, rfl, hl, fun w' hb => ?_⟩
  have hh : ∀ j u, j < 6 → (actCells L[i])[j]? = some u → w'.cell? ((ad.add (i * 6)).add j) = some u := fun j u hj hu => by
    have := hc j u hj hu
    rw [← add_add'] at this
    exact (hb.cell (World.block_lt_of_cell? w _ this)).trans this
  exact ⟨hh 0 _ (by omega) rfl, hh 1 _ (by omega) rfl, hh 2 _ (by omega) rfl, hh 3 _ (by omega) rfl, hh 4 _ (by omega) rfl, hh 5 _ (by omega) rfl⟩
/-- The program's disk and the reference's, in step; the reference's lies in block g. -/
structure Pair (W : World) (p g : Nat) (F : Nat → Prop) (su no : List (Bs × Bs)) (st : List (Stp Bs)) (A1 : Option Addr) (n1 c1 : Nat) (A2 : Option Addr) (n2 c2 : Nat) (A3 : Option Addr) (n3 c3 : Nat) (w : World) : Prop where
  below : Below W.heap.size W w
  disk : Disk w W.heap.size p F su no st
  ref : RefIs F w (DiskV A1 n1 c1 A2 n2 c2 A3 n3 c3) no su st
  cell : w.heap[g]? = some (ref3 A1 n1 c1 A2 n2 c2 A3 n3 c3)
  out : ¬ F g
  high : W.heap.size ≤ g
def PairE (W : World) (p g : Nat) (w : World) : Prop := ∃ F su no st A1 n1 c1 A2 n2 c2 A3 n3 c3, Pair W p g F su no st A1 n1 c1 A2 n2 c2 A3 n3 c3 w
section
variable {W w w2 w3 : World} {p g : Nat} {F F2 : Nat → Prop} {su no su2 no2 : List (Bs × Bs)} {st st2 : List (Stp Bs)} {A1 : Option Addr} {n1 c1 : Nat} {A2 : Option Addr} {n2 c2 : Nat} {A3 : Option Addr} {n3 c3 : Nat} {B1 : Option Addr} {m1 d1 : Nat} {B2 : Option Addr} {m2 d2 : Nat} {B3 : Option Addr} {m3 d3 : Nat}
theorem pair_new (hb : Below W.heap.size W w) (hd : Disk w W.heap.size p F [] [] []) : Pair W p w.heap.size F [] [] [] none 0 0 none 0 0 none 0 0 (w.alloc (ref3 none 0 0 none 0 0 none 0 0)) :=
  { below := hb.alloc hb.size _
    disk := hd.below ((Below.refl _ _).alloc (Nat.le_refl _) _)
    ref := ⟨none, 0, none, 0, none, 0, rfl, ⟨Rd.nil, fun h => by cases h⟩, ⟨Rd.nil, fun h => by cases h⟩, ⟨Rd.nil, fun h => by cases h⟩⟩
    cell := (MapKept.heap_alloc w _).1
    out := fun h => by have := (hd.lt _ h).2; omega
    high := hb.size }
theorem Pair.more (h : Pair W p g F su no st A1 n1 c1 A2 n2 c2 A3 n3 c3 w) (hb : Below w.heap.size w w2) : Pair W p g F su no st A1 n1 c1 A2 n2 c2 A3 n3 c3 w2 :=
  { h with
    below := h.below.trans (hb.mono h.below.size)
    disk := h.disk.below hb
    ref := h.ref.below hb
    cell := (hb.block _ (Array.getElem?_eq_some_iff.1 h.cell).1).trans h.cell }
theorem Pair.lt (h : Pair W p g F su no st A1 n1 c1 A2 n2 c2 A3 n3 c3 w) : g < w.heap.size := (Array.getElem?_eq_some_iff.1 h.cell).1
theorem Pair.err (h : Pair W p g F su no st A1 n1 c1 A2 n2 c2 A3 n3 c3 w) (hE : ErrT W) : ∀ F' W', Turn F w F' W' → ErrT W' := fun F' W' ht =>
  hE.below (h.below.trans (ht.below h.below.size (fun i hi => (h.disk.lt i hi).1)))
theorem Pair.parts (h : Pair W p g F su no st A1 n1 c1 A2 n2 c2 A3 n3 c3 w) : no.length = n1 ∧ st.length = n3 ∧ RdF w A1 no := by
  obtain ⟨A1', c1', A2', c2', A3', c3', e, h1, h2, h3⟩ := h.ref
  injection e with e
  injection e with e
  simp only [List.cons.injEq, and_true] at e
  obtain ⟨e1, e2, e3⟩ := e
  injection e1 with a1 a2 a3
  injection e3 with b1 b2 b3
  exact ⟨a2.symm, b2.symm, a1 ▸ h1.1⟩
/-- Behind an act that was tried on both, and the store. -/
theorem Pair.next (h : Pair W p g F su no st A1 n1 c1 A2 n2 c2 A3 n3 c3 w) (ht : Turn F w F2 w2) (hd : Disk w2 W.heap.size p F2 su2 no2 st2) (hr : RefIs F2 w2 (DiskV B1 m1 d1 B2 m2 d2 B3 m3 d3) no2 su2 st2) (hb : Below w2.heap.size w2 w3) :
    Pair W p g F2 su2 no2 st2 B1 m1 d1 B2 m2 d2 B3 m3 d3 (((w3.setCell ⟨g, 0, none⟩ (.slice B1 m1 d1)).setCell ⟨g, 1, none⟩ (.slice B2 m2 d2)).setCell ⟨g, 2, none⟩ (.slice B3 m3 d3)) := by
  have hgl := h.lt
  have hg3 : w3.heap[g]? = some (ref3 A1 n1 c1 A2 n2 c2 A3 n3 c3) := (hb.block g (Nat.lt_of_lt_of_le hgl ht.size)).trans ((ht.block g hgl h.out).trans h.cell)
  have ho : ¬ F2 g := fun hf => by
    rcases ht.foot _ hf with h1 | h1
    · exact h.out h1
    · omega
  exact {
    below := below_set3 ((h.below.trans (ht.below h.below.size (fun i hi => (h.disk.lt i hi).1))).trans (hb.mono (Nat.le_trans h.below.size ht.size))) h.high
    disk := (hd.below hb).beside (beside_set3 hg3) ho
    ref := (hr.below hb).beside (beside_set3 hg3)
    cell := set3 hg3
    out := ho
    high := h.high }
theorem Pair.cells (h : Pair W p g F su no st A1 n1 c1 A2 n2 c2 A3 n3 c3 w) (ht : Turn F w F2 w2) (hb : Below w2.heap.size w2 w3) : w3.heap[g]? = some (ref3 A1 n1 c1 A2 n2 c2 A3 n3 c3) :=
  (hb.block g (Nat.lt_of_lt_of_le h.lt ht.size)).trans ((ht.block g h.lt h.out).trans h.cell)
/-- Below w nothing has turned but what lies in F. -/
def Kept (F : Nat → Prop) (w w' : World) : Prop := w.heap.size ≤ w'.heap.size ∧ ∀ i, i < w.heap.size → ¬ F i → w'.heap[i]? = w.heap[i]?
theorem Kept.of {w1 : World} (hb : Below w.heap.size w w1) (ht : Turn F w1 F2 w2) : Kept F w w2 :=
  ⟨Nat.le_trans hb.size ht.size, fun i hi hf => (ht.block i (Nat.lt_of_lt_of_le hi hb.size) hf).trans (hb.block i hi)⟩
theorem Kept.below {w' : World} (h : Kept F w w') (hb : Below w'.heap.size w' w2) : Kept F w w2 :=
  ⟨Nat.le_trans h.1 hb.size, fun i hi hf => (hb.block i (Nat.lt_of_lt_of_le hi h.1)).trans (h.2 i hi hf)⟩
theorem Kept.alloc {w' : World} (h : Kept F w w') (o : Obj) : Kept F w (w'.alloc o) := h.below ((Below.refl _ _).alloc (Nat.le_refl _) _)
theorem Kept.set {w' : World} (h : Kept F w w') {a : Addr} (ha : w.heap.size ≤ a.block) (v : Value) : Kept F w (w'.setCell a v) :=
  ⟨by simpa [World.setCell] using h.1, fun i hi hf => (Below.heap_setCell _ _ _ _ (by omega)).trans (h.2 i hi hf)⟩
theorem Kept.set3 {w' : World} (h : Kept F w w') {k : Nat} (ha : w.heap.size ≤ k) (x y z : Value) : Kept F w (((w'.setCell ⟨k, 0, none⟩ x).setCell ⟨k, 1, none⟩ y).setCell ⟨k, 2, none⟩ z) := ((h.set ha x).set ha y).set ha z
/-- What stands behind an act that was tried on both: the reference's new disk lies in block y. -/
structure Mid (W : World) (p g y : Nat) (F : Nat → Prop) (su no : List (Bs × Bs)) (st : List (Stp Bs)) (A1 : Option Addr) (n1 c1 : Nat) (A2 : Option Addr) (n2 c2 : Nat) (A3 : Option Addr) (n3 c3 : Nat) (B1 : Option Addr) (m1 d1 : Nat) (B2 : Option Addr) (m2 d2 : Nat) (B3 : Option Addr) (m3 d3 : Nat) (w : World) : Prop where
  below : Below W.heap.size W w
  disk : Disk w W.heap.size p F su no st
  ref : RefIs F w (DiskV B1 m1 d1 B2 m2 d2 B3 m3 d3) no su st
  cell : w.heap[g]? = some (ref3 A1 n1 c1 A2 n2 c2 A3 n3 c3)
  new : w.heap[y]? = some (ref3 B1 m1 d1 B2 m2 d2 B3 m3 d3)
  out : ¬ F g
  high : W.heap.size ≤ g
theorem Mid.pair {y : Nat} (h : Mid W p g y F su no st A1 n1 c1 A2 n2 c2 A3 n3 c3 B1 m1 d1 B2 m2 d2 B3 m3 d3 w) :
    Pair W p g F su no st B1 m1 d1 B2 m2 d2 B3 m3 d3 (((w.setCell ⟨g, 0, none⟩ (.slice B1 m1 d1)).setCell ⟨g, 1, none⟩ (.slice B2 m2 d2)).setCell ⟨g, 2, none⟩ (.slice B3 m3 d3)) :=
  { below := below_set3 h.below h.high
    disk := h.disk.beside (beside_set3 h.cell) h.out
    ref := h.ref.beside (beside_set3 h.cell)
    cell := Go.Proofs.YtljagggankmnkaaDoor.set3 h.cell
    out := h.out
    high := h.high }
/-- The call first, then the new block. -/
theorem mid_a (h : Pair W p g F su no st A1 n1 c1 A2 n2 c2 A3 n3 c3 w) (hb : Below w.heap.size w w3) (ht : Turn F w3 F2 w2) (hd : Disk w2 W.heap.size p F2 su2 no2 st2) (hr : RefIs F2 w2 (DiskV B1 m1 d1 B2 m2 d2 B3 m3 d3) no2 su2 st2) :
    Mid W p g w2.heap.size F2 su2 no2 st2 A1 n1 c1 A2 n2 c2 A3 n3 c3 B1 m1 d1 B2 m2 d2 B3 m3 d3 (w2.alloc (ref3 B1 m1 d1 B2 m2 d2 B3 m3 d3)) := by
  have ht' : Turn F w F2 w2 := (Turn.of_below F hb).trans ht
  have hba : Below w2.heap.size w2 (w2.alloc (ref3 B1 m1 d1 B2 m2 d2 B3 m3 d3)) := (Below.refl _ _).alloc (Nat.le_refl _) _
  exact {
    below := (h.below.trans (ht'.below h.below.size (fun i hi => (h.disk.lt i hi).1))).trans (hba.mono (Nat.le_trans h.below.size ht'.size))
    disk := hd.below hba
    ref := hr.below hba
    cell := h.cells ht' hba
    new := (MapKept.heap_alloc w2 _).1
    out := fun hf => by
      rcases ht'.foot _ hf with h1 | h1
      · exact h.out h1
      · have := h.lt; omega
    high := h.high }
/-- The new block first, then the call, then the store. -/
theorem mid_b {x : Obj} (hx : x = ref3 none 0 0 none 0 0 none 0 0) (h : Pair W p g F su no st A1 n1 c1 A2 n2 c2 A3 n3 c3 w) (hb : Below w.heap.size w w3) (hs : w3.heap.size = w.heap.size) (ht : Turn F (w3.alloc x) F2 w2) (hd : Disk w2 W.heap.size p F2 su2 no2 st2) (hr : RefIs F2 w2 (DiskV B1 m1 d1 B2 m2 d2 B3 m3 d3) no2 su2 st2) :
    Mid W p g w.heap.size F2 su2 no2 st2 A1 n1 c1 A2 n2 c2 A3 n3 c3 B1 m1 d1 B2 m2 d2 B3 m3 d3 (((w2.setCell ⟨w.heap.size, 0, none⟩ (.slice B1 m1 d1)).setCell ⟨w.heap.size, 1, none⟩ (.slice B2 m2 d2)).setCell ⟨w.heap.size, 2, none⟩ (.slice B3 m3 d3)) ∧ w2.heap[w.heap.size]? = some (ref3 none 0 0 none 0 0 none 0 0) := by
  subst hx
  have hb3 : Below w.heap.size w (w3.alloc (ref3 none 0 0 none 0 0 none 0 0)) := hb.alloc hb.size _
  have ht' : Turn F w F2 w2 := (Turn.of_below F hb3).trans ht
  have hn : ¬ F w.heap.size := fun hf => by have := (h.disk.lt _ hf).2; omega
  have hsz : (w3.alloc (ref3 none 0 0 none 0 0 none 0 0)).heap.size = w.heap.size + 1 := by rw [World.size_alloc, hs]
  have hnew : w2.heap[w.heap.size]? = some (ref3 none 0 0 none 0 0 none 0 0) := by
    rw [ht.block _ (by omega) hn, ← hs]
    exact (MapKept.heap_alloc w3 _).1
  have hn2 : ¬ F2 w.heap.size := fun hf => by
    rcases ht.foot _ hf with h1 | h1
    · exact hn h1
    · omega
  have hgl := h.lt
  have hg2 : w2.heap[g]? = some (ref3 A1 n1 c1 A2 n2 c2 A3 n3 c3) := (ht'.block g hgl h.out).trans h.cell
  have hne : g ≠ w.heap.size := by omega
  refine ⟨{
    below := below_set3 (h.below.trans (ht'.below h.below.size (fun i hi => (h.disk.lt i hi).1))) h.below.size
    disk := hd.beside (beside_set3 hnew) hn2
    ref := hr.beside (beside_set3 hnew)
    cell := (((Below.heap_setCell _ _ _ _ hne).trans (Below.heap_setCell _ _ _ _ hne)).trans (Below.heap_setCell _ _ _ _ hne)).trans hg2
    new := Go.Proofs.YtljagggankmnkaaDoor.set3 hnew
    out := fun hf => by
      rcases ht'.foot _ hf with h1 | h1
      · exact h.out h1
      · omega
    high := h.high }, hnew⟩
end
end Go.Proofs.YtljagggankmnkaaDoor

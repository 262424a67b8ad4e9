/- A store into a cell of its own beside the disk (layer 3): what is kept. -/
import Derived.Test.YtljagggankmnkaaDoorRef3I
namespace Go.Proofs.YtljagggankmnkaaDoor
open Go.RowKit Go.Maps

section
variable {w w' w1 : World} {B p g : Nat} {F F' : Nat → Prop} {ba bb : Nat} {sv : Value} {Vs Vn : List (Bs × Pay)} {T : List (Stp Pay)} {su no : List (Bs × Bs)} {st : List (Stp Bs)}
/-- Block g alone may have turned, and it holds three slices. -/
structure Beside (g : Nat) (w w' : World) : Prop where
  old : ∃ (a b c : Option Addr × Nat × Nat) (t : TypeId) (fr : Nat × Nat), w.heap[g]? = some (.cells #[.slice a.1 a.2.1 a.2.2, .slice b.1 b.2.1 b.2.2, .slice c.1 c.2.1 c.2.2] t fr)
  size : w'.heap.size = w.heap.size
  block : ∀ i, i ≠ g → w'.heap[i]? = w.heap[i]?
theorem Beside.rd (h : Beside g w w') {A : Option Addr} {xs : List Value} (hr : Rd w A xs) (hns : ∀ u, xs[0]? = some u → ∀ a n c, u ≠ .slice a n c) : Rd w' A xs := fun hn => by
  refine (hr.keep fun q e hq => h.block q.block ?_) hn
  intro hg
  obtain ⟨ad, e2, hc⟩ := hr hn
  rw [← e] at e2
  injection e2 with e2
  subst e2
  obtain ⟨a, b, c, t, fr, hb⟩ := h.old
  have hu := List.getElem?_eq_getElem hn
  have h0 := hc 0 _ hu
  have hne := hns _ hu
  generalize xs[0] = u at h0 hne
  have hb2 : w.heap[(q.add 0).block]? = some (.cells #[.slice a.1 a.2.1 a.2.2, .slice b.1 b.2.1 b.2.2, .slice c.1 c.2.1 c.2.2] t fr) := by rw [block_add, hg]; exact hb
  simp only [World.cell?, hb2] at h0
  rcases hq3 : (q.add 0).off with _ | _ | _ | n <;> simp [hq3] at h0
  · exact hne _ _ _ h0.2.symm
  · exact hne _ _ _ h0.2.symm
  · exact hne _ _ _ h0.2.symm
theorem Beside.bytes (h : Beside g w w') {A : Option Addr} {l : Bs} (hr : Rd w A (bs l)) : Rd w' A (bs l) := h.rd hr fun u hu a n c e => by
  obtain ⟨hl, rfl⟩ := List.getElem?_eq_some_iff.1 hu
  rw [bs_length] at hl
  rw [bs_get l 0 hl] at e
  cases e
theorem Beside.files (h : Beside g w w') {A : Option Addr} {l : List (Bs × Bs)} (hr : RdO F w A (l.flatMap fileCells)) : RdO F w' A (l.flatMap fileCells) := ⟨h.rd hr.1 fun u hu a n c e => by
  subst e
  cases l with
  | nil => simp at hu
  | cons x l => simp [fileCells] at hu, hr.2⟩
theorem Beside.steps (h : Beside g w w') {A : Option Addr} {l : List (Stp Bs)} (hr : RdO F w A (l.flatMap stepCells)) : RdO F w' A (l.flatMap stepCells) := ⟨h.rd hr.1 fun u hu a n c e => by
  subst e
  cases l with
  | nil => simp at hu
  | cons x l => simp [stepCells] at hu, hr.2⟩
theorem RefIs.beside {D : Value} (h : RefIs F w D no su st) (hb : Beside g w w') : RefIs F w' D no su st := by
  obtain ⟨A1, c1, A2, c2, A3, c3, e, h1, h2, h3⟩ := h
  exact ⟨A1, c1, A2, c2, A3, c3, e, hb.files h1, hb.files h2, hb.steps h3⟩
theorem Hv.beside {x : Pay} (h : Hv w F x) (hb : Beside g w w') : Hv w' F x := by
  obtain ⟨A, c, h1, h2, h3, h4, h5, h6⟩ := h
  exact ⟨A, c, h1, h2, h3, h4, hb.bytes h5, fun a e => ⟨by rw [hb.size]; exact (h6 a e).1, (h6 a e).2⟩⟩
theorem Disk.beside (h : Disk w B p F su no st) (hb : Beside g w w') (hg : ¬ F g) : Disk w' B p F su no st := by
  obtain ⟨ba, bb, sv, Vs, Vn, T, h, h1⟩ := h
  have hk : ∀ i, F i → w'.heap[i]? = w.heap[i]? := fun i hi => hb.block i (fun e => hg (e ▸ hi))
  exact ⟨ba, bb, sv, Vs, Vn, T, { h with
    cell := (hk p ((h.foot p).2 (.inl rfl))).trans h.cell
    ms := h.ms.block (hk _ ((h.foot ba).2 (.inr (.inl rfl))))
    mn := h.mn.block (hk _ ((h.foot bb).2 (.inr (.inr (.inl rfl)))))
    row := ownsRow_block h.row (fun i hi => hk i ((h.foot i).2 (.inr (.inr (.inr hi)))))
    hs := fun t ht' => (h.hs t ht').beside hb
    hn := fun t ht' => (h.hn t ht').beside hb
    ht := fun s hs => ⟨(h.ht s hs).1.beside hb, (h.ht s hs).2⟩ }, h1⟩
theorem Turn.set3 {W : World} {x y z : Value} (h : Turn F w F' W) (hg : w.heap.size ≤ g) : Turn F w F' (((W.setCell ⟨g, 0, none⟩ x).setCell ⟨g, 1, none⟩ y).setCell ⟨g, 2, none⟩ z) :=
  ⟨h.os, h.tape, h.output, by simpa [World.setCell] using h.size, fun i hi hf => by
    have hne : i ≠ g := by omega
    exact (((Below.heap_setCell _ _ _ _ hne).trans (Below.heap_setCell _ _ _ _ hne)).trans (Below.heap_setCell _ _ _ _ hne)).trans (h.block i hi hf), h.foot⟩
theorem beside_set3 {W : World} {x y z : Value} {a b c : Option Addr} {n1 n2 n3 c1 c2 c3 : Nat} {t : TypeId} {fr : Nat × Nat} (h : W.heap[g]? = some (.cells #[.slice a n1 c1, .slice b n2 c2, .slice c n3 c3] t fr)) : Beside g W (((W.setCell ⟨g, 0, none⟩ x).setCell ⟨g, 1, none⟩ y).setCell ⟨g, 2, none⟩ z) :=
  ⟨⟨(a, n1, c1), (b, n2, c2), (c, n3, c3), t, fr, h⟩, by simp [World.setCell], fun i hne => ((Below.heap_setCell _ _ _ _ hne).trans (Below.heap_setCell _ _ _ _ hne)).trans (Below.heap_setCell _ _ _ _ hne)⟩
end
end Go.Proofs.YtljagggankmnkaaDoor

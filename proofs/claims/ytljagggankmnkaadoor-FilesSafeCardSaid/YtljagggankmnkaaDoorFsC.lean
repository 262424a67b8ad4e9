/- Package files: a disk in memory; New, has, Pending, and the step that is done. -/
import Derived.Test.YtljagggankmnkaaDoorFsB
import Derived.StillTailTactics
import Derived.Deep.RegionHeld3
import Derived.Deep.RegionLaw
import Derived.Deep.AppendLies
namespace Go.Proofs.YtljagggankmnkaaDoor
open Go.RowKit Go.Maps

/-- What was there may have turned in the blocks F alone; F' are the ones that may turn from now on. -/
structure Turn (F : Nat → Prop) (w : World) (F' : Nat → Prop) (w' : World) : Prop where
  os : w'.os = w.os
  tape : w'.tape = w.tape
  output : w'.output = w.output
  size : w.heap.size ≤ w'.heap.size
  block : ∀ i, i < w.heap.size → ¬ F i → w'.heap[i]? = w.heap[i]?
  foot : ∀ i, F' i → F i ∨ w.heap.size ≤ i
section
variable {F F' F'' : Nat → Prop} {w w' w'' : World} {B : Nat}
theorem Turn.refl (F : Nat → Prop) (w : World) : Turn F w F w := ⟨rfl, rfl, rfl, Nat.le_refl _, fun _ _ _ => rfl, fun _ h => .inl h⟩
theorem Turn.trans (h : Turn F w F' w') (h' : Turn F' w' F'' w'') : Turn F w F'' w'' :=
  ⟨h'.os.trans h.os, h'.tape.trans h.tape, h'.output.trans h.output, Nat.le_trans h.size h'.size,
   fun i hi hf => (h'.block i (Nat.lt_of_lt_of_le hi h.size) (fun h1 => by rcases h.foot i h1 with h2 | h2; exact hf h2; omega)).trans (h.block i hi hf),
   fun i hi => by
    rcases h'.foot i hi with h1 | h1
    · exact h.foot i h1
    · exact .inr (Nat.le_trans h.size h1)⟩
theorem Turn.of_below (F : Nat → Prop) (h : Below w.heap.size w w') : Turn F w F w' := ⟨h.os, h.tape, h.output, h.size, fun i hi _ => h.block i hi, fun _ h => .inl h⟩
theorem Turn.of_grown {row : Option Nat} (h : w.grownBy w' row) (hF : ∀ i, row = some i → F i) : Turn F w F w' :=
  ⟨h.os, h.tape, h.output, h.size, fun i hi hf => h.block i hi (fun e => hf (hF i e.symm)), fun _ h => .inl h⟩
theorem Turn.below (h : Turn F w F' w') (hB : B ≤ w.heap.size) (hF : ∀ i, F i → B ≤ i) : Below B w w' :=
  ⟨h.os, h.tape, h.output, h.size, fun i hi => h.block i (Nat.lt_of_lt_of_le hi hB) (fun hf => by have := hF i hf; omega)⟩
theorem Rd.turn {A : Option Addr} {xs : List Value} (h : Rd w A xs) (ht : Turn F w F' w') (hA : ∀ a, A = some a → ¬ F a.block) : Rd w' A xs :=
  h.keep fun q e hq => ht.block _ hq (hA q e.symm)
theorem Hv.turn {p : Pay} (h : Hv w F p) (ht : Turn F w F' w') : Hv w' F' p := h.mono ht.size ht.block ht.foot
end

/-- What was done since all was made sure: no step that could not be done, names alone, and never more than 64 files. -/
inductive Hist (su : List (Bs × Bs)) : List (Stp Bs) → List (Bs × Bs) → Prop
  | nil : su.length ≤ 64 → (∀ t ∈ su, named t.1 = true) → Hist su [] su
  | snoc {st : List (Stp Bs)} {no : List (Bs × Bs)} (s : Stp Bs) : Hist su st no → (s.k ≠ 0 → hasF s.nm no = true) → (named s.nm = true ∧ (s.k = 1 → named s.to = true)) → (actF [] no s).length ≤ 64 → Hist su (st ++ [s]) (actF [] no s)
theorem Hist.le {su no : List (Bs × Bs)} {st : List (Stp Bs)} (h : Hist su st no) : su.length ≤ 64 ∧ no.length ≤ 64 := by
  induction h with
  | nil h _ => exact ⟨h, h⟩
  | snoc s _ _ _ h ih => exact ⟨ih.1, h⟩
theorem name_act {α : Type} {z : α} {l : List (Bs × α)} {s : Stp α} {p : Bs × α} (h : p ∈ actF z l s) : (∃ q ∈ l, q.1 = p.1) ∨ p.1 = s.nm ∨ (s.k = 1 ∧ p.1 = s.to) := by
  unfold actF at h
  split at h
  · rcases mem_put.1 h with rfl | h
    · exact .inr (.inl rfl)
    · exact .inl ⟨p, h.1, rfl⟩
  · split at h
    · rename_i h1
      rcases mem_put.1 h with rfl | h
      · exact .inr (.inr ⟨h1, rfl⟩)
      · exact .inl ⟨p, (mem_del.1 h.1).1, rfl⟩
    · exact .inl ⟨p, (mem_del.1 h).1, rfl⟩
theorem Hist.names {su no : List (Bs × Bs)} {st : List (Stp Bs)} (h : Hist su st no) : ∀ t ∈ no, named t.1 = true := by
  induction h with
  | nil _ h => exact h
  | snoc s _ _ hn _ ih =>
    intro t ht
    rcases name_act ht with ⟨q, hq, e⟩ | e | ⟨h1, e⟩
    · rw [← e]; exact ih q hq
    · rw [e]; exact hn.1
    · rw [e]; exact hn.2 h1

def cellsOf (s : Stp Pay) : List Value := [.int .i64 s.k, .string (str s.nm), .string (str s.to), s.b.1]
theorem stepV_cells (s : Stp Pay) : stepV s = .agg (cellsOf s).toArray := rfl
structure Dk (w : World) (B p : Nat) (F : Nat → Prop) (ba bb : Nat) (sv : Value) (Vs Vn : List (Bs × Pay)) (T : List (Stp Pay)) : Prop where
  cell : w.heap[p]? = some (.cells #[.map (some ba), .map (some bb), sv] 61)
  ms : MapIs w ba Vs
  mn : MapIs w bb Vn
  row : w.ownsRow B 76 4 sv T.length (T.flatMap cellsOf)
  hs : ∀ t ∈ Vs, Hv w F t.2
  hn : ∀ t ∈ Vn, Hv w F t.2
  ht : ∀ s ∈ T, Hv w F s.b ∧ s.k ≤ 2 ∧ s.nm.length ≤ 1000 ∧ s.to.length ≤ 1000
  foot : ∀ i, F i ↔ (i = p ∨ i = ba ∨ i = bb ∨ sv.ownBlock = some i)
  apart : p ≠ ba ∧ p ≠ bb ∧ ba ≠ bb ∧ sv.ownBlock ≠ some p ∧ sv.ownBlock ≠ some ba ∧ sv.ownBlock ≠ some bb
  low : B ≤ p ∧ B ≤ ba ∧ B ≤ bb
  few : T.length ≤ 4096
  hist : Hist (on2 Prod.snd Vs) (T.map (Stp.map Prod.snd)) (on2 Prod.snd Vn)
/-- The disk at block p: what is sure, what is, and the steps between; F: its own blocks, none of them below B. -/
def Disk (w : World) (B p : Nat) (F : Nat → Prop) (su no : List (Bs × Bs)) (st : List (Stp Bs)) : Prop :=
  ∃ ba bb sv Vs Vn T, Dk w B p F ba bb sv Vs Vn T ∧ su = on2 Prod.snd Vs ∧ no = on2 Prod.snd Vn ∧ st = T.map (Stp.map Prod.snd)
section
variable {w w' : World} {B p : Nat} {F : Nat → Prop} {ba bb : Nat} {sv : Value} {Vs Vn : List (Bs × Pay)} {T : List (Stp Pay)} {su no : List (Bs × Bs)} {st : List (Stp Bs)}
theorem Dk.lt (h : Dk w B p F ba bb sv Vs Vn T) : ∀ i, F i → B ≤ i ∧ i < w.heap.size := by
  intro i hi
  rcases (h.foot i).1 hi with rfl | rfl | rfl | h1
  · exact ⟨h.low.1, (Array.getElem?_eq_some_iff.1 h.cell).1⟩
  · exact ⟨h.low.2.1, h.ms.lt⟩
  · exact ⟨h.low.2.2, h.mn.lt⟩
  · exact h.row.lt i h1
theorem ownsRow_block {base e k n : Nat} {v : Value} {xs : List Value} (h : w.ownsRow base e k v n xs) (hb : ∀ i, v.ownBlock = some i → w'.heap[i]? = w.heap[i]?) : w'.ownsRow base e k v n xs := by
  obtain ⟨h1, h2⟩ := h
  refine ⟨h1, ?_⟩
  rcases h2 with h2 | ⟨g, cap, cur, rfl, a1, a2, a3⟩
  · exact .inl h2
  · exact .inr ⟨g, cap, cur, rfl, a1, (hb g rfl).trans a2, a3⟩
theorem Dk.below (h : Dk w B p F ba bb sv Vs Vn T) (hb : Below w.heap.size w w') : Dk w' B p F ba bb sv Vs Vn T := by
  have hl := h.lt
  have hk : ∀ i, F i → w'.heap[i]? = w.heap[i]? := fun i hi => hb.block i (hl i hi).2
  have ht := Turn.of_below F hb
  exact { h with
    cell := (hk p ((h.foot p).2 (.inl rfl))).trans h.cell
    ms := h.ms.block (hk _ ((h.foot ba).2 (.inr (.inl rfl))))
    mn := h.mn.block (hk _ ((h.foot bb).2 (.inr (.inr (.inl rfl)))))
    row := ownsRow_block h.row (fun i hi => hk i ((h.foot i).2 (.inr (.inr (.inr hi)))))
    hs := fun t ht' => (h.hs t ht').turn ht
    hn := fun t ht' => (h.hn t ht').turn ht
    ht := fun s hs => ⟨(h.ht s hs).1.turn ht, (h.ht s hs).2⟩ }
theorem Disk.below (h : Disk w B p F su no st) (hb : Below w.heap.size w w') : Disk w' B p F su no st := by
  obtain ⟨ba, bb, sv, Vs, Vn, T, hd, h1⟩ := h
  exact ⟨ba, bb, sv, Vs, Vn, T, hd.below hb, h1⟩
theorem Disk.lt (h : Disk w B p F su no st) : ∀ i, F i → B ≤ i ∧ i < w.heap.size := by
  obtain ⟨_, _, _, _, _, _, hd, _⟩ := h
  exact hd.lt
theorem Disk.hist (h : Disk w B p F su no st) : Hist su st no := by
  obtain ⟨_, _, _, _, _, _, hd, rfl, rfl, rfl⟩ := h
  exact hd.hist
theorem Disk.few (h : Disk w B p F su no st) : st.length ≤ 4096 := by
  obtain ⟨_, _, _, _, _, _, hd, rfl, rfl, rfl⟩ := h
  simpa using hd.few
theorem Dk.no_le (h : Dk w B p F ba bb sv Vs Vn T) : Vn.length ≤ 64 := by have := h.hist.le.2; rwa [on2_len] at this
theorem Dk.su_le (h : Dk w B p F ba bb sv Vs Vn T) : Vs.length ≤ 64 := by have := h.hist.le.1; rwa [on2_len] at this
end

/-- New. -/
theorem new_is (w : World) : Calls Tryd.prog 7 #[] w fun e w' => ∃ p F, e = .returned (.pointer (some ⟨p, 0, none⟩)) ∧ Below w.heap.size w w' ∧ Disk w' w.heap.size p F [] [] [] := by
  have hmm := @run_makeMap Tryd.prog
  go_enter Tryd.func7, Tryd.ntmps7
  go_wp2_with fail
  go_ret
  have m1 : MapIs (w.alloc (.map #[] 0)) w.heap.size [] := World.ownsMap_made w _ _ _
  have m2 : MapIs ((w.alloc (.map #[] 0)).alloc (.map #[] 0)) (w.heap.size + 1) [] := by
    have := World.ownsMap_made (w.alloc (.map #[] 0)) Tryd.prog 9 rv
    rw [World.size_alloc] at this
    exact this
  have hc := (MapKept.heap_alloc ((w.alloc (.map #[] 0)).alloc (.map #[] 0)) (.cells #[.map (some w.heap.size), .map (some (w.heap.size + 1)), .slice none 0 0] 61)).1
  rw [World.size_alloc, World.size_alloc] at hc
  refine ⟨w.heap.size + 1 + 1, fun i => i = w.heap.size + 1 + 1 ∨ i = w.heap.size ∨ i = w.heap.size + 1 ∨ (Value.slice none 0 0).ownBlock = some i, rfl, (((Below.refl _ w).alloc (Nat.le_refl _) _).alloc (by rw [World.size_alloc]; omega) _).alloc (by rw [World.size_alloc, World.size_alloc]; omega) _, w.heap.size, w.heap.size + 1, .slice none 0 0, [], [], [], ?_, rfl, rfl, rfl⟩
  exact { cell := hc, ms := (m1.alloc _).alloc _, mn := m2.alloc _, row := World.ownsRow_nil _ _ _ _, hs := fun t h => (by cases h), hn := fun t h => (by cases h), ht := fun t h => (by cases h), foot := fun i => Iff.rfl, apart := ⟨by omega, by omega, by omega, by simp [Value.ownBlock], by simp [Value.ownBlock], by simp [Value.ownBlock]⟩, low := ⟨by omega, by omega, by omega⟩, few := Nat.zero_le _, hist := Hist.nil (Nat.zero_le _) (fun t h => (by cases h)) }
theorem has_is (k : Bs) (hk : k.length ≤ 1000000) (p bb : Nat) (ma sv : Value) (Vn : List (Bs × Pay)) (w : World) (hc : w.heap[p]? = some (.cells #[ma, .map (some bb), sv] 61)) (hm : MapIs w bb Vn) :
    Calls Tryd.prog 28 #[.pointer (some ⟨p, 0, none⟩), .string (str k)] w fun e w' => e = .returned (.bool (hasF k Vn)) ∧ w = w' := by
  have c1 := cell_blk hc 1 rfl
  obtain ⟨v, hlook⟩ := hm.look_ok hk
  clear hc hm hk
  generalize str k = s at hlook ⊢
  generalize hasF k Vn = b at hlook ⊢
  go_enter Tryd.func28, Tryd.ntmps28
  go_wp2_with fail
  go_ret
  exact ⟨rfl, rfl⟩
theorem pending_is {B p : Nat} {F : Nat → Prop} {su no : List (Bs × Bs)} {st : List (Stp Bs)} (w : World) (hd : Disk w B p F su no st) :
    Calls Tryd.prog 11 #[.pointer (some ⟨p, 0, none⟩)] w fun e w' => e = .returned (.int .i64 st.length) ∧ w = w' := by
  obtain ⟨ba, bb, sv, Vs, Vn, T, hd, _, _, rfl⟩ := hd
  have c2 := cell_blk hd.cell 2 rfl
  have hr := hd.row
  have hn : (T.map (Stp.map Prod.snd)).length = T.length := by simp
  rw [hn]
  generalize T.length = n at hr ⊢
  have hv : ∃ A c, sv = .slice A n c := by
    rcases hr.2 with ⟨rfl, rfl⟩ | ⟨g, cap, cur, rfl, _⟩
    · exact ⟨_, _, rfl⟩
    · exact ⟨_, _, rfl⟩
  obtain ⟨A, c, rfl⟩ := hv
  clear hr hd hn
  go_enter Tryd.func11, Tryd.ntmps11
  go_wp2_with fail
  go_ret
  exact ⟨rfl, rfl⟩
theorem infoStep : (Tryd.prog.info? 76).map (fun i => (i.zero, i.size, i.bytes)) = some (some (.agg #[.int .i64 0, .string ⟨#[]⟩, .string ⟨#[]⟩, .slice none 0 0]), 4, 64) := by kernel_rfl
theorem keep_blk {w1 w2 W : World} {o : Obj} {row : Option Nat} {p : Nat} {x : Obj} (hg : W.grownBy w2 row) (hW : W.heap = w1.heap.push o) (hp : w1.heap[p]? = some x) (hr : some p ≠ row) : w2.heap[p]? = some x := by
  have hl := (Array.getElem?_eq_some_iff.1 hp).1
  have h1 := hg.block p (by rw [hW]; simp; omega) hr
  rw [h1, hW, Array.getElem?_push, if_neg (by omega)]
  exact hp
theorem setCell_2 {w : World} {p : Nat} {a b c v : Value} {t : TypeId} {fr : Nat × Nat} (h : w.heap[p]? = some (.cells #[a, b, c] t fr)) : (w.setCell ⟨p, 2, none⟩ v).heap[p]? = some (.cells #[a, b, v] t fr) := by
  simp [World.setCell, Array.getElem?_modify, h]
theorem setCell_1 {w : World} {p : Nat} {a b c v : Value} {t : TypeId} {fr : Nat × Nat} (h : w.heap[p]? = some (.cells #[a, b, c] t fr)) : (w.setCell ⟨p, 1, none⟩ v).heap[p]? = some (.cells #[a, v, c] t fr) := by
  simp [World.setCell, Array.getElem?_modify, h]
theorem Turn.setCell {F : Nat → Prop} {w : World} {a : Addr} (v : Value) (h : F a.block) : Turn F w F (w.setCell a v) :=
  ⟨rfl, rfl, rfl, by simp [World.setCell], fun i _ hf => Below.heap_setCell w a v i (fun e => hf (e ▸ h)), fun _ h => .inl h⟩
theorem Turn.sameHeap {F : Nat → Prop} {w w' : World} (h1 : w'.os = w.os) (h2 : w'.tape = w.tape) (h3 : w'.output = w.output) (h : w'.heap = w.heap) : Turn F w F w' :=
  ⟨h1, h2, h3, by rw [h]; exact Nat.le_refl _, fun i _ _ => by rw [h], fun _ h => .inl h⟩
theorem Turn.alloc (F : Nat → Prop) (w : World) (o : Obj) : Turn F w F (w.alloc o) := Turn.of_below F ((Below.refl _ _).alloc (Nat.le_refl _) _)
theorem Turn.widen {F F' : Nat → Prop} {w w' : World} (h : Turn F w F w') (hf : ∀ i, F' i → F i ∨ w.heap.size ≤ i) : Turn F w F' w' := { h with foot := hf }
theorem step_end {w w0 w1 w2 : World} {B p n g cap c : Nat} {F : Nat → Prop} {ba bb : Nat} {A : Option Addr} {Vs Vn V' : List (Bs × Pay)} {T : List (Stp Pay)} {xs : List Value} {o : Obj} (hn : T.length = n) (hd : Dk w B p F ba bb (.slice A T.length c) Vs Vn T) (_hB : B ≤ w.heap.size)
    (h0 : Below w.heap.size w w0) (hz : w.heap.size < w0.heap.size) (hm1 : MapIs w1 bb V') (hg1 : w0.drew.grownBy w1 (some bb)) (hown : w2.ownsRow B 76 4 (.slice (some ⟨g, 0, none⟩) (n + 1) cap) (n + 1) xs)
    (hg2 : (w1.alloc o).drew.grownBy w2 (Value.slice A n c).ownBlock) (hat : (Value.slice A n c).ownBlock = some g ∨ g = w1.heap.size + 1) (_hgl : g < w2.heap.size) (hp2 : w2.heap[p]? = some (.cells #[.map (some ba), .map (some bb), .slice A T.length c] 61)) :
    Turn F w (fun i => i = p ∨ i = ba ∨ i = bb ∨ i = g) (w2.setCell ⟨p, 2, none⟩ (.slice (some ⟨g, 0, none⟩) (n + 1) cap)) ∧
      (w2.setCell ⟨p, 2, none⟩ (.slice (some ⟨g, 0, none⟩) (n + 1) cap)).heap[p]? = some (.cells #[.map (some ba), .map (some bb), .slice (some ⟨g, 0, none⟩) (n + 1) cap] 61) ∧
      MapIs (w2.setCell ⟨p, 2, none⟩ (.slice (some ⟨g, 0, none⟩) (n + 1) cap)) ba Vs ∧ MapIs (w2.setCell ⟨p, 2, none⟩ (.slice (some ⟨g, 0, none⟩) (n + 1) cap)) bb V' ∧
      (w2.setCell ⟨p, 2, none⟩ (.slice (some ⟨g, 0, none⟩) (n + 1) cap)).ownsRow B 76 4 (.slice (some ⟨g, 0, none⟩) (n + 1) cap) (n + 1) xs ∧
      (∀ i, (i = p ∨ i = ba ∨ i = bb ∨ i = g) ↔ (i = p ∨ i = ba ∨ i = bb ∨ (Value.slice (some ⟨g, 0, none⟩) (n + 1) cap).ownBlock = some i)) ∧
      (p ≠ ba ∧ p ≠ bb ∧ ba ≠ bb ∧ (Value.slice (some ⟨g, 0, none⟩) (n + 1) cap).ownBlock ≠ some p ∧ (Value.slice (some ⟨g, 0, none⟩) (n + 1) cap).ownBlock ≠ some ba ∧ (Value.slice (some ⟨g, 0, none⟩) (n + 1) cap).ownBlock ≠ some bb) := by
  have hap := hd.apart
  have hlt := hd.lt
  have hF := hd.foot
  rw [hn] at hap hF
  have s1 := hg1.size
  have s1' : w0.drew.heap.size = w0.heap.size := rfl
  have ho : ∀ i, F i → i ≠ w1.heap.size + 1 := fun i hi => by have := (hlt i hi).2; omega
  have hgp : g ≠ p := by
    rcases hat with h | h
    · intro e; subst e; exact hap.2.2.2.1 h
    · have := ho p ((hF p).2 (.inl rfl)); omega
  have hga : g ≠ ba := by
    rcases hat with h | h
    · intro e; subst e; exact hap.2.2.2.2.1 h
    · have := ho ba ((hF ba).2 (.inr (.inl rfl))); omega
  have hgb : g ≠ bb := by
    rcases hat with h | h
    · intro e; subst e; exact hap.2.2.2.2.2 h
    · have := ho bb ((hF bb).2 (.inr (.inr (.inl rfl)))); omega
  have t0 := Turn.of_below F h0
  have t1 : Turn F w0 F w0.drew := Turn.sameHeap rfl rfl rfl rfl
  have t2 : Turn F w0.drew F w1 := Turn.of_grown hg1 (fun i e => by injection e with e; subst e; exact (hF _).2 (.inr (.inr (.inl rfl))))
  have t3 := Turn.alloc F w1 o
  have t4 : Turn F (w1.alloc o) F (w1.alloc o).drew := Turn.sameHeap rfl rfl rfl rfl
  have t5 : Turn F (w1.alloc o).drew F w2 := Turn.of_grown hg2 (fun i e => (hF _).2 (.inr (.inr (.inr e))))
  have t6 : Turn F w2 F (w2.setCell ⟨p, 2, none⟩ (.slice (some ⟨g, 0, none⟩) (n + 1) cap)) := Turn.setCell _ ((hF p).2 (.inl rfl))
  have hh : ∀ i, i < w1.heap.size → (Value.slice A n c).ownBlock ≠ some i → i ≠ p → (w2.setCell ⟨p, 2, none⟩ (.slice (some ⟨g, 0, none⟩) (n + 1) cap)).heap[i]? = w1.heap[i]? := fun i hi h1 h2 =>
    (Below.heap_setCell w2 _ _ i h2).trans ((hg2.block i (by show i < (w1.alloc o).heap.size; rw [World.size_alloc]; omega) (fun e => h1 e.symm)).trans (Below.heap_alloc w1 o i hi))
  refine ⟨(((((t0.trans t1).trans t2).trans t3).trans t4).trans (t5.trans t6)).widen ?_, setCell_2 hp2, ?_, ?_, ?_, ?_, hap.1, hap.2.1, hap.2.2.1, ?_, ?_, ?_⟩
  · rintro i (rfl | rfl | rfl | rfl)
    · exact .inl ((hF _).2 (.inl rfl))
    · exact .inl ((hF _).2 (.inr (.inl rfl)))
    · exact .inl ((hF _).2 (.inr (.inr (.inl rfl))))
    · rcases hat with h | h
      · exact .inl ((hF _).2 (.inr (.inr (.inr h))))
      · exact .inr (by omega)
  · have hl := (hlt ba ((hF ba).2 (.inr (.inl rfl)))).2
    have m1 : MapIs w1 ba Vs := (hd.ms.block (h0.block _ hl)).block (w' := w1) (hg1.block ba (by show ba < w0.heap.size; omega) (by intro h; injection h with h; exact hap.2.2.1 h))
    exact m1.block (hh ba m1.lt hap.2.2.2.2.1 (Ne.symm hap.1))
  · exact hm1.block (hh bb hm1.lt hap.2.2.2.2.2 (Ne.symm hap.2.1))
  · exact ownsRow_block hown (fun i hi => Below.heap_setCell w2 _ _ i (by simp [Value.ownBlock] at hi; subst hi; exact hgp))
  · intro i
    simp [Value.ownBlock, eq_comm]
  · simp [Value.ownBlock]; exact hgp
  · simp [Value.ownBlock]; exact hga
  · simp [Value.ownBlock]; exact hgb
set_option maxHeartbeats 1000000 in
set_option maxRecDepth 100000 in
/-- There is no room for a step. -/
theorem do_full {p : Nat} (ma mb : Value) (A : Option Addr) (c : Nat) (s : Stp Pay) (w : World) (hc : w.heap[p]? = some (.cells #[ma, mb, .slice A 4096 c] 61)) :
    Calls Tryd.prog 31 #[.pointer (some ⟨p, 0, none⟩), stepV s] w fun e w' => e = .returned (.iface 70 (.int .i64 10)) ∧ Below w.heap.size w w' := by
  have c2 := cell_blk hc 2 (v := .slice A 4096 c) rfl
  clear hc
  obtain ⟨a0, a1, a2, a3, ha⟩ : ∃ a0 a1 a2 a3, stepV s = .agg #[a0, a1, a2, a3] := ⟨_, _, _, _, rfl⟩
  rw [ha]
  clear ha
  have q3 : (w.alloc (.cells #[a0, a1, a2, a3] 76)).cell? ⟨p, 2, none⟩ = some (.slice A 4096 c) := (World.cell?_of_block (w := w) (a := ⟨p, 2, none⟩) (Below.heap_alloc w _ p (World.block_lt_of_cell? w _ c2))).trans c2
  go_enter Tryd.func31, Tryd.ntmps31
  go_wp2_with fail
  go_ret
  exact ⟨rfl, (Below.refl _ _).alloc (Nat.le_refl _) _⟩
set_option maxHeartbeats 1000000 in
set_option maxRecDepth 100000 in
theorem do_step {B p : Nat} {F : Nat → Prop} {ba bb : Nat} {sv : Value} {Vs Vn : List (Bs × Pay)} {T : List (Stp Pay)} (s : Stp Pay) (w : World) (hd : Dk w B p F ba bb sv Vs Vn T) (hB : B ≤ w.heap.size) (hr : T.length < 4096) (hs : Hv w F s.b ∧ s.k ≤ 2 ∧ s.nm.length ≤ 1000 ∧ s.to.length ≤ 1000) :
    Calls Tryd.prog 31 #[.pointer (some ⟨p, 0, none⟩), stepV s] w fun e w' => ∃ sv' F', e = .returned .nilIface ∧ Turn F w F' w' ∧ w'.heap[p]? = some (.cells #[.map (some ba), .map (some bb), sv'] 61) ∧
      MapIs w' ba Vs ∧ MapIs w' bb (actF nilPay Vn s) ∧ w'.ownsRow B 76 4 sv' (T.length + 1) (T.flatMap cellsOf ++ cellsOf s) ∧
      (∀ i, F' i ↔ (i = p ∨ i = ba ∨ i = bb ∨ sv'.ownBlock = some i)) ∧ (p ≠ ba ∧ p ≠ bb ∧ ba ≠ bb ∧ sv'.ownBlock ≠ some p ∧ sv'.ownBlock ≠ some ba ∧ sv'.ownBlock ≠ some bb) := by
  have hlt := hd.lt
  have hap := hd.apart
  have hpl : p < w.heap.size := (hlt p ((hd.foot p).2 (.inl rfl))).2
  obtain ⟨A, c, rfl, hcm⟩ : ∃ A c, sv = .slice A T.length c ∧ c ≤ maxLen := by
    rcases hd.row.2 with ⟨rfl, e⟩ | ⟨g, cap, cur, rfl, _, _, _, h, _⟩
    · exact ⟨_, _, by rw [e], Nat.zero_le _⟩
    · exact ⟨_, _, rfl, h⟩
  have c0 := cell_blk hd.cell 0 (v := .map (some ba)) rfl
  have c1 := cell_blk hd.cell 1 (v := .map (some bb)) rfl
  have c2 := cell_blk hd.cell 2 (v := .slice A T.length c) rfl
  have HD := Lib.hid hd
  have HS := Lib.hid hs
  have HLT := Lib.hid hlt
  have HAP := Lib.hid hap
  have HB := Lib.hid (And.intro hB (And.intro hpl hr))
  clear hd hs hlt hap hB
  obtain ⟨n, hn⟩ : ∃ n, T.length = n := ⟨_, rfl⟩
  have HN := Lib.hid hn
  rw [hn] at c2 hr
  clear hn
  have hne : ((n : Int) == 4096) = false := by simp; omega
  obtain ⟨a0, a1, a2, a3, ha⟩ : ∃ a0 a1 a2 a3, stepV s = .agg #[a0, a1, a2, a3] := ⟨_, _, _, _, rfl⟩
  have HA := Lib.hid ha
  rw [ha]
  clear ha
  have q1 := World.new_ne w ⟨p, 1, none⟩ c1
  have q2 := World.new_ne w ⟨p, 2, none⟩ c2
  go_enter Tryd.func31, Tryd.ntmps31
  go_wp2_with fail
  have hw0 := (Below.refl w.heap.size w).alloc (Nat.le_refl _) (.cells #[a0, a1, a2, a3] 76)
  have hb0 := (MapKept.heap_alloc w (.cells #[a0, a1, a2, a3] 76)).1
  have hz0 : (w.alloc (.cells #[a0, a1, a2, a3] 76)).heap.size = w.heap.size + 1 := by rw [World.size_alloc]
  generalize w.alloc (.cells #[a0, a1, a2, a3] 76) = w0 at hw0 hb0 hz0 ⊢
  have hd0 := HD.out.below hw0
  have c0' := cell_blk hd0.cell 0 (v := .map (some ba)) rfl
  have c1' := cell_blk hd0.cell 1 (v := .map (some bb)) rfl
  have c2' := cell_blk hd0.cell 2 (v := .slice A T.length c) rfl
  have k0 := cell_blk hb0 0 (v := a0) rfl
  have k1 := cell_blk hb0 1 (v := a1) rfl
  have k2 := cell_blk hb0 2 (v := a2) rfl
  have k3 := cell_blk hb0 3 (v := a3) rfl
  have HW0 := Lib.hid (And.intro hw0 (And.intro hb0 (And.intro hz0 hd0)))
  rw [HN.out] at c2'
  clear hw0 hb0 hz0 hd0 c0 c1 c2 q1 q2
  go_still_tail 5, (by kernel_rfl)
  change wpList _ _ _ _ _ w0.drew
  have d1 : w0.drew.cell? ⟨p, 1, none⟩ = _ := c1'
  have e0 : w0.drew.cell? ⟨w.heap.size, 0, none⟩ = _ := k0
  have e1 : w0.drew.cell? ⟨w.heap.size, 1, none⟩ = _ := k1
  have e2 : w0.drew.cell? ⟨w.heap.size, 2, none⟩ = _ := k2
  have e3 : w0.drew.cell? ⟨w.heap.size, 3, none⟩ = _ := k3
  have hon := on_is s HS.out.2.1 bb Vn w0.drew HW0.out.2.2.2.mn (by have := HD.out.no_le; omega) (by have := HS.out.2.2.1; omega) (by have := HS.out.2.2.2; omega)
  rw [HA.out] at hon
  have HON := Lib.hid hon
  clear hon
  go_wp2_with fail
  refine HON.out.mono ?_
  clear HON
  rintro e w1 ⟨rfl, hm1, hg1⟩
  have hp1 : w1.heap[p]? = some (.cells #[.map (some ba), .map (some bb), .slice A T.length c] 61) := (hg1.block p (by show p < w0.heap.size; have := HW0.out.2.2.1; have := HB.out.2.1; omega) (by have := HAP.out.2.1; intro h; injection h with h; omega)).trans HW0.out.2.2.2.cell
  have hb1 : w1.heap[w.heap.size]? = some (.cells #[a0, a1, a2, a3] 76) := (hg1.block _ (by show w.heap.size < w0.heap.size; have := HW0.out.2.2.1; omega) (by have := (HLT.out bb ((HD.out.foot bb).2 (.inr (.inr (.inl rfl))))).2; intro h; injection h with h; omega)).trans HW0.out.2.1
  clear d1 e0 e1 e2 e3 c0' c1' c2' k0 k1 k2 k3
  have c0 := cell_blk hp1 0 (v := .map (some ba)) rfl
  have c1 := cell_blk hp1 1 (v := .map (some bb)) rfl
  have c2 := cell_blk hp1 2 (v := .slice A T.length c) rfl
  have k0 := cell_blk hb1 0 (v := a0) rfl
  have k1 := cell_blk hb1 1 (v := a1) rfl
  have k2 := cell_blk hb1 2 (v := a2) rfl
  have k3 := cell_blk hb1 3 (v := a3) rfl
  have f2 : w1.frozen? ⟨p, 2, none⟩ = false := by simp [World.frozen?, hp1]
  rw [HN.out] at c2
  have q2 := World.new_ne w1 ⟨p, 2, none⟩ c2
  have q3 : (w1.alloc (.cells #[a0, a1, a2, a3] 76)).cell? ⟨p, 2, none⟩ = some (.slice A n c) := (World.cell?_of_block (w := w1) (a := ⟨p, 2, none⟩) (Below.heap_alloc w1 _ p (World.block_lt_of_cell? w1 _ c2))).trans c2
  obtain ⟨i0, hi0, hz0, hz1, hz2⟩ := info_parts infoStep
  have hrow1 : (w1.alloc (.cells #[a0, a1, a2, a3] 76)).ownsRow B 76 4 (.slice A n c) n (T.flatMap cellsOf) := by
    have h1 := HW0.out.2.2.2.row
    rw [HN.out] at h1
    refine (ownsRow_block (w' := w1) h1 (fun i hi => hg1.block i (h1.lt i hi).2 ?_)).alloc _
    intro h
    injection h with h
    subst h
    have := HAP.out.2.2.2.2.2
    rw [HN.out] at this
    exact this hi
  have HR := Lib.hid hrow1
  have HBZ := Lib.hid (show B ≤ (w1.alloc (.cells #[a0, a1, a2, a3] 76)).heap.size by rw [World.size_alloc]; have := hg1.size; have := HB.out.1; have := HW0.out.2.2.1; have e : w0.drew.heap.size = w0.heap.size := rfl; omega)
  have HONE := Lib.hid (show ∀ u ∈ [a0, a1, a2, a3], u.oneCell' = true by
    obtain ⟨⟨A', c', hv, _⟩, _⟩ := HS.out
    have h := HA.out
    simp only [stepV, Value.agg.injEq] at h
    have h' : [Value.int .i64 s.k, .string (str s.nm), .string (str s.to), s.b.1] = [a0, a1, a2, a3] := by simpa using h
    rw [hv] at h'
    rw [← h']
    intro u hu
    simp only [List.mem_cons, List.not_mem_nil, or_false] at hu
    rcases hu with rfl | rfl | rfl | rfl <;> rfl)
  have HRP := Lib.hid (show some p ≠ (Value.slice A n c).ownBlock by have := HAP.out.2.2.2.1; rw [HN.out] at this; exact fun h => this h.symm)
  have HY := Lib.hid (And.intro hm1 (And.intro hg1 (And.intro hp1 hb1)))
  clear hm1 hg1 hp1 hb1 hrow1
  go_wp2_with fail
  go_region_law ((refine step_append_lies _ (by rfl) _ _ _ (by rfl) B 76 i0 _ 4 64 Tryd.underlying59 hi0 hz0 hz1 hz2 rfl (by omega) (.slice A n c) n (T.flatMap cellsOf) (by rfl) HR.out ⟨w1.heap.size, 0, none⟩ 1 1 [a0, a1, a2, a3] (by rfl) (by rfl) (World.news_of_block (cs := #[a0, a1, a2, a3]) (t := 76) (fr := (0, 0)) (heap_alloc_new w1 _)) HONE.out (by omega) (by unfold maxLen; omega) (by omega) HBZ.out (w1.heap.size + 1) (by simp) ?_; intro g cap w2 hown2 hgrow2 hat2 hlt2; have hp2 := keep_blk hgrow2 (w1 := w1) (o := .cells #[a0, a1, a2, a3] 76) rfl HY.out.2.2.1 HRP.out; have c2' := cell_blk hp2 2 (v := .slice A T.length c) rfl; have f2' : w2.frozen? ⟨p, 2, none⟩ = false := (by simp [World.frozen?, hp2]); have HZ := Lib.hid (And.intro hown2 (And.intro hgrow2 (And.intro hat2 (And.intro hlt2 hp2)))); clear hown2 hgrow2 hat2 hlt2 hp2))
  all_goals
    have HC := Lib.hid (And.intro c2' f2')
    clear c2' f2' c0 c1 c2 k0 k1 k2 k3 f2 q2 q3
    go_wp2_with fail
    go_ret
    have hA : cellsOf s = [a0, a1, a2, a3] := by
      have h := HA.out
      simp only [stepV, Value.agg.injEq] at h
      simpa [cellsOf] using h
    rw [hA, HN.out]
    exact ⟨_, fun i => i = p ∨ i = ba ∨ i = bb ∨ i = g, rfl, step_end HN.out HD.out HB.out.1 HW0.out.1 (by have := HW0.out.2.2.1; omega) HY.out.1 HY.out.2.1 HZ.out.1 HZ.out.2.1 HZ.out.2.2.1 HZ.out.2.2.2.1 HZ.out.2.2.2.2⟩

/-- An error as a value: its number, 0 for none. -/
def errV (k : Nat) : Value := if k = 0 then .nilIface else .iface 70 (.int .i64 k)
theorem errV0 : errV 0 = .nilIface := rfl
theorem do_is {B p : Nat} {F : Nat → Prop} {su no : List (Bs × Bs)} {st : List (Stp Bs)} (s : Stp Pay) (σ : Stp Bs) (w : World) (hσ : s.map Prod.snd = σ) (hd : Disk w B p F su no st) (hB : B ≤ w.heap.size) (hs : Hv w F s.b ∧ s.k ≤ 2 ∧ s.nm.length ≤ 1000 ∧ s.to.length ≤ 1000)
    (hk : σ.k ≠ 0 → hasF σ.nm no = true) (hnm : named σ.nm = true ∧ (σ.k = 1 → named σ.to = true)) (hl : (actF [] no σ).length ≤ 64) :
    Calls Tryd.prog 31 #[.pointer (some ⟨p, 0, none⟩), stepV s] w fun e w' => ∃ F', Turn F w F' w' ∧
      ((4096 ≤ st.length ∧ e = .returned (errV 10) ∧ Disk w' B p F' su no st) ∨ (¬ 4096 ≤ st.length ∧ e = .returned (errV 0) ∧ Disk w' B p F' su (actF [] no σ) (st ++ [σ]))) := by
  have hfew := hd.few
  obtain ⟨ba, bb, sv, Vs, Vn, T, hd, rfl, rfl, rfl⟩ := hd
  rw [List.length_map] at hfew
  by_cases hf : T.length = 4096
  · obtain ⟨A, c, rfl⟩ : ∃ A c, sv = .slice A 4096 c := by
      rcases hd.row.2 with ⟨rfl, e⟩ | ⟨g, cap, cur, rfl, _⟩
      · omega
      · exact ⟨_, _, by rw [hf]⟩
    refine (do_full _ _ A c s w hd.cell).mono ?_
    rintro e w' ⟨rfl, hb⟩
    exact ⟨F, Turn.of_below F hb, .inl ⟨by simp; omega, rfl, ba, bb, _, Vs, Vn, T, hd.below hb, rfl, rfl, rfl⟩⟩
  · refine (do_step s w hd hB (by omega) hs).mono ?_
    rintro e w' ⟨sv', F', rfl, ht, hc, m1, m2, hr, hF, hap⟩
    refine ⟨F', ht, .inr ⟨by simp; omega, rfl, ba, bb, sv', Vs, actF nilPay Vn s, T ++ [s], ?_, rfl, ?_, by simp [hσ]⟩⟩
    · have hh := fun p hp => (hd.hn p hp)
      refine { cell := hc, ms := m1, mn := m2, row := by simpa using hr, hs := fun t h => (hd.hs t h).turn ht, hn := ?_, ht := ?_, foot := hF, apart := hap, low := hd.low, few := by simp; omega, hist := ?_ }
      · intro t h
        rcases mem_act h with h | h | h | ⟨q, hq, h⟩
        · exact (hd.hn t h).turn ht
        · rw [h]; exact hs.1.turn ht
        · rw [h]; exact Hv.nil _ _
        · rw [← h]; exact (hd.hn q hq).turn ht
      · intro t h
        rcases List.mem_append.1 h with h | h
        · exact ⟨(hd.ht t h).1.turn ht, (hd.ht t h).2⟩
        · rw [List.mem_singleton.1 h]; exact ⟨hs.1.turn ht, hs.2⟩
      · rw [on2_act, hσ, List.map_append, List.map_singleton, hσ]
        exact Hist.snoc σ hd.hist hk hnm hl
    · rw [on2_act, hσ]; rfl

/-- A step's error, by its number; 0: it is done. -/
def errOf (no : List (Bs × Bs)) (st : List (Stp Bs)) (σ : Stp Bs) : Nat :=
  if named σ.nm = false ∨ (σ.k = 1 ∧ named σ.to = false) then 11
  else if σ.k = 0 then (if 65536 < σ.b.length then 2 else if hasF σ.nm no = false ∧ 64 ≤ no.length then 10 else if 4096 ≤ st.length then 10 else 0)
  else if hasF σ.nm no = false then 8 else if 4096 ≤ st.length then 10 else 0
def noOf (no : List (Bs × Bs)) (st : List (Stp Bs)) (σ : Stp Bs) : List (Bs × Bs) := if errOf no st σ = 0 then actF [] no σ else no
def stOf (no : List (Bs × Bs)) (st : List (Stp Bs)) (σ : Stp Bs) : List (Stp Bs) := if errOf no st σ = 0 then st ++ [σ] else st
end Go.Proofs.YtljagggankmnkaaDoor

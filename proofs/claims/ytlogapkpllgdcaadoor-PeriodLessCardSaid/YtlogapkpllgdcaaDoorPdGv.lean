/- PdRow, PdGiveA, PdGive, in one text. -/
import Derived.Test.YtlogapkpllgdcaaDoorPdApp
import Derived.Test.YtlogapkpllgdcaaDoorPdMeant
import Derived.Test.YtlogapkpllgdcaaDoorRlI7
import Derived.Deep.RegionHeld3
/- Rows of spans, entries, periods that are made one by one: what is kept from step to step. -/
namespace Go.Proofs.YtlogapkpllgdcaaDoor
open Go.RowKit

def InB (P : Nat → Prop) (v : Value) : Prop := ∀ b, v.ownBlock = some b → P b
def HSpP (P : Nat → Prop) (W : World) (v : Value) (l : List Spn) : Prop := HSp W v l ∧ InB P v
def HInP (P : Nat → Prop) (W : World) (v : Value) (l : List Int) : Prop := HIn W v l ∧ InB P v
def HEnP (P : Nat → Prop) (W : World) (v : Value) (l : List Ent) : Prop :=
  InB P v ∧ ∃ A c, ∃ S : Nat → Value, v = .slice A l.length c ∧ l.length ≤ c ∧ c ≤ maxLen ∧ ∀ k, k < l.length → (∃ ad X, A = some ad ∧ ad.add (k * 11) = X ∧ EnAt W X (l.getD k dE).r (S k)) ∧ HSpP P W (S k) (l.getD k dE).sp
theorem HEnP.plain {P : Nat → Prop} {W : World} {v : Value} {l : List Ent} (h : HEnP P W v l) : HEn W v l := by
  obtain ⟨_, A, c, S, e, h1, h2, h3⟩ := h
  exact ⟨A, c, S, e, h1, h2, fun k hk => ⟨(h3 k hk).1, (h3 k hk).2.1⟩⟩
section
variable {P : Nat → Prop} {W W' : World} {v : Value}
theorem cell_same {a : Addr} {u : Value} (h : W.cell? a = some u) (hb : W'.heap[a.block]? = W.heap[a.block]?) : W'.cell? a = some u := (World.cell?_of_block hb).trans h
theorem HSpP.keep {l : List Spn} (h : HSpP P W v l) (hk : ∀ b, P b → b < W.heap.size → W'.heap[b]? = W.heap[b]?) : HSpP P W' v l := by
  obtain ⟨⟨A, c, rfl, h1, h2, h3⟩, hp⟩ := h
  refine ⟨⟨A, c, rfl, h1, h2, fun k hk' => ?_⟩, hp⟩
  obtain ⟨ad, X, rfl, hX, e1, e2⟩ := h3 k hk'
  have hb : X.block = ad.block := by rw [← hX, block_add]
  have hs := hk X.block (by rw [hb]; exact hp _ rfl) (World.block_lt_of_cell? W X e1)
  exact ⟨ad, X, rfl, hX, cell_same e1 hs, cell_same (a := { block := X.block, off := X.off + 1 }) e2 hs⟩
theorem HInP.keep {l : List Int} (h : HInP P W v l) (hk : ∀ b, P b → b < W.heap.size → W'.heap[b]? = W.heap[b]?) : HInP P W' v l := by
  obtain ⟨⟨A, c, rfl, h1, h2, h3⟩, hp⟩ := h
  refine ⟨⟨A, c, rfl, h1, h2, fun k hk' => ?_⟩, hp⟩
  obtain ⟨ad, rfl, e1⟩ := h3 k hk'
  have hb : (ad.add k).block = ad.block := block_add ad k
  have hs := hk (ad.add k).block (by rw [hb]; exact hp _ rfl) (World.block_lt_of_cell? W _ e1)
  exact ⟨ad, rfl, cell_same e1 hs⟩
theorem EnAt.same {X : Addr} {r : Rl} {s : Value} (h : EnAt W X r s) (hb : W'.heap[X.block]? = W.heap[X.block]?) : EnAt W' X r s := by
  obtain ⟨c0, c1, c2, c3, c4, c5, c6, c7, c8, c9, c10⟩ := h
  exact ⟨cell_same c0 hb, cell_same (a := { block := X.block, off := X.off + 1 }) c1 hb, cell_same (a := { block := X.block, off := X.off + 2 }) c2 hb, cell_same (a := { block := X.block, off := X.off + 3 }) c3 hb, cell_same (a := { block := X.block, off := X.off + 4 }) c4 hb, cell_same (a := { block := X.block, off := X.off + 5 }) c5 hb, cell_same (a := { block := X.block, off := X.off + 6 }) c6 hb, cell_same (a := { block := X.block, off := X.off + 7 }) c7 hb, cell_same (a := { block := X.block, off := X.off + 8 }) c8 hb, cell_same (a := { block := X.block, off := X.off + 9 }) c9 hb, cell_same (a := { block := X.block, off := X.off + 10 }) c10 hb⟩
theorem HEnP.keep {l : List Ent} (h : HEnP P W v l) (hk : ∀ b, P b → b < W.heap.size → W'.heap[b]? = W.heap[b]?) : HEnP P W' v l := by
  obtain ⟨hp, A, c, S, rfl, h1, h2, h3⟩ := h
  refine ⟨hp, A, c, S, rfl, h1, h2, fun k hk' => ?_⟩
  obtain ⟨⟨ad, X, rfl, hX, e1⟩, e2⟩ := h3 k hk'
  have hb : X.block = ad.block := by rw [← hX, block_add]
  have hs := hk X.block (by rw [hb]; exact hp _ rfl) (World.block_lt_of_cell? W X e1.1)
  exact ⟨⟨ad, X, rfl, hX, e1.same hs⟩, e2.keep hk⟩
theorem InB.mono {P' : Nat → Prop} (h : InB P v) (hp : ∀ b, P b → P' b) : InB P' v := fun b hb => hp b (h b hb)
theorem HSpP.mono {P' : Nat → Prop} {l : List Spn} (h : HSpP P W v l) (hp : ∀ b, P b → P' b) : HSpP P' W v l := ⟨h.1, h.2.mono hp⟩
theorem HInP.mono {P' : Nat → Prop} {l : List Int} (h : HInP P W v l) (hp : ∀ b, P b → P' b) : HInP P' W v l := ⟨h.1, h.2.mono hp⟩
theorem HEnP.mono {P' : Nat → Prop} {l : List Ent} (h : HEnP P W v l) (hp : ∀ b, P b → P' b) : HEnP P' W v l := by
  obtain ⟨h0, A, c, S, rfl, h1, h2, h3⟩ := h
  exact ⟨h0.mono hp, A, c, S, rfl, h1, h2, fun k hk => ⟨(h3 k hk).1, (h3 k hk).2.mono hp⟩⟩
end
/-- Cells of an entry, and of a period. -/
def enC (p : Ent × Value) : List Value := (encs p.1.r p.2).toList
def pdC (p : Prd × Value × Value) : List Value := [p.2.1, p.2.2]
theorem elE : ElemK Tryd.prog 60 59 (.agg (encs ⟨0, 0, 0, 0, 0, 0, 0, 0, 0, 0⟩ (.slice none 0 0))) 11 104 := ⟨Tryd.underlying60, by kernel_rfl, rfl, by decide⟩
theorem elP : ElemK Tryd.prog 26 62 (.agg #[.slice none 0 0, .slice none 0 0]) 2 48 := ⟨Tryd.underlying26, by kernel_rfl, rfl, by decide⟩
/-- A row of entries, each with its spans elsewhere. -/
theorem HEnP.of_rd {P : Nat → Prop} {W : World} {A : Option Addr} {c n : Nat} {T : List (Ent × Value)} {es : List Ent} (hT : T.map (·.1) = es) (hn : es.length = n) (hc : n ≤ c) (hm : c ≤ maxLen) (h : Rd W A (T.flatMap enC)) (hv : InB P (.slice A n c))
    (hs : ∀ p ∈ T, HSpP P W p.2 p.1.sp) : HEnP P W (.slice A n c) es := by
  subst hT hn
  have hlen : T.length = (T.map (·.1)).length := by simp
  refine ⟨hv, A, c, fun k => (T.getD k (dE, .slice none 0 0)).2, rfl, hc, hm, fun k hk => ?_⟩
  have hk' : k < T.length := by omega
  have e1 : (T.map (·.1)).getD k dE = (T.getD k (dE, .slice none 0 0)).1 := by
    rw [List.getD_eq_getElem?_getD, List.getD_eq_getElem?_getD, List.getElem?_map, List.getElem?_eq_getElem hk']
    rfl
  rw [e1]
  refine ⟨?_, hs _ (getD_mem hk' _)⟩
  obtain ⟨ad, e, hcell⟩ := h (by rw [flat_len enC 11 (fun _ => rfl)]; omega)
  have hg : ∀ j u, j < 11 → (enC (T.getD k (dE, .slice none 0 0)))[j]? = some u → W.cell? ((ad.add (k * 11)).add j) = some u := fun j u hj hu => by
    rw [add_add']
    exact hcell _ u (by rw [flat_get enC 11 (fun _ => rfl) T (dE, .slice none 0 0) k hk' j hj]; exact hu)
  exact ⟨ad, _, e, rfl, hg 0 _ (by omega) rfl, hg 1 _ (by omega) rfl, hg 2 _ (by omega) rfl, hg 3 _ (by omega) rfl, hg 4 _ (by omega) rfl, hg 5 _ (by omega) rfl, hg 6 _ (by omega) rfl, hg 7 _ (by omega) rfl, hg 8 _ (by omega) rfl, hg 9 _ (by omega) rfl, hg 10 _ (by omega) rfl⟩
/-- A row of periods. -/
theorem HPd.of_rd {W : World} {A : Option Addr} {c n : Nat} {T : List (Prd × Value × Value)} {l : List Prd} (hT : T.map (·.1) = l) (hn : l.length = n) (hc : n ≤ c) (hm : c ≤ maxLen) (h : Rd W A (T.flatMap pdC))
    (hs : ∀ p ∈ T, HEn W p.2.1 p.1.es ∧ HIn W p.2.2 p.1.ex) : HPd W (.slice A n c) l := by
  subst hT hn
  have hlen : T.length = (T.map (·.1)).length := by simp
  refine ⟨A, c, fun k => (T.getD k (dP, .slice none 0 0, .slice none 0 0)).2.1, fun k => (T.getD k (dP, .slice none 0 0, .slice none 0 0)).2.2, rfl, hc, hm, fun k hk => ?_⟩
  have hk' : k < T.length := by omega
  have e1 : (T.map (·.1)).getD k dP = (T.getD k (dP, .slice none 0 0, .slice none 0 0)).1 := by
    rw [List.getD_eq_getElem?_getD, List.getD_eq_getElem?_getD, List.getElem?_map, List.getElem?_eq_getElem hk']
    rfl
  rw [e1]
  refine ⟨?_, hs _ (getD_mem hk' _)⟩
  obtain ⟨ad, e, hcell⟩ := h (by rw [flat_len pdC 2 (fun _ => rfl)]; omega)
  have hg : ∀ j u, j < 2 → (pdC (T.getD k (dP, .slice none 0 0, .slice none 0 0)))[j]? = some u → W.cell? ((ad.add (k * 2)).add j) = some u := fun j u hj hu => by
    rw [add_add']
    exact hcell _ u (by rw [flat_get pdC 2 (fun _ => rfl) T (dP, .slice none 0 0, .slice none 0 0) k hk' j hj]; exact hu)
  exact ⟨ad, _, e, rfl, hg 0 _ (by omega) rfl, hg 1 _ (by omega) rfl⟩
end Go.Proofs.YtlogapkpllgdcaaDoor
/- givePeriods: what its three loops keep. -/
namespace Go.Proofs.YtlogapkpllgdcaaDoor
open Go.RowKit

theorem grown_set {W : World} (p : Addr) (u : Value) : W.grownBy (W.setCell p u) (some p.block) :=
  ⟨rfl, rfl, rfl, by simp, fun k _ hk => heap_setCell_other W p k u fun e => hk (by rw [e])⟩
/-- The spans of an entry: block, row. -/
structure L3 (w3 : World) (r : Rl) (sp : List Spn) (q : Nat) (sv : Value) (W : World) : Prop where
  blk : W.heap[w3.heap.size]? = some (.cells (encs r sv) 59 (0, 0))
  own : W.ownsRow (w3.heap.size + 1) 41 2 sv q ((sp.take q).flatMap spC)
  below : Below w3.heap.size w3 W
theorem L3.drew {w3 : World} {r : Rl} {sp : List Spn} {q : Nat} {sv : Value} {W : World} (h : L3 w3 r sp q sv W) : L3 w3 r sp q sv W.drew := ⟨h.blk, h.own, h.below.drew⟩
theorem L3.alloc {w3 : World} {r : Rl} {sp : List Spn} {q : Nat} {sv : Value} {W : World} (h : L3 w3 r sp q sv W) (o : Obj) : L3 w3 r sp q sv (W.alloc o) :=
  ⟨(Below.heap_alloc W o _ (Array.getElem?_eq_some_iff.1 h.blk).1).trans h.blk, h.own.alloc o, h.below.alloc h.below.size o⟩
/-- One span more. -/
theorem L3.step {w3 : World} {r : Rl} {sp : List Spn} {q : Nat} {sv sv' : Value} {W W' : World} (h : L3 w3 r sp q sv W) (hq : q < sp.length)
    (ho : W'.ownsRow (w3.heap.size + 1) 41 2 sv' (q + 1) ((sp.take q).flatMap spC ++ spC (sp.getD q dS))) (hg : W.grownBy W' sv.ownBlock) :
    L3 w3 r sp (q + 1) sv' (W'.setCell ⟨w3.heap.size, 10, none⟩ sv') := by
  have hlt := (Array.getElem?_eq_some_iff.1 h.blk).1
  have hne : some w3.heap.size ≠ sv.ownBlock := fun e => by have := (h.own.lt _ e.symm).1; omega
  have hb := (hg.block _ hlt hne).trans h.blk
  refine ⟨?_, ?_, ?_⟩
  · have := heap_setCell_same W' w3.heap.size 10 _ _ sv' hb
    exact this
  · have e : (sp.take (q + 1)).flatMap spC = (sp.take q).flatMap spC ++ spC (sp.getD q dS) := by
      rw [List.take_add_one, getD_some hq dS, List.flatMap_append]
      simp
    rw [e]
    refine ho.kept (grown_set _ _) ?_
    cases hv : sv'.ownBlock
    · exact .inl rfl
    · rename_i b
      refine .inr fun e' => ?_
      have := (ho.lt _ hv).1
      injection e' with e'
      have e2 : b = w3.heap.size := e'
      omega
  · exact (h.below.grown hg h.below.size (fun k hk => by have := (h.own.lt k hk).1; omega)).setCell (p := ⟨w3.heap.size, 10, none⟩) (Nat.le_refl _) _
/-- What the blocks of done entries are: above the period's, not the row's. -/
def P2 (bp : Nat) (ev : Value) (W : World) (b : Nat) : Prop := bp < b ∧ some b ≠ ev.ownBlock ∧ b < W.heap.size
/-- The entries of a period. -/
structure L2 (wr : World) (es : List Ent) (k : Nat) (ev : Value) (T : List (Ent × Value)) (W : World) : Prop where
  len : T.length = k
  fst : T.map (·.1) = es.take k
  blk : W.heap[wr.heap.size]? = some (.cells #[ev, .slice none 0 0] 62 (0, 0))
  own : W.ownsRow (wr.heap.size + 1) 59 11 ev k (T.flatMap enC)
  sp : ∀ p ∈ T, HSpP (P2 wr.heap.size ev W) W p.2 p.1.sp
  below : Below wr.heap.size wr W
/-- New blocks change nothing. -/
theorem L2.mono {wr : World} {es : List Ent} {k : Nat} {ev : Value} {T : List (Ent × Value)} {W W' : World} (h : L2 wr es k ev T W) (hb : Below W.heap.size W W') : L2 wr es k ev T W' :=
  ⟨h.len, h.fst, (hb.block _ (Array.getElem?_eq_some_iff.1 h.blk).1).trans h.blk, owns_below7 h.own hb, fun p hp => ((h.sp p hp).keep fun b hb' _ => hb.block b hb'.2.2).mono fun _ hb' => ⟨hb'.1, hb'.2.1, Nat.lt_of_lt_of_le hb'.2.2 hb.size⟩, h.below.trans (hb.mono h.below.size)⟩
/-- One entry more: V is the world ahead of the append. -/
theorem L2.step {wr : World} {es : List Ent} {k : Nat} {ev ev' sv : Value} {T : List (Ent × Value)} {V W' : World} (h : L2 wr es k ev T V) (hk : k < es.length)
    (hsv : HSpP (P2 wr.heap.size ev V) V sv (es.getD k dE).sp)
    (ho : W'.ownsRow (wr.heap.size + 1) 59 11 ev' (k + 1) (T.flatMap enC ++ enC (es.getD k dE, sv))) (hg : V.grownBy W' ev.ownBlock) (ha : ev'.ownBlock = ev.ownBlock ∨ ev'.ownBlock = some V.heap.size) :
    L2 wr es (k + 1) ev' (T ++ [(es.getD k dE, sv)]) (W'.setCell ⟨wr.heap.size, 0, none⟩ ev') := by
  have hlt := (Array.getElem?_eq_some_iff.1 h.blk).1
  have hne : some wr.heap.size ≠ ev.ownBlock := fun e => by have := (h.own.lt _ e.symm).1; omega
  have hb := (hg.block _ hlt hne).trans h.blk
  have hk2 : ∀ b, P2 wr.heap.size ev V b → b < V.heap.size → (W'.setCell ⟨wr.heap.size, 0, none⟩ ev').heap[b]? = V.heap[b]? := fun b hb' hl =>
    (heap_setCell_other W' ⟨wr.heap.size, 0, none⟩ b _ (by have := hb'.1; show b ≠ wr.heap.size; omega)).trans (hg.block b hl hb'.2.1)
  have hm : ∀ b, P2 wr.heap.size ev V b → P2 wr.heap.size ev' (W'.setCell ⟨wr.heap.size, 0, none⟩ ev') b := fun b hb' => by
    refine ⟨hb'.1, ?_, by have h1 := hb'.2.2; have h2 := hg.size; simpa using Nat.lt_of_lt_of_le h1 h2⟩
    rcases ha with e | e
    · rw [e]; exact hb'.2.1
    · rw [e]; intro e'; injection e' with e'; have := hb'.2.2; omega
  refine ⟨by rw [List.length_append, h.len]; rfl, ?_, ?_, ?_, fun p hp => ?_, ?_⟩
  · rw [List.map_append, h.fst, List.take_add_one, getD_some hk dE]; rfl
  · have := heap_setCell_same W' wr.heap.size 0 _ _ ev' hb
    exact this
  · rw [flat_snoc]
    refine ho.kept (grown_set _ _) ?_
    cases hv : ev'.ownBlock
    · exact .inl rfl
    · rename_i b
      refine .inr fun e' => ?_
      have := (ho.lt _ hv).1
      injection e' with e'
      have e2 : b = wr.heap.size := e'
      omega
  · rcases List.mem_append.1 hp with hp | hp
    · exact ((h.sp p hp).keep hk2).mono hm
    · rw [List.mem_singleton.1 hp]
      exact (hsv.keep hk2).mono hm
  · exact (h.below.grown hg h.below.size (fun k hk => by have := (h.own.lt k hk).1; omega)).setCell (p := ⟨wr.heap.size, 0, none⟩) (Nat.le_refl _) _
/-- What the blocks of done periods are: not the row's. -/
def P1 (ov : Value) (W : World) (b : Nat) : Prop := some b ≠ ov.ownBlock ∧ b < W.heap.size
/-- The periods. -/
structure L1 (w : World) (l : List Prd) (i : Nat) (ov : Value) (T : List (Prd × Value × Value)) (W : World) : Prop where
  len : T.length = i
  fst : T.map (·.1) = l.take i
  own : W.ownsRow w.heap.size 62 2 ov i (T.flatMap pdC)
  es : ∀ p ∈ T, HEnP (P1 ov W) W p.2.1 p.1.es ∧ HInP (P1 ov W) W p.2.2 p.1.ex
  below : Below w.heap.size w W
theorem L1.mono {w : World} {l : List Prd} {i : Nat} {ov : Value} {T : List (Prd × Value × Value)} {W W' : World} (h : L1 w l i ov T W) (hb : Below W.heap.size W W') : L1 w l i ov T W' :=
  ⟨h.len, h.fst, owns_below7 h.own hb, fun p hp => ⟨((h.es p hp).1.keep fun b hb' _ => hb.block b hb'.2).mono fun _ hb' => ⟨hb'.1, Nat.lt_of_lt_of_le hb'.2 hb.size⟩, ((h.es p hp).2.keep fun b hb' _ => hb.block b hb'.2).mono fun _ hb' => ⟨hb'.1, Nat.lt_of_lt_of_le hb'.2 hb.size⟩⟩, h.below.trans (hb.mono h.below.size)⟩
/-- One period more: V is the world ahead of the append. -/
theorem L1.step {w : World} {l : List Prd} {i : Nat} {ov ov' ev xv : Value} {T : List (Prd × Value × Value)} {V W' : World} (h : L1 w l i ov T V) (hi : i < l.length)
    (hes : HEnP (P1 ov V) V ev (l.getD i dP).es) (hex : HInP (P1 ov V) V xv (l.getD i dP).ex)
    (ho : W'.ownsRow w.heap.size 62 2 ov' (i + 1) (T.flatMap pdC ++ pdC (l.getD i dP, ev, xv))) (hg : V.grownBy W' ov.ownBlock) (ha : ov'.ownBlock = ov.ownBlock ∨ ov'.ownBlock = some V.heap.size) :
    L1 w l (i + 1) ov' (T ++ [(l.getD i dP, ev, xv)]) W' := by
  have hk2 : ∀ b, P1 ov V b → b < V.heap.size → W'.heap[b]? = V.heap[b]? := fun b hb' hl => hg.block b hl hb'.1
  have hm : ∀ b, P1 ov V b → P1 ov' W' b := fun b hb' => by
    refine ⟨?_, Nat.lt_of_lt_of_le hb'.2 hg.size⟩
    rcases ha with e | e
    · rw [e]; exact hb'.1
    · rw [e]; intro e'; injection e' with e'; have := hb'.2; omega
  refine ⟨by rw [List.length_append, h.len]; rfl, ?_, by rw [flat_snoc]; exact ho, fun p hp => ?_, h.below.grown hg h.below.size (fun k hk => (h.own.lt k hk).1)⟩
  · rw [List.map_append, h.fst, List.take_add_one, getD_some hi dP]; rfl
  · rcases List.mem_append.1 hp with hp | hp
    · exact ⟨((h.es p hp).1.keep hk2).mono hm, ((h.es p hp).2.keep hk2).mono hm⟩
    · rw [List.mem_singleton.1 hp]
      exact ⟨(hes.keep hk2).mono hm, (hex.keep hk2).mono hm⟩
theorem L1.done {w : World} {l : List Prd} {i : Nat} {ov : Value} {T : List (Prd × Value × Value)} {W : World} (h : L1 w l i ov T W) (hi : i = l.length) : HPd W ov l := by
  subst hi
  obtain ⟨A, c, e, h1, h2, h3, h4⟩ := ownsK_form h.own
  rw [e]
  exact HPd.of_rd (by rw [h.fst, List.take_length]) rfl h1 h2 h4 fun p hp => ⟨(h.es p hp).1.plain, (h.es p hp).2.1⟩
set_option maxRecDepth 100000 in
theorem giveR7_any (r : Rl) (w : World) :
    Calls Tryd.prog 12 #[rv r] w fun e w' => e = .returned (rv r) ∧ Below w.heap.size w w' := by
  obtain ⟨k, mo, n, wk, fy, fm, fd, ty, tm, td⟩ := r
  unfold rv
  have HB := Lib.hid (((Below.refl w.heap.size w).alloc (Nat.le_refl _) (.cells #[.int .i64 k, .int .i64 mo, .int .i64 n, .int .i64 wk, .int .i64 fy, .int .i64 fm, .int .i64 fd, .int .i64 ty, .int .i64 tm, .int .i64 td] 51)))
  go_enter Tryd.func12, Tryd.ntmps12
  go_wp2_with fail
  refine bodyPost_ret (results_cell_row rfl _ _ (w.heap.size + 1) _ _ (0, 0) _ rfl (heap_new2 _ _ _) Tryd.underlying57 rfl (by kernel_rfl)) rfl ?_
  exact ⟨rfl, HB.out.alloc HB.out.size _⟩
end Go.Proofs.YtlogapkpllgdcaaDoor
/- Contract: givePeriods. -/
namespace Go.Proofs.YtlogapkpllgdcaaDoor
open Go.RowKit

theorem L3.grown_blk {w3 : World} {r : Rl} {sp : List Spn} {q : Nat} {sv : Value} {W W' : World} (h : L3 w3 r sp q sv W) (hg : W.grownBy W' sv.ownBlock) : W'.heap[w3.heap.size]? = some (.cells (encs r sv) 59 (0, 0)) :=
  (hg.block _ (Array.getElem?_eq_some_iff.1 h.blk).1 (fun e => by have := (h.own.lt _ e.symm).1; omega)).trans h.blk
theorem elIK : ElemK Tryd.prog 44 3 (.int .i64 0) 1 8 := ⟨Tryd.underlying44, by kernel_rfl, rfl, by decide⟩
theorem intL_one7 (l : List Int) : ∀ u ∈ intL l, u.oneCell' = true := by
  intro u hu
  obtain ⟨c, _, rfl⟩ := List.mem_map.1 hu
  rfl
theorem HIn.of_rd {w : World} {A : Option Addr} {c n : Nat} {l : List Int} (hn : l.length = n) (hc : n ≤ c) (hm : c ≤ maxLen) (h : Rd w A (intL l)) : HIn w (.slice A n c) l := by
  subst hn
  refine ⟨A, c, rfl, hc, hm, fun k hk => ?_⟩
  obtain ⟨ad, e, hcell⟩ := h (by rw [intL_length]; omega)
  exact ⟨ad, e, hcell k _ (by unfold intL; rw [List.getElem?_map, getD_some hk 0]; rfl)⟩
theorem HIn.rd {w : World} {v : Value} {l : List Int} (h : HIn w v l) : ∃ A c, v = .slice A l.length c ∧ l.length ≤ c ∧ c ≤ maxLen ∧ Rd w A (intL l) := by
  obtain ⟨A, c, rfl, h1, h2, h3⟩ := h
  refine ⟨A, c, rfl, h1, h2, fun hn => ?_⟩
  rw [intL_length] at hn
  obtain ⟨ad, e, _⟩ := h3 0 hn
  refine ⟨ad, e, fun j u hu => ?_⟩
  have hj := (List.getElem?_eq_some_iff.1 hu).1
  rw [intL_length] at hj
  obtain ⟨ad', e', hc⟩ := h3 j hj
  rw [e] at e'
  injection e' with e'
  subst e'
  unfold intL at hu
  rw [List.getElem?_map, getD_some hj 0] at hu
  rw [hc]
  exact hu
/-- Behind the excludes' append: what the period's two fields hold. -/
def GiveX (wo : World) (es : List Ent) (ex : List Int) (ev xv : Value) (W : World) : Prop :=
  W.heap[wo.heap.size]? = some (.cells #[ev, xv] 62 (0, 0)) ∧ HEnP (fun b => wo.heap.size < b ∧ b < W.heap.size) W ev es ∧ HInP (fun b => wo.heap.size < b ∧ b < W.heap.size) W xv ex
theorem give_ex {wo w2 w5 : World} {es : List Ent} {ex : List Int} {ev : Value} {T : List (Ent × Value)} {ne mu c5 : Nat} {A5 : Option Addr} (h : L2 wo es ne ev T w2) (hne : es.length = ne) (hgb : ∀ b, b < w2.heap.size → w5.heap[b]? = w2.heap[b]?) (hsz : w2.heap.size ≤ w5.heap.size)
    (hmu : ex.length = mu) (q1 : mu ≤ c5) (q2 : c5 ≤ maxLen) (q4 : Rd w5 A5 (intL ex)) (hlt : ∀ k, (Value.slice A5 mu c5).ownBlock = some k → wo.heap.size + 1 ≤ k ∧ k < w5.heap.size)
    (hbk : w5.heap[wo.heap.size]? = some (.cells #[ev, .slice none 0 0] 62 (0, 0))) : GiveX wo es ex ev (.slice A5 mu c5) (w5.setCell ⟨wo.heap.size, 1, none⟩ (.slice A5 mu c5)) := by
  have hst := heap_setCell_same w5 wo.heap.size 1 _ _ (.slice A5 mu c5) hbk
  have hk : ∀ b, wo.heap.size < b → b < w5.heap.size → (w5.setCell ⟨wo.heap.size, 1, none⟩ (.slice A5 mu c5)).heap[b]? = w5.heap[b]? := fun b hb _ => heap_setCell_other w5 ⟨wo.heap.size, 1, none⟩ b _ (by show b ≠ wo.heap.size; omega)
  have hfst : T.map (·.1) = es := by rw [h.fst, ← hne, List.take_length]
  obtain ⟨A, c, e, h1, h2, _, h4⟩ := ownsK_form h.own
  have hown := h.own.lt
  rw [e] at hown
  refine ⟨hst, ?_, ?_⟩
  · rw [e]
    have hp : HEnP (fun b => wo.heap.size < b ∧ b < w2.heap.size) w2 (.slice A ne c) es := HEnP.of_rd hfst hne h1 h2 h4 (fun b hb => by have := hown b hb; omega) fun p hp => (h.sp p hp).mono fun b hb => ⟨hb.1, hb.2.2⟩
    refine (hp.keep (W' := w5.setCell ⟨wo.heap.size, 1, none⟩ (.slice A5 mu c5)) fun b hb hl => (hk b hb.1 (by omega)).trans (hgb b hl)).mono fun b hb => ⟨hb.1, by have := hb.2; simp; omega⟩
  · have hp : HInP (fun b => wo.heap.size < b ∧ b < w5.heap.size) w5 (.slice A5 mu c5) ex := ⟨HIn.of_rd hmu q1 q2 q4, fun b hb => by have := hlt b hb; omega⟩
    exact (hp.keep (W' := w5.setCell ⟨wo.heap.size, 1, none⟩ (.slice A5 mu c5)) fun b hb hl => hk b hb.1 hl).mono fun b hb => ⟨hb.1, by have := hb.2; simpa using this⟩
set_option maxRecDepth 100000 in
set_option maxHeartbeats 8000000 in
theorem give_any (l : List Prd) (v : Value) (w : World) (hset : HPd w v l) (hl : l.length ≤ 100) (hb : ∀ p ∈ l, p.es.length ≤ 100 ∧ p.ex.length ≤ 100 ∧ ∀ e ∈ p.es, e.sp.length ≤ 100) :
    Calls Tryd.prog 8 #[v] w fun e w' => ∃ u, e = .returned u ∧ HPd w' u l ∧ Below w.heap.size w w' := by
  obtain ⟨A, c, E, U, rfl, _, _, hk⟩ := hset
  have HK := Lib.hid hk
  have HB := Lib.hid hb
  obtain ⟨n, hn⟩ : ∃ n, l.length = n := ⟨_, rfl⟩
  rw [hn] at hl ⊢
  have HN := Lib.hid hn
  clear hk hb hn
  go_enter Tryd.func8, Tryd.ntmps8
  go_wp2_with fail
  go_loopw [3, 4] (fun ov a wr => ∃ i T, i ≤ n ∧ a = .int .i64 (i : Nat) ∧ L1 w l i ov T wr) (fun _ a _ => n - (intOf a).toNat)
  case atStart => exact ⟨0, [], Nat.zero_le _, rfl, ⟨rfl, rfl, World.ownsRow_nil _ _ _ _, fun p hp => (by cases hp), Below.refl _ _⟩⟩
  case round =>
    obtain ⟨i, T, hin, rfl, hL1⟩ := hrel
    have HL1 := Lib.hid hL1
    clear hL1
    by_cases hlt : i < n
    · have hlt' : i < l.length := by rw [HN.out]; exact hlt
      obtain ⟨⟨ad, X, rfl, hX, x1, x2⟩, hes, hex⟩ := HK.out i hlt'
      obtain ⟨hb1, hb2, hb3⟩ := HB.out _ (getD_mem hlt' dP)
      obtain ⟨es, hesq⟩ : ∃ es, (l.getD i dP).es = es := ⟨_, rfl⟩
      obtain ⟨ex, hexq⟩ : ∃ ex, (l.getD i dP).ex = ex := ⟨_, rfl⟩
      rw [hesq] at hes hb1 hb3
      rw [hexq] at hex hb2
      obtain ⟨Ae, ce, S, hE, _, _, hks⟩ := hes
      obtain ⟨Au, cu, hU, hu1, _, hur⟩ := hex.rd
      obtain ⟨ne, hne⟩ : ∃ ne, es.length = ne := ⟨_, rfl⟩
      obtain ⟨mu, hmu⟩ : ∃ mu, ex.length = mu := ⟨_, rfl⟩
      rw [hne] at hE hb1
      rw [hmu] at hU hb2
      rw [hE] at x1
      rw [hU] at x2
      have HES := Lib.hid hks
      have HNE := Lib.hid hne
      have HMU := Lib.hid (And.intro hmu hlt')
      have HUR := Lib.hid hur
      have HB3 := Lib.hid hb3
      have HEQ := Lib.hid (And.intro hesq hexq)
      have HX := Lib.hid (And.intro x1 x2)
      clear hks hur hb3 hne hmu hesq hexq hU hE hu1 hex hlt'
      have HSX := Lib.hid (show ∀ V, Below wr.heap.size wr V → V.cell? X = some (.slice Ae ne ce) ∧ V.cell? { block := X.block, off := X.off + 1 } = some (.slice Au mu cu) from fun V hV =>
        have hb := HL1.out.below.trans (hV.mono HL1.out.below.size)
        ⟨cell_below HX.out.1 hb, cell_below HX.out.2 hb⟩)
      have hWL := Lib.hid HL1.out.below
      clear x1 x2
      have H20 : Hid (L2 wr es 0 (.slice none 0 0) [] (wr.alloc (.cells #[.slice none 0 0, .slice none 0 0] 62))) :=
        ⟨rfl, rfl, heap_alloc_new _ _, World.ownsRow_nil _ _ _ _, fun p hp => (by cases hp), (Below.refl _ _).alloc (Nat.le_refl _) _⟩
      go_wp2_with fail
      obtain ⟨wo, hwo⟩ : ∃ wo : World, wo = wr := ⟨_, rfl⟩
      subst hwo
      go_loopw [6] (fun a w2 => ∃ k ev T2, k ≤ ne ∧ a = .int .i64 (k : Nat) ∧ L2 wo es k ev T2 w2) (fun a _ => ne - (intOf a).toNat)
      case atStart => exact ⟨0, _, [], Nat.zero_le _, rfl, H20.out⟩
      case round =>
        obtain ⟨w2, hw2⟩ : ∃ w2 : World, w2 = wr := ⟨_, rfl⟩
        subst hw2
        obtain ⟨k, ev, T2, hkn, rfl, hL2⟩ := hrel
        obtain ⟨A8, c8, e8, _⟩ := ownsK_form hL2.own
        subst e8
        have HL2 := Lib.hid hL2
        obtain ⟨x1, x2⟩ := HSX.out _ hL2.below
        by_cases hlt2 : k < ne
        · have hlt2' : k < es.length := by rw [HNE.out]; exact hlt2
          obtain ⟨⟨ae, Y, rfl, hY, hat⟩, hsp⟩ := HES.out k hlt2'
          have hsl := HB3.out _ (getD_mem hlt2' dE)
          obtain ⟨e, heq⟩ : ∃ e, es.getD k dE = e := ⟨_, rfl⟩
          rw [heq] at hat hsp hsl
          obtain ⟨As, cs, Ss, _, _, hsk⟩ := hsp
          obtain ⟨m, hm⟩ : ∃ m, e.sp.length = m := ⟨_, rfl⟩
          rw [hm] at Ss hsl
          rw [Ss] at hat
          have HSK := Lib.hid hsk
          have HM := Lib.hid (And.intro hm (And.intro heq hlt2'))
          have hbw := HL1.out.below.trans (hL2.below.mono HL1.out.below.size)
          have HAT := Lib.hid hat
          obtain ⟨c0, c1, c2, c3, c4, c5, c6, c7, c8, c9, c10⟩ := hat.below hbw
          have HSY := Lib.hid (show ∀ V, Below w2.heap.size w2 V → V.cell? X = some (.slice (some ae) ne ce) ∧ V.cell? { block := Y.block, off := Y.off + 10 } = some (.slice As m cs) from fun V hV =>
            ⟨(HSX.out V (HL2.out.below.trans (hV.mono HL2.out.below.size))).1, (HAT.out.below (hbw.trans (hV.mono hbw.size))).2.2.2.2.2.2.2.2.2.2⟩)
          have HBW := Lib.hid hbw
          clear hsk hm heq hlt2' hat hbw Ss hL2
          obtain ⟨r, sp⟩ := e
          simp only at *
          have HGR := Lib.hid (fun W => giveR7_any r W)
          obtain ⟨kk, mo, nn, wk, fy, fm, fd, ty, tm, td⟩ := r
          unfold rv at HGR
          simp only at *
          go_wp2_with fail
          refine (HGR.out _).mono ?_
          rintro e w3 ⟨rfl, hb3⟩
          have HB3' := Lib.hid hb3
          have hbb := hb3.alloc hb3.size (.cells (encs ⟨kk, mo, nn, wk, fy, fm, fd, ty, tm, td⟩ (.slice none 0 0)) 59)
          obtain ⟨z1, z2⟩ := HSY.out _ hbb
          have H30 : Hid (L3 w3 ⟨kk, mo, nn, wk, fy, fm, fd, ty, tm, td⟩ sp 0 (.slice none 0 0) (w3.alloc (.cells (encs ⟨kk, mo, nn, wk, fy, fm, fd, ty, tm, td⟩ (.slice none 0 0)) 59))) :=
            ⟨heap_alloc_new _ _, World.ownsRow_nil _ _ _ _, (Below.refl _ _).alloc (Nat.le_refl _) _⟩
          clear hb3 hbb c0 c1 c2 c3 c4 c5 c6 c7 c8 c9 c10 x1 x2
          go_wp2_with fail
          clear z1 z2
          go_loopw [8] (fun a w4 => ∃ q sv, q ≤ m ∧ a = .int .i64 (q : Nat) ∧ L3 w3 ⟨kk, mo, nn, wk, fy, fm, fd, ty, tm, td⟩ sp q sv w4) (fun a _ => m - (intOf a).toNat)
          case atStart => exact ⟨0, _, Nat.zero_le _, rfl, H30.out⟩
          case round =>
            obtain ⟨q, sv, hqm, rfl, hL3⟩ := hrel
            have HL3 := Lib.hid hL3
            have hb34 := HB3'.out.trans (hL3.below.mono HB3'.out.size)
            obtain ⟨y1, y2⟩ := HSY.out _ hb34
            have HB34 := Lib.hid hb34
            clear hb34 hL3
            obtain ⟨w4, hw4⟩ : ∃ w4 : World, w4 = wr := ⟨_, rfl⟩
            subst hw4
            by_cases hlt3 : q < m
            · have hlt3' : q < sp.length := by rw [HM.out.1]; exact hlt3
              obtain ⟨aq, Z, rfl, hZ, s1, s2⟩ := HSK.out q hlt3'
              obtain ⟨x, hx⟩ : ∃ x, sp.getD q dS = x := ⟨_, rfl⟩
              rw [hx] at s1 s2
              obtain ⟨f, t⟩ := x
              simp only at s1 s2
              have HQS := Lib.hid (And.intro hlt3' hx)
              have HSS := Lib.hid (show ∀ V, Below w3.heap.size w3 V → V.cell? X = some (.slice (some ae) ne ce) ∧ V.cell? { block := Y.block, off := Y.off + 10 } = some (.slice (some aq) m cs) ∧ V.cell? Z = some (.int .i64 f) ∧ V.cell? { block := Z.block, off := Z.off + 1 } = some (.int .i64 t) from fun V hV =>
                have h1 := HB3'.out.trans (hV.mono HB3'.out.size)
                have h2 := HBW.out.trans (h1.mono HBW.out.size)
                ⟨(HSY.out V h1).1, (HSY.out V h1).2, cell_below s1 h2, cell_below s2 h2⟩)
              clear s1 s2 hlt3' hx
              go_wp2_with fail
              clear y1 y2
              refine wp_region_noPanic ?_
              refine wp_region_held_drew (S := fun V => Below w3.heap.size w3 V) (by kernel_rfl) HL3.out.below.drew (fun hHeld => ?_)
              refine' wpAnyH_take (i := 0) (oi := { dst := some 50, op := Go.Op.fieldAddr 59 (Go.Operand.tmp 7) 1, type := 0, pos := "law.go:40", after := #[], guard := none }) (v := _) rfl (by kernel_rfl) (by kernel_rfl) (by kernel_rfl) (fun _ _ _ h => h) (Or.inl ⟨by rfl, ?_⟩) (by assumption) ?_
              rotate_left
              · (intro W hSw; go_simp; try with_reducible rfl)
              try simp only [Act.put, List.setIfInBounds_toArray, List.set_cons_zero, List.set_cons_succ]
              refine' wpAnyH_take (i := 2) (oi := { dst := some 52, op := Go.Op.move (Go.Operand.tmp 0), type := 22, pos := "law.go:40", after := #[], guard := none }) (v := _) rfl (by kernel_rfl) (by kernel_rfl) (by kernel_rfl) (fun _ _ _ h => h) (Or.inl ⟨by rfl, ?_⟩) (by assumption) ?_
              rotate_left
              · (intro W hSw; go_simp; try with_reducible rfl)
              try simp only [Act.put, List.setIfInBounds_toArray, List.set_cons_zero, List.set_cons_succ]
              refine' wpAnyH_take (i := 3) (oi := { dst := some 53, op := Go.Op.move (Go.Operand.tmp 4), type := 3, pos := "law.go:40", after := #[], guard := none }) (v := _) rfl (by kernel_rfl) (by kernel_rfl) (by kernel_rfl) (fun _ _ _ h => h) (Or.inl ⟨by rfl, ?_⟩) (by assumption) ?_
              rotate_left
              · (intro W hSw; go_simp; try with_reducible rfl)
              try simp only [Act.put, List.setIfInBounds_toArray, List.set_cons_zero, List.set_cons_succ]
              refine' wpAnyH_take (i := 4) (oi := { dst := some 54, op := Go.Op.indexAddr 22 (Go.Operand.tmp 52) (Go.Operand.tmp 53), type := 0, pos := "law.go:40", after := #[{ on := 2, ground := Go.Ground.data }, { on := 3, ground := Go.Ground.data }], guard := none }) (v := _) rfl (by kernel_rfl) (by kernel_rfl) (by kernel_rfl) (fun _ _ _ h => h) (Or.inl ⟨by rfl, ?_⟩) (by assumption) ?_
              rotate_left
              · (intro W hSw; go_simp; try with_reducible rfl)
              try simp only [Act.put, List.setIfInBounds_toArray, List.set_cons_zero, List.set_cons_succ]
              refine' wpAnyH_take (i := 5) (oi := { dst := some 55, op := Go.Op.fieldAddr 46 (Go.Operand.tmp 54) 0, type := 0, pos := "law.go:40", after := #[{ on := 4, ground := Go.Ground.data }], guard := none }) (v := _) rfl (by kernel_rfl) (by kernel_rfl) (by kernel_rfl) (fun _ _ _ h => h) (Or.inl ⟨by rfl, ?_⟩) (by assumption) ?_
              rotate_left
              · (intro W hSw; go_simp; try with_reducible rfl)
              try simp only [Act.put, List.setIfInBounds_toArray, List.set_cons_zero, List.set_cons_succ]
              refine' wpAnyH_take (i := 6) (oi := { dst := some 56, op := Go.Op.load 43 (Go.Operand.tmp 55), type := 43, pos := "law.go:40", after := #[{ on := 5, ground := Go.Ground.data }], guard := none }) (v := _) rfl (by kernel_rfl) (by kernel_rfl) (by kernel_rfl) (fun _ _ _ h => h) (Or.inl ⟨by rfl, ?_⟩) (by assumption) ?_
              rotate_left
              · (intro W hSw; obtain ⟨f0, f1, f2, f3⟩ := HSS.out _ hSw; go_simp; try with_reducible rfl)
              try simp only [Act.put, List.setIfInBounds_toArray, List.set_cons_zero, List.set_cons_succ]
              refine' wpAnyH_take (i := 7) (oi := { dst := some 57, op := Go.Op.move (Go.Operand.tmp 6), type := 3, pos := "law.go:40", after := #[], guard := none }) (v := _) rfl (by kernel_rfl) (by kernel_rfl) (by kernel_rfl) (fun _ _ _ h => h) (Or.inl ⟨by rfl, ?_⟩) (by assumption) ?_
              rotate_left
              · (intro W hSw; go_simp; try with_reducible rfl)
              try simp only [Act.put, List.setIfInBounds_toArray, List.set_cons_zero, List.set_cons_succ]
              refine' wpAnyH_take (i := 8) (oi := { dst := some 58, op := Go.Op.indexAddr 43 (Go.Operand.tmp 56) (Go.Operand.tmp 57), type := 0, pos := "law.go:40", after := #[{ on := 6, ground := Go.Ground.data }, { on := 7, ground := Go.Ground.data }], guard := none }) (v := _) rfl (by kernel_rfl) (by kernel_rfl) (by kernel_rfl) (fun _ _ _ h => h) (Or.inl ⟨by rfl, ?_⟩) (by assumption) ?_
              rotate_left
              · (intro W hSw; go_simp; try with_reducible rfl)
              try simp only [Act.put, List.setIfInBounds_toArray, List.set_cons_zero, List.set_cons_succ]
              refine' wpAnyH_take (i := 9) (oi := { dst := some 59, op := Go.Op.fieldAddr 54 (Go.Operand.tmp 58) 1, type := 0, pos := "law.go:40", after := #[{ on := 8, ground := Go.Ground.data }], guard := none }) (v := _) rfl (by kernel_rfl) (by kernel_rfl) (by kernel_rfl) (fun _ _ _ h => h) (Or.inl ⟨by rfl, ?_⟩) (by assumption) ?_
              rotate_left
              · (intro W hSw; go_simp; try with_reducible rfl)
              try simp only [Act.put, List.setIfInBounds_toArray, List.set_cons_zero, List.set_cons_succ]
              refine' wpAnyH_take (i := 10) (oi := { dst := some 60, op := Go.Op.load 52 (Go.Operand.tmp 59), type := 52, pos := "law.go:40", after := #[{ on := 9, ground := Go.Ground.data }], guard := none }) (v := _) rfl (by kernel_rfl) (by kernel_rfl) (by kernel_rfl) (fun _ _ _ h => h) (Or.inl ⟨by rfl, ?_⟩) (by assumption) ?_
              rotate_left
              · (intro W hSw; obtain ⟨f0, f1, f2, f3⟩ := HSS.out _ hSw; go_simp; try with_reducible rfl)
              try simp only [Act.put, List.setIfInBounds_toArray, List.set_cons_zero, List.set_cons_succ]
              refine' wpAnyH_take (i := 11) (oi := { dst := some 61, op := Go.Op.move (Go.Operand.tmp 8), type := 3, pos := "law.go:40", after := #[], guard := none }) (v := _) rfl (by kernel_rfl) (by kernel_rfl) (by kernel_rfl) (fun _ _ _ h => h) (Or.inl ⟨by rfl, ?_⟩) (by assumption) ?_
              rotate_left
              · (intro W hSw; go_simp; try with_reducible rfl)
              try simp only [Act.put, List.setIfInBounds_toArray, List.set_cons_zero, List.set_cons_succ]
              refine' wpAnyH_take (i := 12) (oi := { dst := some 62, op := Go.Op.indexAddr 52 (Go.Operand.tmp 60) (Go.Operand.tmp 61), type := 0, pos := "law.go:40", after := #[{ on := 10, ground := Go.Ground.data }, { on := 11, ground := Go.Ground.data }], guard := none }) (v := _) rfl (by kernel_rfl) (by kernel_rfl) (by kernel_rfl) (fun _ _ _ h => h) (Or.inl ⟨by rfl, ?_⟩) (by assumption) ?_
              rotate_left
              · (intro W hSw; go_simp; try with_reducible rfl)
              try simp only [Act.put, List.setIfInBounds_toArray, List.set_cons_zero, List.set_cons_succ]
              refine' wpAnyH_take (i := 13) (oi := { dst := some 63, op := Go.Op.load 64 (Go.Operand.tmp 62), type := 64, pos := "law.go:40", after := #[{ on := 12, ground := Go.Ground.data }], guard := none }) (v := _) rfl (by kernel_rfl) (by kernel_rfl) (by kernel_rfl) (fun _ _ _ h => h) (Or.inl ⟨by rfl, ?_⟩) (by assumption) ?_
              rotate_left
              · (intro W hSw; obtain ⟨f0, f1, f2, f3⟩ := HSS.out _ hSw; go_simp; try with_reducible rfl)
              try simp only [Act.put, List.setIfInBounds_toArray, List.set_cons_zero, List.set_cons_succ]
              have HAL := Lib.hid (HL3.out.drew.alloc (.cells #[.int .i64 f, .int .i64 t] 41))
              have y10 := cell_blk HL3.out.blk 10 (v := sv) rfl
              have y11 := cell_blk (HL3.out.alloc (.cells #[.int .i64 f, .int .i64 t] 41)).blk 10 (v := sv) rfl
              refine wpAnyH_ready (rs := [1, 14]) (by kernel_rfl) (by simp) ?_
              refine AllReadyH.cons (o := { dst := some 51, op := Go.Op.load 37 (Go.Operand.tmp 50), type := 37, pos := "law.go:40", after := #[{ on := 0, ground := Go.Ground.data }], guard := none }) rfl (fun K hK => ?_) (AllReadyH.cons (o := { dst := some 64, op := Go.Op.buildSlice 37 1 #[(0, Go.Operand.tmp 63)], type := 37, pos := "law.go:40", after := #[{ on := 13, ground := Go.Ground.data }], guard := none }) rfl (fun K hK => ?_) AllReadyH.nil)
              · go_simp
                refine hK.out _ _ (by first | exact HAL.out.below | exact HL3.out.below.drew) (fun hHeld => ?_)
                clear hK K
                try simp only [Act.put, List.setIfInBounds_toArray, List.set_cons_zero, List.set_cons_succ]
                refine wpAnyH_ready (rs := [14]) (by kernel_rfl) (by simp) ?_
                refine AllReadyH.cons (o := { dst := some 64, op := Go.Op.buildSlice 37 1 #[(0, Go.Operand.tmp 63)], type := 37, pos := "law.go:40", after := #[{ on := 13, ground := Go.Ground.data }], guard := none }) rfl (fun K hK => ?_) AllReadyH.nil
                go_simp
                refine hK.out _ _ (by first | exact HAL.out.below | exact HL3.out.below.drew) (fun hHeld => ?_)
                clear hK K
                try simp only [Act.put, List.setIfInBounds_toArray, List.set_cons_zero, List.set_cons_succ]
                refine wpAnyH_ready (rs := [15]) (by kernel_rfl) (by simp) ?_
                refine AllReadyH.cons (o := { dst := some 65, op := Go.Op.call { callee := Go.Callee.builtin Go.Builtin.append, args := #[Go.Operand.tmp 51, Go.Operand.tmp 64], argTypes := #[37, 37] }, type := 37, pos := "law.go:40", after := #[{ on := 1, ground := Go.Ground.data }, { on := 14, ground := Go.Ground.data }], guard := none }) rfl (fun K hK => ?_) AllReadyH.nil
                clear y10 y11
                refine step_appK rfl (.tmp 51) (.tmp 64) 37 rfl elS (w3.heap.size + 1) sv q ((sp.take q).flatMap spC) rfl HAL.out.own (some ⟨w4.heap.size, 0, none⟩) 1 1 (spC ⟨f, t⟩) rfl rfl (Rd.block (heap_alloc_new w4.drew (.cells #[.int .i64 f, .int .i64 t] 41))) (by intro u hu; simp only [spC, List.mem_cons, List.not_mem_nil, or_false] at hu; rcases hu with rfl | rfl <;> rfl) (by unfold maxLen; omega) (by omega) (by have := HL3.out.below.size; simp; omega) ?_
                intro sv' w5 ho hg _
                obtain ⟨A5, c5, e5, _⟩ := ownsK_form ho
                subst e5
                have hbk := L3.grown_blk HAL.out hg
                have z1 := cell_blk hbk 10 (v := sv) rfl
                have z2 := frz_blk hbk 10
                have hN := HAL.out.step HQS.out.1 (by rw [HQS.out.2]; exact ho) hg
                have hS1 := HAL.out.below.grown hg HAL.out.below.size (fun k hk => by have := (HAL.out.own.lt k hk).1; omega)
                refine hK.out _ _ hS1 (fun hHeld => ?_)
                clear hK K hS1 hbk ho hg
                try simp only [Act.put, List.setIfInBounds_toArray, List.set_cons_zero, List.set_cons_succ]
                refine' wpAnyH_take (i := 16) (oi := { dst := some 66, op := Go.Op.fieldAddr 59 (Go.Operand.tmp 7) 1, type := 0, pos := "law.go:40", after := #[{ on := 0, ground := Go.Ground.phase }, { on := 1, ground := Go.Ground.phase }, { on := 2, ground := Go.Ground.phase }, { on := 3, ground := Go.Ground.phase }, { on := 4, ground := Go.Ground.phase }, { on := 5, ground := Go.Ground.phase }, { on := 6, ground := Go.Ground.phase }, { on := 7, ground := Go.Ground.phase }, { on := 8, ground := Go.Ground.phase }, { on := 9, ground := Go.Ground.phase }, { on := 10, ground := Go.Ground.phase }, { on := 11, ground := Go.Ground.phase }, { on := 12, ground := Go.Ground.phase }, { on := 13, ground := Go.Ground.phase }, { on := 14, ground := Go.Ground.phase }, { on := 15, ground := Go.Ground.phase }], guard := none }) (v := _) rfl (by kernel_rfl) (by kernel_rfl) (by kernel_rfl) (fun _ _ _ h => h) (Or.inl ⟨by rfl, ?_⟩) (by assumption) ?_
                rotate_left
                · (intro W hSw; go_simp; try with_reducible rfl)
                try simp only [Act.put, List.setIfInBounds_toArray, List.set_cons_zero, List.set_cons_succ]
                refine wpAnyH_ready (rs := [17]) (by kernel_rfl) (by simp) ?_
                refine AllReadyH.cons (o := { dst := none, op := Go.Op.store 37 (Go.Operand.tmp 66) (Go.Operand.tmp 65), type := 0, pos := "law.go:40", after := #[{ on := 16, ground := Go.Ground.data }, { on := 15, ground := Go.Ground.data }, { on := 15, ground := Go.Ground.chain }, { on := 0, ground := Go.Ground.phase }, { on := 1, ground := Go.Ground.phase }, { on := 2, ground := Go.Ground.phase }, { on := 3, ground := Go.Ground.phase }, { on := 4, ground := Go.Ground.phase }, { on := 5, ground := Go.Ground.phase }, { on := 6, ground := Go.Ground.phase }, { on := 7, ground := Go.Ground.phase }, { on := 8, ground := Go.Ground.phase }, { on := 9, ground := Go.Ground.phase }, { on := 10, ground := Go.Ground.phase }, { on := 11, ground := Go.Ground.phase }, { on := 12, ground := Go.Ground.phase }, { on := 13, ground := Go.Ground.phase }, { on := 14, ground := Go.Ground.phase }, { on := 15, ground := Go.Ground.phase }], guard := none }) rfl (fun K hK => ?_) AllReadyH.nil
                go_simp
                refine hK.out _ _ hN.below (fun hHeld => ?_)
                clear hK K z1 z2
                try simp only [Act.put, List.setIfInBounds_toArray, List.set_cons_zero, List.set_cons_succ]
                refine wpAnyH_done (by kernel_rfl) ?_ _
                refine NoPanic.normal ?_
                have HN := Lib.hid hN
                clear hN hHeld
                go_wp2_with fail
                go_roundw
                case rel => exact ⟨q + 1, _, by omega, by go_num, HN.out⟩
                case measure => simp [intOf]; omega
              · go_simp
                refine hK.out _ _ (by first | exact HAL.out.below | exact HL3.out.below.drew) (fun hHeld => ?_)
                clear hK K
                try simp only [Act.put, List.setIfInBounds_toArray, List.set_cons_zero, List.set_cons_succ]
                refine wpAnyH_ready (rs := [1]) (by kernel_rfl) (by simp) ?_
                refine AllReadyH.cons (o := { dst := some 51, op := Go.Op.load 37 (Go.Operand.tmp 50), type := 37, pos := "law.go:40", after := #[{ on := 0, ground := Go.Ground.data }], guard := none }) rfl (fun K hK => ?_) AllReadyH.nil
                go_simp
                refine hK.out _ _ (by first | exact HAL.out.below | exact HL3.out.below.drew) (fun hHeld => ?_)
                clear hK K
                try simp only [Act.put, List.setIfInBounds_toArray, List.set_cons_zero, List.set_cons_succ]
                refine wpAnyH_ready (rs := [15]) (by kernel_rfl) (by simp) ?_
                refine AllReadyH.cons (o := { dst := some 65, op := Go.Op.call { callee := Go.Callee.builtin Go.Builtin.append, args := #[Go.Operand.tmp 51, Go.Operand.tmp 64], argTypes := #[37, 37] }, type := 37, pos := "law.go:40", after := #[{ on := 1, ground := Go.Ground.data }, { on := 14, ground := Go.Ground.data }], guard := none }) rfl (fun K hK => ?_) AllReadyH.nil
                clear y10 y11
                refine step_appK rfl (.tmp 51) (.tmp 64) 37 rfl elS (w3.heap.size + 1) sv q ((sp.take q).flatMap spC) rfl HAL.out.own (some ⟨w4.heap.size, 0, none⟩) 1 1 (spC ⟨f, t⟩) rfl rfl (Rd.block (heap_alloc_new w4.drew (.cells #[.int .i64 f, .int .i64 t] 41))) (by intro u hu; simp only [spC, List.mem_cons, List.not_mem_nil, or_false] at hu; rcases hu with rfl | rfl <;> rfl) (by unfold maxLen; omega) (by omega) (by have := HL3.out.below.size; simp; omega) ?_
                intro sv' w5 ho hg _
                obtain ⟨A5, c5, e5, _⟩ := ownsK_form ho
                subst e5
                have hbk := L3.grown_blk HAL.out hg
                have z1 := cell_blk hbk 10 (v := sv) rfl
                have z2 := frz_blk hbk 10
                have hN := HAL.out.step HQS.out.1 (by rw [HQS.out.2]; exact ho) hg
                have hS1 := HAL.out.below.grown hg HAL.out.below.size (fun k hk => by have := (HAL.out.own.lt k hk).1; omega)
                refine hK.out _ _ hS1 (fun hHeld => ?_)
                clear hK K hS1 hbk ho hg
                try simp only [Act.put, List.setIfInBounds_toArray, List.set_cons_zero, List.set_cons_succ]
                refine' wpAnyH_take (i := 16) (oi := { dst := some 66, op := Go.Op.fieldAddr 59 (Go.Operand.tmp 7) 1, type := 0, pos := "law.go:40", after := #[{ on := 0, ground := Go.Ground.phase }, { on := 1, ground := Go.Ground.phase }, { on := 2, ground := Go.Ground.phase }, { on := 3, ground := Go.Ground.phase }, { on := 4, ground := Go.Ground.phase }, { on := 5, ground := Go.Ground.phase }, { on := 6, ground := Go.Ground.phase }, { on := 7, ground := Go.Ground.phase }, { on := 8, ground := Go.Ground.phase }, { on := 9, ground := Go.Ground.phase }, { on := 10, ground := Go.Ground.phase }, { on := 11, ground := Go.Ground.phase }, { on := 12, ground := Go.Ground.phase }, { on := 13, ground := Go.Ground.phase }, { on := 14, ground := Go.Ground.phase }, { on := 15, ground := Go.Ground.phase }], guard := none }) (v := _) rfl (by kernel_rfl) (by kernel_rfl) (by kernel_rfl) (fun _ _ _ h => h) (Or.inl ⟨by rfl, ?_⟩) (by assumption) ?_
                rotate_left
                · (intro W hSw; go_simp; try with_reducible rfl)
                try simp only [Act.put, List.setIfInBounds_toArray, List.set_cons_zero, List.set_cons_succ]
                refine wpAnyH_ready (rs := [17]) (by kernel_rfl) (by simp) ?_
                refine AllReadyH.cons (o := { dst := none, op := Go.Op.store 37 (Go.Operand.tmp 66) (Go.Operand.tmp 65), type := 0, pos := "law.go:40", after := #[{ on := 16, ground := Go.Ground.data }, { on := 15, ground := Go.Ground.data }, { on := 15, ground := Go.Ground.chain }, { on := 0, ground := Go.Ground.phase }, { on := 1, ground := Go.Ground.phase }, { on := 2, ground := Go.Ground.phase }, { on := 3, ground := Go.Ground.phase }, { on := 4, ground := Go.Ground.phase }, { on := 5, ground := Go.Ground.phase }, { on := 6, ground := Go.Ground.phase }, { on := 7, ground := Go.Ground.phase }, { on := 8, ground := Go.Ground.phase }, { on := 9, ground := Go.Ground.phase }, { on := 10, ground := Go.Ground.phase }, { on := 11, ground := Go.Ground.phase }, { on := 12, ground := Go.Ground.phase }, { on := 13, ground := Go.Ground.phase }, { on := 14, ground := Go.Ground.phase }, { on := 15, ground := Go.Ground.phase }], guard := none }) rfl (fun K hK => ?_) AllReadyH.nil
                go_simp
                refine hK.out _ _ hN.below (fun hHeld => ?_)
                clear hK K z1 z2
                try simp only [Act.put, List.setIfInBounds_toArray, List.set_cons_zero, List.set_cons_succ]
                refine wpAnyH_done (by kernel_rfl) ?_ _
                refine NoPanic.normal ?_
                have HN := Lib.hid hN
                clear hN hHeld
                go_wp2_with fail
                go_roundw
                case rel => exact ⟨q + 1, _, by omega, by go_num, HN.out⟩
                case measure => simp [intOf]; omega
            · obtain rfl : q = m := by omega
              have hfull : sp.take q = sp := by rw [← HM.out.1]; exact List.take_length
              have hL2 := HL2.out.mono HB34.out
              obtain ⟨A7, c7, e7, g1, g2, _, g4⟩ := ownsK_form HL3.out.own
              have hlt7 := HL3.out.own.lt
              subst e7
              rw [hfull] at g4
              have hbe := HL3.out.blk
              have K0 := cell_blk hbe 0 (v := .int .i64 kk) rfl
              have K1 := cell_blk hbe 1 (v := .int .i64 mo) rfl
              have K2 := cell_blk hbe 2 (v := .int .i64 nn) rfl
              have K3 := cell_blk hbe 3 (v := .int .i64 wk) rfl
              have K4 := cell_blk hbe 4 (v := .int .i64 fy) rfl
              have K5 := cell_blk hbe 5 (v := .int .i64 fm) rfl
              have K6 := cell_blk hbe 6 (v := .int .i64 fd) rfl
              have K7 := cell_blk hbe 7 (v := .int .i64 ty) rfl
              have K8 := cell_blk hbe 8 (v := .int .i64 tm) rfl
              have K9 := cell_blk hbe 9 (v := .int .i64 td) rfl
              have K10 := cell_blk hbe 10 (v := .slice A7 q c7) rfl
              have y3 := cell_blk hL2.blk 0 (v := .slice A8 k c8) rfl
              have hbal := (Below.refl w4.heap.size w4).alloc (Nat.le_refl _) (.cells (encs ⟨kk, mo, nn, wk, fy, fm, fd, ty, tm, td⟩ (.slice A7 q c7)) 59)
              have HV := Lib.hid (hL2.mono hbal)
              have hsv : HSpP (P2 wo.heap.size (.slice A8 k c8) (w4.alloc (.cells (encs ⟨kk, mo, nn, wk, fy, fm, fd, ty, tm, td⟩ (.slice A7 q c7)) 59))) (w4.alloc (.cells (encs ⟨kk, mo, nn, wk, fy, fm, fd, ty, tm, td⟩ (.slice A7 q c7)) 59)) (.slice A7 q c7) sp := by
                refine ⟨(HSp.of_rd HM.out.1 g1 g2 g4).below hbal, fun b hb => ?_⟩
                have h1 := hlt7 b hb
                have h2 := HL2.out.below.size
                have h3 := HB3'.out.size
                refine ⟨by omega, fun e => ?_, by simp; omega⟩
                have := (HL2.out.own.lt b e.symm).2
                omega
              have HSV := Lib.hid hsv
              clear hfull hL2 g1 g2 g4 hlt7 hbe hbal hsv
              go_wp2_with
                (at_builtin
                 refine wpList_appK rfl (.tmp 68) (.tmp 70) 60 rfl elE (wo.heap.size + 1) (.slice A8 k c8) k (T2.flatMap enC) rfl HV.out.own (some ⟨w4.heap.size, 0, none⟩) 1 1 (encs ⟨kk, mo, nn, wk, fy, fm, fd, ty, tm, td⟩ (.slice A7 q c7)).toList rfl rfl (Rd.block (heap_alloc_new w4 (.cells (encs ⟨kk, mo, nn, wk, fy, fm, fd, ty, tm, td⟩ (.slice A7 q c7)) 59))) (by intro u hu; simp only [List.mem_cons, List.not_mem_nil, or_false] at hu; rcases hu with rfl | rfl | rfl | rfl | rfl | rfl | rfl | rfl | rfl | rfl | rfl <;> rfl) (by unfold maxLen; omega) (by omega) (Array.getElem?_eq_some_iff.1 HV.out.blk).1 ?_)
              intro ev' w5 ho hg ha
              obtain ⟨A5, c5, e5, _⟩ := ownsK_form ho
              subst e5
              have hbk := (hg.block _ (Array.getElem?_eq_some_iff.1 HV.out.blk).1 (fun e => by have := (HV.out.own.lt _ e.symm).1; omega)).trans HV.out.blk
              have z1 := cell_blk hbk 0 (v := .slice A8 k c8) rfl
              have z2 := frz_blk hbk 0
              have HN := Lib.hid (HV.out.step HM.out.2.2 (by rw [HM.out.2.1]; exact HSV.out) (by rw [HM.out.2.1]; exact ho) hg (by rw [World.size_alloc]; exact ha))
              clear ho hg ha hbk K0 K1 K2 K3 K4 K5 K6 K7 K8 K9 K10 y1 y2 y3
              go_wp2_with fail
              go_roundw
              case rel => exact ⟨k + 1, _, _, by omega, by go_num, HN.out⟩
              case measure => simp [intOf]; omega
        · obtain rfl : k = ne := by omega
          have y1 := cell_blk HL2.out.blk 1 (v := .slice none 0 0) rfl
          have HRX := Lib.hid ((HUR.out.below (HL1.out.below.trans (HL2.out.below.mono HL1.out.below.size))).drew)
          clear hL2
          go_wp2_with fail
          clear x1 x2
          refine wp_region_noPanic ?_
          refine wp_region_held_drew (S := fun V => Below wo.heap.size wo V) (by kernel_rfl) HL2.out.below.drew (fun hHeld => ?_)
          refine' wpAnyH_take (i := 0) (oi := { dst := some 73, op := Go.Op.fieldAddr 62 (Go.Operand.tmp 5) 1, type := 0, pos := "law.go:44", after := #[], guard := none }) (v := _) rfl (by kernel_rfl) (by kernel_rfl) (by kernel_rfl) (fun _ _ _ h => h) (Or.inl ⟨by rfl, ?_⟩) (by assumption) ?_
          rotate_left
          · (intro W hSw; go_simp; try with_reducible rfl)
          try simp only [Act.put, List.setIfInBounds_toArray, List.set_cons_zero, List.set_cons_succ]
          refine' wpAnyH_take (i := 2) (oi := { dst := some 75, op := Go.Op.move (Go.Operand.tmp 0), type := 22, pos := "law.go:44", after := #[], guard := none }) (v := _) rfl (by kernel_rfl) (by kernel_rfl) (by kernel_rfl) (fun _ _ _ h => h) (Or.inl ⟨by rfl, ?_⟩) (by assumption) ?_
          rotate_left
          · (intro W hSw; go_simp; try with_reducible rfl)
          try simp only [Act.put, List.setIfInBounds_toArray, List.set_cons_zero, List.set_cons_succ]
          refine' wpAnyH_take (i := 3) (oi := { dst := some 76, op := Go.Op.move (Go.Operand.tmp 4), type := 3, pos := "law.go:44", after := #[], guard := none }) (v := _) rfl (by kernel_rfl) (by kernel_rfl) (by kernel_rfl) (fun _ _ _ h => h) (Or.inl ⟨by rfl, ?_⟩) (by assumption) ?_
          rotate_left
          · (intro W hSw; go_simp; try with_reducible rfl)
          try simp only [Act.put, List.setIfInBounds_toArray, List.set_cons_zero, List.set_cons_succ]
          refine' wpAnyH_take (i := 4) (oi := { dst := some 77, op := Go.Op.indexAddr 22 (Go.Operand.tmp 75) (Go.Operand.tmp 76), type := 0, pos := "law.go:44", after := #[{ on := 2, ground := Go.Ground.data }, { on := 3, ground := Go.Ground.data }], guard := none }) (v := _) rfl (by kernel_rfl) (by kernel_rfl) (by kernel_rfl) (fun _ _ _ h => h) (Or.inl ⟨by rfl, ?_⟩) (by assumption) ?_
          rotate_left
          · (intro W hSw; go_simp; try with_reducible rfl)
          try simp only [Act.put, List.setIfInBounds_toArray, List.set_cons_zero, List.set_cons_succ]
          refine' wpAnyH_take (i := 5) (oi := { dst := some 78, op := Go.Op.fieldAddr 46 (Go.Operand.tmp 77) 1, type := 0, pos := "law.go:44", after := #[{ on := 4, ground := Go.Ground.data }], guard := none }) (v := _) rfl (by kernel_rfl) (by kernel_rfl) (by kernel_rfl) (fun _ _ _ h => h) (Or.inl ⟨by rfl, ?_⟩) (by assumption) ?_
          rotate_left
          · (intro W hSw; go_simp; try with_reducible rfl)
          try simp only [Act.put, List.setIfInBounds_toArray, List.set_cons_zero, List.set_cons_succ]
          refine' wpAnyH_take (i := 6) (oi := { dst := some 79, op := Go.Op.load 44 (Go.Operand.tmp 78), type := 44, pos := "law.go:44", after := #[{ on := 5, ground := Go.Ground.data }], guard := none }) (v := _) rfl (by kernel_rfl) (by kernel_rfl) (by kernel_rfl) (fun _ _ _ h => h) (Or.inl ⟨by rfl, ?_⟩) (by assumption) ?_
          rotate_left
          · (intro W hSw; obtain ⟨f0, f1⟩ := HSX.out _ hSw; go_simp; try with_reducible rfl)
          try simp only [Act.put, List.setIfInBounds_toArray, List.set_cons_zero, List.set_cons_succ]
          refine wpAnyH_ready (rs := [1]) (by kernel_rfl) (by simp) ?_
          refine AllReadyH.cons (o := { dst := some 74, op := Go.Op.load 44 (Go.Operand.tmp 73), type := 44, pos := "law.go:44", after := #[{ on := 0, ground := Go.Ground.data }], guard := none }) rfl (fun K hK => ?_) AllReadyH.nil
          go_simp
          refine hK.out _ _ HL2.out.below.drew (fun hHeld => ?_)
          clear hK K y1
          try simp only [Act.put, List.setIfInBounds_toArray, List.set_cons_zero, List.set_cons_succ]
          refine wpAnyH_ready (rs := [7]) (by kernel_rfl) (by simp) ?_
          refine AllReadyH.cons (o := { dst := some 80, op := Go.Op.call { callee := Go.Callee.builtin Go.Builtin.append, args := #[Go.Operand.tmp 74, Go.Operand.tmp 79], argTypes := #[44, 44] }, type := 44, pos := "law.go:44", after := #[{ on := 1, ground := Go.Ground.data }, { on := 6, ground := Go.Ground.data }], guard := none }) rfl (fun K hK => ?_) AllReadyH.nil
          refine step_appK rfl (.tmp 74) (.tmp 79) 44 rfl elIK (wo.heap.size + 1) (.slice none 0 0) 0 [] rfl (World.ownsRow_nil _ _ _ _) Au mu cu (intL ex) rfl (by rw [intL_length, HMU.out.1, Nat.mul_one]) HRX.out (intL_one7 ex) (by unfold maxLen; omega) (by omega) (by have := HL2.out.below.size; have := (Array.getElem?_eq_some_iff.1 HL2.out.blk).1; simp; omega) ?_
          intro xv w5 ho hg _
          rw [Nat.zero_add, List.nil_append] at ho
          obtain ⟨A5, c5, e5, q1, q2, _, q4⟩ := ownsK_form ho
          have hlt5 := ho.lt
          subst e5
          have hgb : ∀ b, b < w2.heap.size → w5.heap[b]? = w2.heap[b]? := fun b hb => hg.block b hb (by simp [Value.ownBlock])
          have hbk := (hgb _ (Array.getElem?_eq_some_iff.1 HL2.out.blk).1).trans HL2.out.blk
          have z1 := cell_blk hbk 1 (v := .slice none 0 0) rfl
          have z2 := frz_blk hbk 1
          have hS1 : Below wo.heap.size wo w5 := HL2.out.below.drew.grown hg HL2.out.below.size (fun k hk => by simp [Value.ownBlock] at hk)
          have hS2 := hS1.setCell (p := ⟨wo.heap.size, 1, none⟩) (Nat.le_refl _) (.slice A5 mu c5)
          have HEX := Lib.hid (give_ex HL2.out HNE.out hgb hg.size HMU.out.1 q1 q2 q4 hlt5 hbk)
          refine hK.out _ _ hS1 (fun hHeld => ?_)
          clear hK K hbk ho hg q1 q2 q4 hlt5 hgb hS1
          try simp only [Act.put, List.setIfInBounds_toArray, List.set_cons_zero, List.set_cons_succ]
          refine' wpAnyH_take (i := 8) (oi := { dst := some 81, op := Go.Op.fieldAddr 62 (Go.Operand.tmp 5) 1, type := 0, pos := "law.go:44", after := #[{ on := 0, ground := Go.Ground.phase }, { on := 1, ground := Go.Ground.phase }, { on := 2, ground := Go.Ground.phase }, { on := 3, ground := Go.Ground.phase }, { on := 4, ground := Go.Ground.phase }, { on := 5, ground := Go.Ground.phase }, { on := 6, ground := Go.Ground.phase }, { on := 7, ground := Go.Ground.phase }], guard := none }) (v := _) rfl (by kernel_rfl) (by kernel_rfl) (by kernel_rfl) (fun _ _ _ h => h) (Or.inl ⟨by rfl, ?_⟩) (by assumption) ?_
          rotate_left
          · (intro W hSw; go_simp; try with_reducible rfl)
          try simp only [Act.put, List.setIfInBounds_toArray, List.set_cons_zero, List.set_cons_succ]
          refine wpAnyH_ready (rs := [9]) (by kernel_rfl) (by simp) ?_
          refine AllReadyH.cons (o := { dst := none, op := Go.Op.store 44 (Go.Operand.tmp 81) (Go.Operand.tmp 80), type := 0, pos := "law.go:44", after := #[{ on := 8, ground := Go.Ground.data }, { on := 7, ground := Go.Ground.data }, { on := 7, ground := Go.Ground.chain }, { on := 0, ground := Go.Ground.phase }, { on := 1, ground := Go.Ground.phase }, { on := 2, ground := Go.Ground.phase }, { on := 3, ground := Go.Ground.phase }, { on := 4, ground := Go.Ground.phase }, { on := 5, ground := Go.Ground.phase }, { on := 6, ground := Go.Ground.phase }, { on := 7, ground := Go.Ground.phase }], guard := none }) rfl (fun K hK => ?_) AllReadyH.nil
          go_simp
          refine hK.out _ _ hS2 (fun hHeld => ?_)
          clear hK K z1 z2
          try simp only [Act.put, List.setIfInBounds_toArray, List.set_cons_zero, List.set_cons_succ]
          refine wpAnyH_done (by kernel_rfl) ?_ _
          refine NoPanic.normal ?_
          obtain ⟨w6, hw6⟩ : ∃ w6, w5.setCell ⟨wo.heap.size, 1, none⟩ (.slice A5 mu c5) = w6 := ⟨_, rfl⟩
          rw [hw6] at hS2 HEX
          have HW6 := Lib.hid hw6
          have hex := HEX.out
          obtain ⟨hb6, he6, hx6⟩ := hex
          have z3 := cell_blk hb6 0 (v := .slice A8 k c8) rfl
          have z4 := cell_blk hb6 1 (v := .slice A5 mu c5) rfl
          have hbal := hS2.alloc hS2.size (.cells #[.slice A8 k c8, .slice A5 mu c5] 62)
          have hba6 := (Below.refl w6.heap.size w6).alloc (Nat.le_refl _) (.cells #[.slice A8 k c8, .slice A5 mu c5] 62)
          have HV := Lib.hid (HL1.out.mono hbal)
          have hP : ∀ b, wo.heap.size < b ∧ b < w6.heap.size → P1 u3 (w6.alloc (.cells #[.slice A8 k c8, .slice A5 mu c5] 62)) b := fun b hb => by
            refine ⟨fun e => ?_, by simp; omega⟩
            have := (HL1.out.own.lt b e.symm).2
            omega
          have HEN := Lib.hid ((he6.keep (W' := w6.alloc (.cells #[.slice A8 k c8, .slice A5 mu c5] 62)) fun b _ hl => hba6.block b hl).mono hP)
          have HIN := Lib.hid ((hx6.keep (W' := w6.alloc (.cells #[.slice A8 k c8, .slice A5 mu c5] 62)) fun b _ hl => hba6.block b hl).mono hP)
          clear hw6 hb6 he6 hx6 hbal hba6 hP hS2 hHeld
          rw [HW6.out]
          go_wp2_with
            (at_builtin
             refine wpList_appK rfl (.tmp 82) (.tmp 84) 26 rfl elP w.heap.size u3 i (T.flatMap pdC) rfl HV.out.own (some ⟨w6.heap.size, 0, none⟩) 1 1 [.slice A8 k c8, .slice A5 mu c5] rfl rfl (Rd.block (heap_alloc_new w6 (.cells #[.slice A8 k c8, .slice A5 mu c5] 62))) (by intro u hu; simp only [List.mem_cons, List.not_mem_nil, or_false] at hu; rcases hu with rfl | rfl <;> rfl) (by unfold maxLen; omega) (by omega) HV.out.below.size ?_)
          intro ov' w7 ho hg ha
          have HN := Lib.hid (HV.out.step HMU.out.2 (by rw [HEQ.out.1]; exact HEN.out) (by rw [HEQ.out.2]; exact HIN.out) ho hg (by rw [World.size_alloc]; exact ha))
          clear ho hg ha z3 z4
          go_wp2_with fail
          go_roundw
          case rel => exact ⟨i + 1, _, by omega, by go_num, HN.out⟩
          case measure => simp [intOf]; omega
    · obtain rfl : i = n := by omega
      have HF := Lib.hid (And.intro (HL1.out.done HN.out.symm) HL1.out.below)
      go_wp2_with fail
      go_ret
      exact ⟨_, rfl, HF.out.1, HF.out.2⟩
end Go.Proofs.YtlogapkpllgdcaaDoor

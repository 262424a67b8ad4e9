/- Contract: the document's Parse. -/
import Derived.Test.YtbeehedppofpnaaGreatDoorBkHd
import Derived.Test.YtbeehedppofpnaaGreatDoorBkR
import Derived.Test.YtbeehedppofpnaaGreatDoorBkG
import Derived.Test.YtbeehedppofpnaaGreatDoorBkGv
import Derived.Test.YtbeehedppofpnaaGreatDoorLxRL
namespace Go.Proofs.YtbeehedppofpnaaGreatDoor
open Go.RowKit Go.Maps

theorem rblkInfo : (Tryz.prog.info? 69).map (fun i => (i.zero, i.size, i.bytes)) = some (some (.agg #[.int .i64 0, .string ⟨#[]⟩, .slice none 0 0]), 3, 48) := by kernel_rfl
theorem rfldInfo : (Tryz.prog.info? 73).map (fun i => (i.zero, i.size, i.bytes)) = some (some (.agg #[.int .i64 0, .string ⟨#[]⟩, .string ⟨#[]⟩]), 3, 40) := by kernel_rfl
/-- Within a block, in the document's own list. -/
structure InR (w : World) (base : Nat) (out : List Bk) (b : Bk) (vo vF : Value) (B : Nat) (Z : List (MB × Value)) : Prop where
  low : base ≤ B ∧ B ≤ w.heap.size
  same : Z.map (·.1) = out.map iB
  own : w.ownsRow base 69 3 vo (Z.length + 1) ((Z ++ [(iB b, vF)]).flatMap bkC)
  rows : ∀ p ∈ Z, HeldF w base B 73 p.2 p.1.2.2
  last : w.ownsRow B 73 3 vF b.2.2.length ((b.2.2.map iF).flatMap fdC)
def Rs9 (w : World) (base : Nat) (vo : Value) (out : List Bk) : Option Bk → Prop
  | none => ∃ Z, Z.map (·.1) = out.map iB ∧ Bld w base w.heap.size 69 73 vo Z
  | some b => ∃ vF B Z, InR w base out b vo vF B Z
theorem InR.below {w w' : World} {base B : Nat} {out : List Bk} {b : Bk} {vo vF : Value} {Z : List (MB × Value)} (h : InR w base out b vo vF B Z) (hb : Below w.heap.size w w') : InR w' base out b vo vF B Z where
  low := ⟨h.low.1, Nat.le_trans h.low.2 hb.size⟩
  same := h.same
  own := owns_below8 h.own hb
  rows := fun p hp => (h.rows p hp).below h.low.2 hb
  last := owns_below8 h.last hb
theorem Rs9.below {w w' : World} {base : Nat} {vo : Value} {out : List Bk} {cur : Option Bk} (h : Rs9 w base vo out cur) (hb : Below w.heap.size w w') : Rs9 w' base vo out cur := by
  cases cur with
  | none =>
    obtain ⟨Z, h1, h2⟩ := h
    exact ⟨Z, h1, h2.below hb⟩
  | some b =>
    obtain ⟨vF, B, Z, h⟩ := h
    exact ⟨vF, B, Z, h.below hb⟩
/-- A begun block in the list. -/
theorem beginR {w1 w2 : World} {base gb cap n : Nat} {out : List Bk} {k : Tx} {at_ : Nat} {vo : Value} {Z : List (MB × Value)} {o : Obj} {S : ByteArray} (hS : str k = S) (hn : Z.length = n) (hs : Z.map (·.1) = out.map iB)
    (hB : Bld w1 base w1.heap.size 69 73 vo Z)
    (hg : (w1.alloc o).grownBy w2 vo.ownBlock) (hown : w2.ownsRow base 69 3 (.slice (some ⟨gb, 0, none⟩) (n + 1) cap) (n + 1) (Z.flatMap bkC ++ [.int .i64 at_, .string S, .slice none 0 0])) (hb : base ≤ w1.heap.size) :
    Below base w1 w2 ∧ Rs9 w2 base (.slice (some ⟨gb, 0, none⟩) (n + 1) cap) out (some (at_, k, [])) := by
  subst hS
  have hB' : Bld (w1.alloc o) base (w1.alloc o).heap.size 69 73 vo Z := hB.below ((Below.refl _ w1).alloc (Nat.le_refl _) o)
  have hty := own_typed hB'.own
  have hsz : w1.heap.size ≤ w2.heap.size := by have := hg.size; rw [World.size_alloc] at this; omega
  refine ⟨((Below.refl base w1).alloc hb o).grown hg (by rw [World.size_alloc]; omega) fun k hk => (hB'.own.lt k hk).1, .slice none 0 0, w2.heap.size, Z, ⟨by omega, Nat.le_refl _⟩, hs, ?_, fun p hp => ?_, World.ownsRow_nil _ _ _ _⟩
  · rw [hn, bkcat_snoc]
    exact hown
  · refine ((hB'.rows p hp).grown hg fun q hq => ?_).keep (Nat.le_refl _) hg.size fun _ _ _ _ _ _ => rfl
    obtain ⟨cs, fr, h0⟩ := hty q hq
    exact .inr (.inr ⟨cs, _, fr, h0, by decide⟩)
theorem closeR {w : World} {base B : Nat} {out : List Bk} {b : Bk} {vo vF : Value} {Z : List (MB × Value)} (h : InR w base out b vo vF B Z) : Rs9 w base vo (out ++ [b]) none := by
  refine ⟨Z ++ [(iB b, vF)], by rw [List.map_append, List.map_append, h.same]; rfl, by rw [List.length_append]; exact h.own, fun p hp => ?_⟩
  rcases List.mem_append.1 hp with hp | hp
  · exact (h.rows p hp).keep (Nat.le_refl _) h.low.2 fun _ _ _ _ _ _ => rfl
  · rw [List.mem_singleton.1 hp]
    exact (HeldF.owned (L := b.2.2.map iF) (by rw [List.length_map]) h.last).keep h.low.1 (Nat.le_refl _) fun _ _ _ _ _ _ => rfl
theorem set_same {xs : List Value} {j : Nat} {u : Value} (h : xs[j]? = some u) : xs.set j u = xs := by
  obtain ⟨hj, h⟩ := List.getElem?_eq_some_iff.1 h
  rw [← h]
  exact List.set_getElem_self hj
/-- A field is appended to the copy q of the block, and that is stored in the list. -/
theorem fieldR {w1 w3 : World} {base B gb cap n cF q gF capF at_ : Nat} {out : List Bk} {b : Bk} {vF : Value} {Z : List (MB × Value)} {k x : Tx} {o : Obj} {S X : ByteArray} (hS : str k = S) (hX : str x = X)
    (h : InR w1 base out b (.slice (some ⟨gb, 0, none⟩) (n + 1) cap) vF B Z) (hn : Z.length = n) (hcF : b.2.2.length = cF) (hq : w1.heap[q]? = some (.cells #[.int .i64 (b.1 : Int), .string (str b.2.1), vF] 69 (0, 0))) (hqb : base ≤ q) (hgq : gb ≠ q)
    (hg : (w1.alloc o).grownBy w3 vF.ownBlock) (hown : w3.ownsRow B 73 3 (.slice (some ⟨gF, 0, none⟩) (cF + 1) capF) (cF + 1) ((b.2.2.map iF).flatMap fdC ++ [.int .i64 (at_ : Int), .string S, .string X])) :
    w3.heap[q]? = some (.cells #[.int .i64 (b.1 : Int), .string (str b.2.1), vF] 69 (0, 0)) ∧
    ∀ w4, w3.setCell ⟨q, 2, none⟩ (.slice (some ⟨gF, 0, none⟩) (cF + 1) capF) = w4 →
      w4.heap[q]? = some (.cells #[.int .i64 (b.1 : Int), .string (str b.2.1), .slice (some ⟨gF, 0, none⟩) (cF + 1) capF] 69 (0, 0)) ∧
      (w4.cell? ⟨gb, n * 3, none⟩ = some (.int .i64 (b.1 : Int)) ∧ w4.cell? ⟨gb, n * 3 + 1, none⟩ = some (.string (str b.2.1)) ∧ w4.cell? ⟨gb, n * 3 + 2, none⟩ = some vF ∧ ∀ j, w4.frozen? ⟨gb, j, none⟩ = false) ∧
      (Below base w1 (((w4.setCell ⟨gb, n * 3, none⟩ (.int .i64 (b.1 : Int))).setCell ⟨gb, n * 3 + 1, none⟩ (.string (str b.2.1))).setCell ⟨gb, n * 3 + 2, none⟩ (.slice (some ⟨gF, 0, none⟩) (cF + 1) capF)) ∧
        Rs9 (((w4.setCell ⟨gb, n * 3, none⟩ (.int .i64 (b.1 : Int))).setCell ⟨gb, n * 3 + 1, none⟩ (.string (str b.2.1))).setCell ⟨gb, n * 3 + 2, none⟩ (.slice (some ⟨gF, 0, none⟩) (cF + 1) capF)) base (.slice (some ⟨gb, 0, none⟩) (n + 1) cap) out (some (b.1, b.2.1, b.2.2 ++ [(at_, k, x)]))) := by
  subst hS hX hn hcF
  have hal : ∀ i x, w1.heap[i]? = some x → (w1.alloc o).heap[i]? = some x := fun i x hx => (Below.heap_alloc w1 o i (blk_lt hx)).trans hx
  have hFty : ∀ i, vF.ownBlock = some i → B ≤ i ∧ ∃ cs fr, (w1.alloc o).heap[i]? = some (Obj.cells cs 73 fr) := fun i hi => by
    obtain ⟨cs, fr, h0⟩ := own_typed h.last i hi
    exact ⟨(h.last.lt i hi).1, cs, fr, hal i _ h0⟩
  have hk3 : ∀ (i : Nat) (cs : Array Value) (e : TypeId) (fr : Nat × Nat), w1.heap[i]? = some (Obj.cells cs e fr) → (e ≠ 73 ∨ i < B) → w3.heap[i]? = w1.heap[i]? := by
    intro i cs e fr h0 he
    have h1 := hal i _ h0
    refine (hg.block i (blk_lt h1) fun e1 => ?_).trans (h1.trans h0.symm)
    obtain ⟨h2, cs', fr', h3⟩ := hFty i e1.symm
    rcases he with he | he
    · rw [h1] at h3
      injection h3 with h3
      injection h3 with _ h3
      exact he h3
    · omega
  have q3 := (hk3 q _ _ _ hq (.inl (by decide))).trans hq
  refine ⟨q3, ?_⟩
  rintro w4 rfl
  have o3 : w3.ownsRow base 69 3 (.slice (some ⟨gb, 0, none⟩) (Z.length + 1) cap) (Z.length + 1) ((Z ++ [(iB b, vF)]).flatMap bkC) := own_block h.own fun i hi => by
    obtain ⟨cs, fr, h0⟩ := own_typed h.own i hi
    exact hk3 i cs _ fr h0 (.inl (by decide))
  have r3 : ∀ p ∈ Z, HeldF w3 base B 73 p.2 p.1.2.2 := fun p hp => (h.rows p hp).keep (Nat.le_refl _) (Nat.le_refl _) fun b cs fr _ h2 h0 => hk3 b cs _ fr h0 (.inr h2)
  have h4 : ∀ i, i ≠ q → (w3.setCell ⟨q, 2, none⟩ (.slice (some ⟨gF, 0, none⟩) (b.2.2.length + 1) capF)).heap[i]? = w3.heap[i]? := fun i hi => heap_setCell_other _ _ i _ hi
  have hFq : ∀ (i : Nat) (cs : Array Value) (fr : Nat × Nat), w3.heap[i]? = some (Obj.cells cs 73 fr) → i ≠ q := by
    rintro i cs fr h0 rfl
    rw [q3] at h0
    injection h0 with h0
    injection h0 with _ h0
    exact absurd h0 (by decide)
  obtain ⟨csb, frb, hgb⟩ := own_typed o3 gb rfl
  have hFg : ∀ (i : Nat) (cs : Array Value) (fr : Nat × Nat), w3.heap[i]? = some (Obj.cells cs 73 fr) → i ≠ gb := by
    rintro i cs fr h0 rfl
    rw [hgb] at h0
    injection h0 with h0
    injection h0 with _ h0
    exact absurd h0 (by decide)
  have o4 := own_block (w' := w3.setCell ⟨q, 2, none⟩ (.slice (some ⟨gF, 0, none⟩) (b.2.2.length + 1) capF)) o3 fun i hi => h4 i (by
    injection hi with hi
    rw [← hi]
    exact hgq)
  have c0 : ((Z ++ [(iB b, vF)]).flatMap bkC)[Z.length * 3]? = some (.int .i64 (b.1 : Int)) := bkcat_last Z (iB b, vF) 0 (by omega)
  have c1 : ((Z ++ [(iB b, vF)]).flatMap bkC)[Z.length * 3 + 1]? = some (.string (str b.2.1)) := bkcat_last Z (iB b, vF) 1 (by omega)
  have c2 : ((Z ++ [(iB b, vF)]).flatMap bkC)[Z.length * 3 + 2]? = some vF := bkcat_last Z (iB b, vF) 2 (by omega)
  have hgbl : base ≤ gb := (o3.lt gb rfl).1
  generalize hw4 : w3.setCell ⟨q, 2, none⟩ (.slice (some ⟨gF, 0, none⟩) (b.2.2.length + 1) capF) = w4 at *
  have hsz4 : w4.heap.size = w3.heap.size := by rw [← hw4]; simp [World.setCell]
  refine ⟨by rw [← hw4]; exact heap_setCell_same w3 q 2 _ _ _ q3, ⟨(o4.cellAt _ (by omega)).trans c0, (o4.cellAt _ (by omega)).trans c1, (o4.cellAt _ (by omega)).trans c2, fun j => o4.frozenAt j⟩, ?_, ?_⟩
  · have hb3 : Below base w1 w3 := ((Below.refl base w1).alloc (by have := h.low; omega) o).grown hg (by rw [World.size_alloc]; have := h.low; omega) fun i hi => Nat.le_trans h.low.1 (hFty i hi).1
    have hb4 : Below base w1 w4 := by rw [← hw4]; exact hb3.setCell hqb _
    exact ((hb4.setCell hgbl _).setCell hgbl _).setCell hgbl _
  · have s0 := (o4.stored (Z.length * 3) (.int .i64 (b.1 : Int))).1
    rw [set_same c0] at s0
    have s1 := (s0.stored (Z.length * 3 + 1) (.string (str b.2.1))).1
    rw [set_same c1] at s1
    have s2 := (s1.stored (Z.length * 3 + 2) (.slice (some ⟨gF, 0, none⟩) (b.2.2.length + 1) capF)).1
    rw [bkcat_set Z (iB b) (iB (b.1, b.2.1, b.2.2 ++ [(at_, k, x)])) vF _ rfl rfl] at s2
    have h5 : ∀ i, i ≠ gb → i ≠ q → (((w4.setCell ⟨gb, Z.length * 3, none⟩ (.int .i64 (b.1 : Int))).setCell ⟨gb, Z.length * 3 + 1, none⟩ (.string (str b.2.1))).setCell ⟨gb, Z.length * 3 + 2, none⟩ (.slice (some ⟨gF, 0, none⟩) (b.2.2.length + 1) capF)).heap[i]? = w3.heap[i]? := fun i hi hiq =>
      (heap_setCell_other _ _ i _ hi).trans ((heap_setCell_other _ _ i _ hi).trans ((heap_setCell_other _ _ i _ hi).trans (h4 i hiq)))
    have hsz5 : (((w4.setCell ⟨gb, Z.length * 3, none⟩ (.int .i64 (b.1 : Int))).setCell ⟨gb, Z.length * 3 + 1, none⟩ (.string (str b.2.1))).setCell ⟨gb, Z.length * 3 + 2, none⟩ (.slice (some ⟨gF, 0, none⟩) (b.2.2.length + 1) capF)).heap.size = w3.heap.size := by
      rw [← hsz4]
      simp [World.setCell]
    have hsz3 : w1.heap.size ≤ w3.heap.size := by have := hg.size; rw [World.size_alloc] at this; omega
    refine ⟨.slice (some ⟨gF, 0, none⟩) (b.2.2.length + 1) capF, B, Z, ⟨h.low.1, by have := h.low.2; omega⟩, h.same, s2, fun p hp => (r3 p hp).keep (Nat.le_refl _) (Nat.le_refl _) fun c cs fr _ _ h0 => h5 c (hFg c cs fr h0) (hFq c cs fr h0), ?_⟩
    have e1 : ((b.2.2 ++ [(at_, k, x)]).map iF).flatMap fdC = (b.2.2.map iF).flatMap fdC ++ [.int .i64 (at_ : Int), .string (str k), .string (str x)] := by
      rw [List.map_append, List.flatMap_append]
      rfl
    have e2 : (b.2.2 ++ [(at_, k, x)]).length = b.2.2.length + 1 := by simp
    simp only [e1, e2]
    exact own_block hown fun i hi => by
      obtain ⟨cs, fr, h0⟩ := own_typed hown i hi
      exact h5 i (hFg i cs fr h0) (hFq i cs fr h0)
theorem fst_at {t : Tx} {j : Nat} {x : UInt8} {r : Tx} (h : j < (fst9 t).length) (hd : t.drop j = x :: r) : blk x = false := by
  have h1 : (fst9 t).drop j = x :: (fst9 t).drop (j + 1) := by
    rw [List.drop_eq_getElem_cons h]
    congr 1
    have h2 : (fst9 t ++ snd9 t)[j]? = t[j]? := by rw [fst_snd]
    rw [List.getElem?_append_left h, List.getElem?_eq_getElem h] at h2
    have h3 : t[j]? = some x := by
      have := congrArg (fun l => l[0]?) hd
      simpa using this
    rw [h3] at h2
    exact Option.some.inj h2
  exact fst_no t x (List.mem_of_mem_drop (i := j) (by rw [h1]; simp))
theorem fnd_has (b : Bk) (k : Tx) : decide (0 ≤ fndN k (iB b).2.2 0) = hasN b k := by
  have hall : ∀ (l : List Fd) (i : Nat), decide (0 ≤ fndN k (l.map iF) i) = l.any fun f => f.2.1 == k := by
    intro l
    induction l with
    | nil => intro i; rfl
    | cons f l ih =>
      intro i
      rw [List.map_cons, fndN, List.any_cons]
      by_cases h : (iF f).2.1 = k
      · have h' : (f.2.1 == k) = true := beq_iff_eq.2 (show f.2.1 = k from h)
        rw [if_pos h, h']
        simp
      · have h' : (f.2.1 == k) = false := beq_eq_false_iff_ne.2 (show f.2.1 ≠ k from h)
        rw [if_neg h, h', ih]
        rfl
  exact hall b.2.2 0
end Go.Proofs.YtbeehedppofpnaaGreatDoor

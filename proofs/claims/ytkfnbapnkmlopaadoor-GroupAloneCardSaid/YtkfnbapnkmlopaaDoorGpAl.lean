/- What law GroupAlone's walk stands on: worlds that agree but for one block; rows that keep apart. -/
import Derived.Test.YtkfnbapnkmlopaaDoorGpSl
import Derived.Test.YtkfnbapnkmlopaaDoorGpAm
import Derived.Test.YtkfnbapnkmlopaaDoorBol
namespace Go.Proofs.YtkfnbapnkmlopaaDoor
open Go.RowKit

/-- All blocks of w but b are kept. -/
structure BxA (b : Nat) (w w' : World) : Prop where
  size : w.heap.size ≤ w'.heap.size
  block : ∀ i, i < w.heap.size → i ≠ b → w'.heap[i]? = w.heap[i]?
section
variable {b : Nat} {w w' w1 : World}
theorem BxA.refl (b : Nat) (w : World) : BxA b w w := ⟨Nat.le_refl _, fun _ _ _ => rfl⟩
theorem BxA.below (h : BxA b w w1) (hb : Below w1.heap.size w1 w') : BxA b w w' := ⟨Nat.le_trans h.size hb.size, fun i hi hib => (hb.block i (Nat.lt_of_lt_of_le hi h.size)).trans (h.block i hi hib)⟩
theorem BxA.grown {row : Option Nat} (h : BxA b w w1) (hg : w1.grownBy w' row) (hr : ∀ g, row = some g → w.heap.size ≤ g) : BxA b w w' :=
  ⟨Nat.le_trans h.size hg.size, fun i hi hib => (hg.block i (Nat.lt_of_lt_of_le hi h.size) (fun e => by have := hr i e.symm; omega)).trans (h.block i hi hib)⟩
theorem BxA.set {k : Nat} {v : Value} (h : BxA b w w1) : BxA b w (w1.setCell ⟨b, k, none⟩ v) :=
  ⟨by rw [World.size_setCell]; exact h.size, fun i hi hib => (Below.heap_setCell w1 ⟨b, k, none⟩ v i hib).trans (h.block i hi hib)⟩
theorem HeS.keep2 {base : Nat} {v : Value} {L : List Tx} (h : HeS w base v L) (hk : ∀ q n c, v = .slice (some q) n c → L ≠ [] → q.block < w.heap.size → (q.block < base ∨ ∃ cs fr, w.heap[q.block]? = some (.cells cs 9 fr)) → w'.heap[q.block]? = w.heap[q.block]?) : HeS w' base v L := by
  obtain ⟨⟨A, c, e, h1, h2, h3⟩, h4⟩ := h
  subst e
  rcases A with _ | q
  · refine ⟨⟨none, c, rfl, h1, h2, fun hn => ?_⟩, fun q n c e => by injection e with e; cases e⟩
    obtain ⟨ad, e, _⟩ := h3 hn
    cases e
  · by_cases hL : L = []
    · subst hL
      exact ⟨⟨_, c, rfl, h1, h2, Rd.nil⟩, fun q n c e hn => absurd rfl hn⟩
    · have hlt : q.block < w.heap.size := by
        have hpos : 0 < L.length := List.length_pos_iff.2 hL
        obtain ⟨ad, e, hc⟩ := h3 (by rw [List.length_map]; exact hpos)
        injection e with e
        subst e
        have : w.cell? (q.add 0) = some (.string (str L[0])) := hc 0 (.string (str L[0])) (by rw [List.getElem?_map, List.getElem?_eq_getElem hpos]; rfl)
        have hb := World.block_lt_of_cell? w _ this
        rw [block_add] at hb
        exact hb
      have hq := h4 q _ _ rfl hL
      have hh := hk q _ _ rfl hL hlt hq
      refine ⟨⟨_, c, rfl, h1, h2, h3.keep fun p hp _ => ?_⟩, fun q' n' c' e _ => ?_⟩
      · injection hp with hp
        rw [hp]
        exact hh
      · injection e with e
        injection e with e
        subst e
        exact hq.imp id fun ⟨cs, fr, h⟩ => ⟨cs, fr, hh.trans h⟩
theorem bol_ne {F : List Bool} (hB : BolB b F w) {g : Nat} {cs : Array Value} {e : TypeId} {fr : Nat × Nat} (hg : w.heap[g]? = some (.cells cs e fr)) (he : e ≠ 4) : g ≠ b := fun e' => by
  subst e'
  unfold BolB at hB
  rw [hB] at hg
  injection hg with hg
  injection hg with _ hg
  exact he hg.symm
theorem own_bx {F : List Bool} {base k n : Nat} {e : TypeId} {v : Value} {xs : List Value} (h : w.ownsRow base e k v n xs) (hB : BolB b F w) (hx : BxA b w w') (he : e ≠ 4) : w'.ownsRow base e k v n xs :=
  own_block9 h fun g hg => by
    obtain ⟨cs, fr, h1⟩ := own_typed h g hg
    exact hx.block g (h.lt g hg).2 (bol_ne hB h1 he)
theorem HeS.bx {F : List Bool} {base : Nat} {v : Value} {L : List Tx} (h : HeS w base v L) (hB : BolB b F w) (hb : base ≤ b) (hx : BxA b w w') : HeS w' base v L :=
  h.keep (Nat.le_refl _) fun i hi hc => hx.block i hi (by
    rcases hc with hc | ⟨cs, fr, hc⟩
    · omega
    · exact bol_ne hB hc (by decide))
theorem GsO.bx {F : List Bool} {base : Nat} {v : Value} {Z : List (Grp × Value × Value)} (h : GsO w base v Z) (hB : BolB b F w) (hb : base ≤ b) (hx : BxA b w w') : GsO w' base v Z :=
  ⟨own_bx h.own hB hx (by decide), fun p hp => ⟨(h.row p hp).1.bx hB hb hx, (h.row p hp).2.bx hB hb hx⟩⟩
theorem StO.bx {F : List Bool} {base : Nat} {v : Value} {L : List Tx} (h : StO w base v L) (hB : BolB b F w) (hx : BxA b w w') : StO w' base v L := own_bx h hB hx (by decide)
/-- The members' rows keep apart from this row. -/
def ApO (oa : Value) (Z : List (Grp × Value × Value)) : Prop := ∀ p ∈ Z, (∀ q n c, p.2.1 = .slice (some q) n c → p.1.2.1 ≠ [] → oa.ownBlock ≠ some q.block) ∧ p.1.2.2 = []
/-- Where strings are, memory is. -/
theorem HeS.lt {base : Nat} {v : Value} {L : List Tx} (h : HeS w base v L) {q : Addr} {n c : Nat} (e : v = .slice (some q) n c) (hL : L ≠ []) : q.block < w.heap.size := by
  obtain ⟨⟨A, c', e', h1, h2, h3⟩, _⟩ := h
  rw [e'] at e
  injection e with e1 e2 e3
  subst e1
  have hpos : 0 < L.length := List.length_pos_iff.2 hL
  obtain ⟨ad, e4, hc⟩ := h3 (by rw [List.length_map]; exact hpos)
  injection e4 with e4
  subst e4
  have : w.cell? (q.add 0) = some (.string (str L[0])) := hc 0 (.string (str L[0])) (by rw [List.getElem?_map, List.getElem?_eq_getElem hpos]; rfl)
  have hb := World.block_lt_of_cell? w _ this
  rw [block_add] at hb
  exact hb
/-- The row of names grows: groups keep. -/
theorem GsO.grownS {base B : Nat} {v oa : Value} {L : List Tx} {Z : List (Grp × Value × Value)} (h : GsO w base v Z) (ha : ApO oa Z) (hs : StO w B oa L) (_ : base ≤ B) (hg : w.grownBy w' oa.ownBlock) : GsO w' base v Z := by
  refine ⟨own_block9 h.own fun g e => hg.block g (h.own.lt g e).2 fun e' => ?_, fun p hp => ⟨(h.row p hp).1.keep2 fun q n c e hL hlt _ => hg.block _ hlt fun e' => (ha p hp).1 q n c e hL e'.symm, (h.row p hp).2.keep2 fun q n c e hL => absurd (ha p hp).2 hL⟩⟩
  obtain ⟨c1, f1, h1⟩ := own_typed h.own g e
  obtain ⟨c2, f2, h2⟩ := own_typed hs g e'.symm
  rw [h1] at h2
  injection h2 with h2
  injection h2 with _ h2
  exact absurd h2 (by decide)
theorem ApO.grown {base : Nat} {v oa v' : Value} {Z : List (Grp × Value × Value)} (ha : ApO oa Z) (h : GsO w base v Z) (ho : v'.ownBlock = oa.ownBlock ∨ v'.ownBlock = some w.heap.size) : ApO v' Z := fun p hp => ⟨fun q n c e hL e' => by
    rcases ho with ho | ho
    · exact (ha p hp).1 q n c e hL (ho ▸ e')
    · have := (h.row p hp).1.lt e hL
      rw [ho] at e'
      injection e' with e'
      omega, (ha p hp).2⟩
theorem ApO.push {oa : Value} {Z : List (Grp × Value × Value)} {p : Grp × Value × Value} (ha : ApO oa Z) (h1 : ∀ q n c, p.2.1 = .slice (some q) n c → p.1.2.1 ≠ [] → oa.ownBlock ≠ some q.block) (h2 : p.1.2.2 = []) : ApO oa (Z ++ [p]) := fun q hq => by
  rcases List.mem_append.1 hq with hq | hq
  · exact ha q hq
  · rw [List.mem_singleton.1 hq]
    exact ⟨h1, h2⟩
theorem ApO.nil (oa : Value) : ApO oa [] := fun p hp => by cases hp
/-- The bits that were met: of i whole groups, and j items of the next one. -/
def BF (f : Nat → Nat → Bool) (k i j : Nat) (F : List Bool) : Prop := F.length = k ∧ ∀ t, t < k → F[t]? = some ((List.range i).any (fun a => f a t) || (decide (t < j) && f i t))
theorem BF.init (f : Nat → Nat → Bool) (k : Nat) : BF f k 0 0 (List.replicate k false) := ⟨by simp, fun t ht => by simp [ht]⟩
theorem BF.no {f : Nat → Nat → Bool} {k i j : Nat} {F : List Bool} (h : BF f k i j F) (hf : f i j = false) : BF f k i (j + 1) F := ⟨h.1, fun t ht => by
  rw [h.2 t ht]
  by_cases e : t = j
  · subst e
    simp [hf]
  · have : decide (t < j) = decide (t < j + 1) := by rw [decide_eq_decide]; omega
    rw [this]⟩
theorem BF.yes {f : Nat → Nat → Bool} {k i j : Nat} {F : List Bool} (h : BF f k i j F) (hj : j < k) (hf : f i j = true) : BF f k i (j + 1) (F.set j true) := ⟨by rw [List.length_set]; exact h.1, fun t ht => by
  by_cases e : t = j
  · subst e
    rw [List.getElem?_set_self (by rw [h.1]; exact ht)]
    simp [hf]
  · rw [List.getElem?_set_ne (fun e' => e e'.symm), h.2 t ht]
    have : decide (t < j) = decide (t < j + 1) := by rw [decide_eq_decide]; omega
    rw [this]⟩
theorem BF.round {f : Nat → Nat → Bool} {k i : Nat} {F : List Bool} (h : BF f k i k F) : BF f k (i + 1) 0 F := ⟨h.1, fun t ht => by
  rw [h.2 t ht, decide_eq_true ht, List.range_succ, List.any_append]
  simp⟩
end
set_option maxRecDepth 100000 in
theorem mkB13_run (m : Nat) (hm : m ≤ 4096) (W : World) : (Instr.makeSlice 50 (.int .i64 (m : Nat)) (.int .i64 (m : Nat))).run Tryd.prog W = .ok (.slice (some ⟨W.heap.size, 0, none⟩) m m) (W.alloc (.cells ((List.replicate m false).map Value.bool).toArray 4)) := by
  have h := run_mk (P := Tryd.prog) elBo (m : Nat) (m : Nat) (by omega) (Int.le_refl _) (by omega) (by omega) W
  rw [h]
  congr 3
  rw [Int.toNat_natCast]
  apply Array.toList_inj.1
  have h2 := toList_madeCells_one (Value.bool false) m
  rw [show (Value.bool false : Value).cells = #[Value.bool false] from rfl, h2]
  simp
theorem bolB_make (m : Nat) (W : World) : BolB W.heap.size (List.replicate m false) (W.alloc (.cells ((List.replicate m false).map Value.bool).toArray 4)) := (MapKept.heap_alloc W _).1
theorem rd_twoS13 (W : World) (S T : ByteArray) : Rd (W.alloc (.cells #[.string S, .string T] 9)) (some ⟨W.heap.size, 0, none⟩) [.string S, .string T] := Rd.block (MapKept.heap_alloc W (.cells #[.string S, .string T] 9)).1
theorem one_s13 (S T : ByteArray) : ∀ u ∈ [Value.string S, .string T], u.oneCell' = true := fun u hu => by
  simp only [List.mem_cons, List.not_mem_nil, or_false] at hu
  rcases hu with rfl | rfl <;> rfl
/-- The bits keep where a row of another type grows. -/
theorem BolB.grown13 {w w1 w' : World} {b : Nat} {F : List Bool} {base k n : Nat} {v : Value} {xs : List Value} (h : BolB b F w) (hb : Below w.heap.size w w1) (hg : w1.grownBy w' v.ownBlock) (ho : w.ownsRow base 9 k v n xs) : BolB b F w' := by
  have h1 := h.below hb
  refine (hg.block b h1.lt fun e => ?_).trans h1
  obtain ⟨c2, f2, e2⟩ := own_typed ho b e.symm
  exact bol_ne h e2 (by decide) rfl
theorem BolB.grownG {w w1 w' : World} {b : Nat} {F : List Bool} {base k n : Nat} {v : Value} {xs : List Value} (h : BolB b F w) (hb : Below w.heap.size w w1) (hg : w1.grownBy w' v.ownBlock) (ho : w.ownsRow base 45 k v n xs) : BolB b F w' := by
  have h1 := h.below hb
  refine (hg.block b h1.lt fun e => ?_).trans h1
  obtain ⟨c2, f2, e2⟩ := own_typed ho b e.symm
  exact bol_ne h e2 (by decide) rfl
theorem sto_grownG {w w1 w' : World} {B base k n : Nat} {v u : Value} {L : List Tx} {xs : List Value} (h : StO w B u L) (hb : Below w.heap.size w w1) (hg : w1.grownBy w' v.ownBlock) (ho : w.ownsRow base 45 k v n xs) : StO w' B u L := by
  have h1 := h.below hb
  refine own_block9 h1 fun g e => hg.block g (h1.lt g e).2 fun e' => ?_
  obtain ⟨c1, f1, e1⟩ := own_typed h1 g e
  obtain ⟨c2, f2, e2⟩ := own_typed ho g e'.symm
  have hlt := (ho.lt g e'.symm).2
  rw [hb.block g hlt, e2] at e1
  injection e1 with e1
  injection e1 with _ e1
  exact absurd e1 (by decide)
/-- Ints of one's own. -/
def NtO (w : World) (B : Nat) (v : Value) (L : List Nat) : Prop := w.ownsRow B 3 1 v L.length (L.map intC)
theorem NtO.own_n {w : World} {B n : Nat} {v : Value} {L : List Nat} (h : NtO w B v L) (hn : L.length = n) : w.ownsRow B 3 1 v n (L.map intC) := hn ▸ h
theorem NtO.of {w : World} {B n : Nat} {v : Value} {L : List Nat} {xs : List Value} (h : w.ownsRow B 3 1 v n xs) (hn : n = L.length) (hx : xs = L.map intC) : NtO w B v L := by
  subst hn hx
  exact h
theorem NtO.rowN {w : World} {B : Nat} {v : Value} {L : List Nat} (h : NtO w B v L) : RowN w v L := RowN.owned rfl h
theorem NtO.form {w : World} {B : Nat} {v : Value} {L : List Nat} (h : NtO w B v L) : ∃ A c, v = .slice A L.length c := by
  obtain ⟨A, c, e, _⟩ := own_anyk h
  exact ⟨A, c, e⟩
theorem infoI13 : (Tryd.prog.info? 3).map (fun i => (i.zero, i.size, i.bytes)) = some (some (.int .i64 0), 1, 8) := by kernel_rfl
theorem one_int13 (j : Nat) : ∀ u ∈ [Value.int .i64 (j : Nat)], u.oneCell' = true := fun u hu => by
  rw [List.mem_singleton.1 hu]
  rfl
end Go.Proofs.YtkfnbapnkmlopaaDoor

/- PdFindA, PdFindB, PdFind, in one text. -/
import Derived.Test.YtlogapkpllgdcaaGreatDoorPdAp7
import Derived.Test.YtlogapkpllgdcaaGreatDoorPdLy
import Derived.Test.YtlogapkpllgdcaaGreatDoorPdIs
import Derived.Test.YtlogapkpllgdcaaGreatDoorPdKe
/- What find keeps: who was looked at, and the seconds that were found. -/
namespace Go.Proofs.YtlogapkpllgdcaaGreatDoor
open Go.RowKit

abbrev nilV : Value := .slice none 0 0
theorem K_get (K : List Value) (k : Nat) (hk : k < K.length) : K.toArray[k]? = some (K.getD k nilV) := by
  rw [List.getElem?_toArray]
  exact getD_some hk nilV
theorem K_set (K : List Value) (k : Nat) (x : Value) : K.toArray.setIfInBounds k x = (K.set k x).toArray := by simp
theorem made_nil (n : Nat) : madeCells #[nilV] n = (List.replicate n nilV).toArray := by
  rw [← Array.toList_inj, toList_madeCells_one]
/-- Seconds whose words lie in none of some blocks. -/
def SecOk (F : Nat → Prop) (W : World) (u : Value) (f : Nat → Bool) : Prop := HSec W u f ∧ ∀ b, u = .slice (some ⟨b, 0, none⟩) 1350 1350 → ¬ F b
/-- The seconds of a period. -/
noncomputable def secF (l : List Prd) (day : Int) (i : Nat) : Nat → Bool := fun j => inn l (hitE day j) i
/-- What was looked at, and found; F: blocks that are left alone. -/
structure MW (l : List Prd) (day : Int) (w0 w1 : World) (bL bK : Nat) (F : Nat → Prop) (W : World) : Prop where
  below : Below w0.heap.size w0 W
  keeps : Keeps bL bK w1 W
  bases : bL ≠ bK ∧ w0.heap.size ≤ bL ∧ w0.heap.size ≤ bK ∧ w0.heap.size ≤ w1.heap.size
  arr : F bL ∧ F bK ∧ ∀ b, F b → b < W.heap.size
  st : ∃ (L : List Int) (K : List Value), L.length = l.length ∧ K.length = l.length ∧ W.heap[bL]? = some (.cells (intL L).toArray 3 (0, 0)) ∧ W.heap[bK]? = some (.cells K.toArray 93 (0, 0)) ∧ ∀ i, lk L i = 2 → SecOk F W (K.getD i nilV) (secF l day i)
/-- From W on to W': blocks of F but the two arrays are as they were. -/
def Left (bL bK : Nat) (F : Nat → Prop) (W W' : World) : Prop := W.heap.size ≤ W'.heap.size ∧ ∀ b, F b → b ≠ bL → b ≠ bK → W'.heap[b]? = W.heap[b]?
theorem Left.refl (bL bK : Nat) (F : Nat → Prop) (W : World) : Left bL bK F W W := ⟨Nat.le_refl _, fun _ _ _ _ => rfl⟩
theorem Left.trans {bL bK : Nat} {F : Nat → Prop} {W V U : World} (h : Left bL bK F W V) (h' : Left bL bK F V U) : Left bL bK F W U :=
  ⟨Nat.le_trans h.1 h'.1, fun b a c d => (h'.2 b a c d).trans (h.2 b a c d)⟩
section
variable {l : List Prd} {day : Int} {w0 w1 W W' : World} {bL bK : Nat} {F : Nat → Prop}
theorem SecOk.below {u : Value} {f : Nat → Bool} (h : SecOk F W u f) (hb : Below W.heap.size W W') : SecOk F W' u f := ⟨h.1.below hb, h.2⟩
/-- Seconds are as they were where their block is. -/
theorem SecOk.same {u : Value} {f : Nat → Bool} (h : SecOk F W u f) (hb : ∀ b, ¬ F b → W'.heap[b]? = W.heap[b]?) : SecOk F W' u f := by
  obtain ⟨h1, h2⟩ := h
  refine ⟨?_, h2⟩
  rcases h1 with h1 | ⟨b, ws, rfl, g1, g2, g3⟩
  · exact .inl h1
  · exact .inr ⟨b, ws, rfl, (hb b (h2 b rfl)).trans g1, g2, g3⟩
theorem MW.cell (h : MW l day w0 w1 bL bK F W) {p : Addr} {v : Value} (hc : w1.cell? p = some v) (h1 : p.block ≠ bL) (h2 : p.block ≠ bK) : W.cell? p = some v :=
  (World.cell?_of_block (h.keeps.2 _ (World.block_lt_of_cell? w1 p hc) h1 h2)).trans hc
theorem MW.drew (h : MW l day w0 w1 bL bK F W) : MW l day w0 w1 bL bK F W.drew := ⟨h.below.drew, h.keeps, h.bases, h.arr, h.st⟩
theorem MW.step (h : MW l day w0 w1 bL bK F W) (hb : Below W.heap.size W W') : MW l day w0 w1 bL bK F W' := by
  obtain ⟨L, K, e1, e2, e3, e4, e5⟩ := h.st
  refine ⟨h.below.trans (hb.mono h.below.size), ⟨Nat.le_trans h.keeps.1 hb.size, fun b hb' h1 h2 => (hb.block b (Nat.lt_of_lt_of_le hb' h.keeps.1)).trans (h.keeps.2 b hb' h1 h2)⟩, h.bases, ⟨h.arr.1, h.arr.2.1, fun b hF => Nat.lt_of_lt_of_le (h.arr.2.2 b hF) hb.size⟩, L, K, e1, e2, ?_, ?_, fun i hi => (e5 i hi).below hb⟩
  · exact (hb.block bL (Array.getElem?_eq_some_iff.1 e3).1).trans e3
  · exact (hb.block bK (Array.getElem?_eq_some_iff.1 e4).1).trans e4
theorem left_below (hF : ∀ b, F b → b < W.heap.size) (hb : Below W.heap.size W W') : Left bL bK F W W' := ⟨hb.size, fun b h _ _ => hb.block b (hF b h)⟩
/-- A new block besides is left alone, too. -/
theorem MW.more (h : MW l day w0 w1 bL bK F W) {bs : Nat} (hb : W.heap.size ≤ bs) (hW : Below W.heap.size W W') (hs : bs < W'.heap.size) : MW l day w0 w1 bL bK (fun b => F b ∨ b = bs) W' := by
  have h' := h.step hW
  obtain ⟨L, K, e1, e2, e3, e4, e5⟩ := h.st
  obtain ⟨L', K', a1, a2, a3, a4, a5⟩ := h'.st
  have q3 := (hW.block bL (Array.getElem?_eq_some_iff.1 e3).1).trans e3
  have q4 := (hW.block bK (Array.getElem?_eq_some_iff.1 e4).1).trans e4
  refine ⟨h'.below, h'.keeps, h.bases, ⟨.inl h.arr.1, .inl h.arr.2.1, fun b hF => ?_⟩, L, K, e1, e2, q3, q4, fun i hi => ?_⟩
  · rcases hF with hF | rfl
    · exact h'.arr.2.2 b hF
    · exact hs
  · have hk := e5 i hi
    refine ⟨hk.1.below hW, fun b e hF => ?_⟩
    rcases hF with hF | rfl
    · exact hk.2 b e hF
    · rcases hk.1 with ⟨h1, _⟩ | ⟨b', ws, h1, h2, _⟩
      · rw [h1] at e; cases e
      · rw [h1] at e
        injection e with e
        injection e with e
        injection e with e
        subst e
        have := (Array.getElem?_eq_some_iff.1 h2).1
        omega
/-- What writes one block of those left alone, above all others. -/
theorem MW.only (h : MW l day w0 w1 bL bK F W) {bs : Nat} (hF : F bs) (h1 : bs ≠ bL) (h2 : bs ≠ bK) (h3 : w1.heap.size ≤ bs) (ho : Only bs W W') : MW l day w0 w1 bL bK F W' := by
  obtain ⟨L, K, e1, e2, e3, e4, e5⟩ := h.st
  refine ⟨h.below.trans (ho.below.mono (Nat.le_trans h.bases.2.2.2 h3)), ⟨by rw [ho.size]; exact h.keeps.1, fun b hb n1 n2 => (ho.other b (by omega)).trans (h.keeps.2 b hb n1 n2)⟩, h.bases, ⟨h.arr.1, h.arr.2.1, fun b hb => by rw [ho.size]; exact h.arr.2.2 b hb⟩, L, K, e1, e2, (ho.other bL (Ne.symm h1)).trans e3, (ho.other bK (Ne.symm h2)).trans e4, fun i hi => (e5 i hi).same fun b hb => ho.other b fun e => hb (e ▸ hF)⟩
/-- Fewer blocks are left alone. -/
theorem MW.less {F' : Nat → Prop} (h : MW l day w0 w1 bL bK F W) (hF : ∀ b, F' b → F b) (hL : F' bL) (hK : F' bK) : MW l day w0 w1 bL bK F' W := by
  obtain ⟨L, K, e1, e2, e3, e4, e5⟩ := h.st
  exact ⟨h.below, h.keeps, h.bases, ⟨hL, hK, fun b hb => h.arr.2.2 b (hF b hb)⟩, L, K, e1, e2, e3, e4, fun i hi => ⟨(e5 i hi).1, fun b e hb => (e5 i hi).2 b e (hF b hb)⟩⟩
theorem MW.storeK (h : MW l day w0 w1 bL bK F W) {i : Nat} {u : Value} (hu : SecOk F W u (secF l day i)) (hi : i < l.length) : MW l day w0 w1 bL bK F (W.setCell ⟨bK, i, none⟩ u) := by
  obtain ⟨L, K, e1, e2, e3, e4, e5⟩ := h.st
  obtain ⟨n1, n2, n3, n4⟩ := h.bases
  have hs : ∀ b, ¬ F b → (W.setCell ⟨bK, i, none⟩ u).heap[b]? = W.heap[b]? := fun b hb => heap_setCell_other W ⟨bK, i, none⟩ b u fun e => hb (e ▸ h.arr.2.1)
  refine ⟨h.below.setCell (p := ⟨bK, i, none⟩) n3 _, ⟨by simpa using h.keeps.1, fun b hb h1 h2 => ?_⟩, h.bases, ⟨h.arr.1, h.arr.2.1, fun b hb => by simpa using h.arr.2.2 b hb⟩, L, K.set i u, e1, by rw [List.length_set]; exact e2, ?_, ?_, fun k hk => ?_⟩
  · rw [heap_setCell_other _ ⟨bK, i, none⟩ b _ h2]
    exact h.keeps.2 b hb h1 h2
  · exact (heap_setCell_other W ⟨bK, i, none⟩ bL u n1).trans e3
  · have := heap_setCell_same W bK i _ _ u e4
    rw [K_set] at this
    exact this
  · rw [List.getD_eq_getElem?_getD, List.getElem?_set]
    by_cases e : i = k
    · subst e; rw [if_pos rfl, if_pos (by rw [e2]; exact hi)]; exact hu.same hs
    · rw [if_neg e, ← List.getD_eq_getElem?_getD]
      exact (e5 k hk).same hs
theorem MW.store (h : MW l day w0 w1 bL bK F W) {i : Nat} {u : Value} (hu : SecOk F W u (secF l day i)) (hi : i < l.length) : MW l day w0 w1 bL bK F ((W.setCell ⟨bK, i, none⟩ u).setCell ⟨bL, i, none⟩ (.int .i64 2)) := by
  obtain ⟨L, K, e1, e2, e3, e4, e5⟩ := h.st
  obtain ⟨n1, n2, n3, n4⟩ := h.bases
  have hs : ∀ b, ¬ F b → ((W.setCell ⟨bK, i, none⟩ u).setCell ⟨bL, i, none⟩ (.int .i64 2)).heap[b]? = W.heap[b]? := fun b hb =>
    (heap_setCell_other _ ⟨bL, i, none⟩ b _ fun e => hb (e ▸ h.arr.1)).trans (heap_setCell_other W ⟨bK, i, none⟩ b u fun e => hb (e ▸ h.arr.2.1))
  refine ⟨(h.below.setCell (p := ⟨bK, i, none⟩) n3 _).setCell (p := ⟨bL, i, none⟩) n2 _, ⟨by simpa using h.keeps.1, fun b hb h1 h2 => ?_⟩, h.bases, ⟨h.arr.1, h.arr.2.1, fun b hb => by simpa using h.arr.2.2 b hb⟩, L.set i 2, K.set i u, by rw [List.length_set]; exact e1, by rw [List.length_set]; exact e2, ?_, ?_, fun k hk => ?_⟩
  · rw [heap_setCell_other _ ⟨bL, i, none⟩ b _ h1, heap_setCell_other _ ⟨bK, i, none⟩ b _ h2]
    exact h.keeps.2 b hb h1 h2
  · have h1 := (heap_setCell_other W ⟨bK, i, none⟩ bL u n1).trans e3
    have := heap_setCell_same _ bL i _ _ (.int .i64 2) h1
    rw [intL_set] at this
    exact this
  · rw [heap_setCell_other _ ⟨bL, i, none⟩ bK _ (Ne.symm n1)]
    have := heap_setCell_same W bK i _ _ u e4
    rw [K_set] at this
    exact this
  · rw [lk_set (by rw [e1]; exact hi)] at hk
    rw [List.getD_eq_getElem?_getD, List.getElem?_set]
    by_cases e : i = k
    · subst e; rw [if_pos rfl, if_pos (by rw [e2]; exact hi)]; exact hu.same hs
    · rw [if_neg e, ← List.getD_eq_getElem?_getD]
      rw [if_neg (fun e' => e e'.symm)] at hk
      exact (e5 k hk).same hs
theorem left_store {i : Nat} {u : Value} : Left bL bK F W ((W.setCell ⟨bK, i, none⟩ u).setCell ⟨bL, i, none⟩ (.int .i64 2)) :=
  ⟨by simp, fun b _ h1 h2 => (heap_setCell_other _ ⟨bL, i, none⟩ b _ h1).trans (heap_setCell_other W ⟨bK, i, none⟩ b u h2)⟩
end
/-- Where find's variables lie: p S set, D day, C look; of keep: L, N, K. -/
structure FixW (l : List Prd) (v : Value) (w1 : World) (bL bK pL pN pK pS pD pC : Nat) (day : Int) : Prop where
  cL : w1.cell? ⟨pL, 0, none⟩ = some (.slice (some ⟨bL, 0, none⟩) l.length l.length)
  cK : w1.cell? ⟨pK, 0, none⟩ = some (.slice (some ⟨bK, 0, none⟩) l.length l.length)
  cN : w1.cell? ⟨pN, 0, none⟩ = some (.func (.func 63) #[] #[.pointer (some ⟨pS, 0, none⟩), .pointer (some ⟨pD, 0, none⟩), .pointer (some ⟨pC, 0, none⟩)])
  cS : w1.cell? ⟨pS, 0, none⟩ = some v
  cD : w1.cell? ⟨pD, 0, none⟩ = some (.int .i64 day)
  cC : w1.cell? ⟨pC, 0, none⟩ = some (.func (.func 87) #[] #[.pointer (some ⟨pL, 0, none⟩), .pointer (some ⟨pN, 0, none⟩), .pointer (some ⟨pK, 0, none⟩)])
  ne : (pL ≠ bL ∧ pL ≠ bK) ∧ (pK ≠ bL ∧ pK ≠ bK) ∧ (pN ≠ bL ∧ pN ≠ bK) ∧ (pS ≠ bL ∧ pS ≠ bK) ∧ (pD ≠ bL ∧ pD ≠ bK) ∧ (pC ≠ bL ∧ pC ≠ bK)
/-- What look hands back. -/
def Found (l : List Prd) (day : Int) (w0 w1 : World) (bL bK : Nat) (F : Nat → Prop) (i : Nat) (W : World) (e : Ending) (W' : World) : Prop :=
  ∃ u, e = .returned u ∧ SecOk F W' u (secF l day i) ∧ MW l day w0 w1 bL bK F W' ∧ Left bL bK F W W'
theorem ent_lookW : Ent1 87 := enters_of Tryz.func87 (by kernel_rfl) rfl
theorem ent_find1 : Ent1 63 := enters_of Tryz.func63 (by kernel_rfl) rfl
end Go.Proofs.YtlogapkpllgdcaaGreatDoor
/- find's closure. -/
namespace Go.Proofs.YtlogapkpllgdcaaGreatDoor
open Go.RowKit

theorem mnt_len (day : Int) : ∀ l : List Ent, (∀ e ∈ l, e.sp.length ≤ 32) → (mnt day l).length ≤ 32 * l.length
  | [], _ => by simp [mnt]
  | a :: l, h => by
    have h1 := mnt_len day l fun e he => h e (List.mem_cons_of_mem _ he)
    have h2 := h a List.mem_cons_self
    unfold mnt at *
    rw [List.flatMap_cons, List.length_append, List.length_cons]
    split
    · omega
    · simp only [List.length_nil]; omega
/-- What its loop keeps: the first k excludes are taken out. -/
def FindR (l : List Prd) (day : Int) (w0 w1 : World) (bL bK : Nat) (F : Nat → Prop) (bs : Nat) (es : List Ent) (ex : List Int) (W0 : World) (k : Nat) (W : World) : Prop :=
  ∃ ws, MW l day w0 w1 bL bK (fun b => F b ∨ b = bs) W ∧ W.heap[bs]? = some (.cells (u64L ws).toArray 131 (0, 0)) ∧ Words ws ∧
    (∀ j, j < 86400 → bit ws j = (es.any (hitE day j) && !((ex.take k).any fun x => secF l day x.toNat j))) ∧ Left bL bK F W0 W
theorem findR_step {l : List Prd} {day : Int} {w0 w1 : World} {bL bK : Nat} {F : Nat → Prop} {bs : Nat} {es : List Ent} {ex : List Int} {W0 : World} {k : Nat} {W V U : World} {ws : List Nat}
    (hk : k < ex.length) (hbs : bs ≠ bL ∧ bs ≠ bK ∧ w1.heap.size ≤ bs) (hF : ¬ F bs)
    (h4 : ∀ j, j < 86400 → bit ws j = (es.any (hitE day j) && !((ex.take k).any fun x => secF l day x.toNat j))) (h5 : Left bL bK F W0 W)
    (hm : MW l day w0 w1 bL bK (fun b => F b ∨ b = bs) V) (hl : Left bL bK (fun b => F b ∨ b = bs) W V) (hd : Dropped bs ws (secF l day (ex.getD k 0).toNat) V U) :
    FindR l day w0 w1 bL bK F bs es ex W0 (k + 1) U := by
  obtain ⟨ws2, g1, g2, g3, g4⟩ := hd
  refine ⟨ws2, hm.only (.inr rfl) hbs.1 hbs.2.1 hbs.2.2 g4, g1, g2, fun j hj => ?_, ?_⟩
  · rw [g3 j hj, h4 j hj, any_take _ ex 0 k hk]
    cases es.any (hitE day j) <;> simp
  · refine h5.trans ⟨by rw [g4.size]; exact hl.1, fun b hb n1 n2 => ?_⟩
    rw [g4.other b (fun e => hF (e ▸ hb))]
    exact hl.2 b (.inl hb) n1 n2
set_option maxRecDepth 100000 in
set_option maxHeartbeats 4000000 in
theorem find1_any (l : List Prd) (v : Value) (w0 w1 : World) (bL bK pL pN pK pS pD pC : Nat) (day : Int) (hg : Good l) (ht : Tab w0) (hset : HPd w0 v l) (ha1 : -70368744177664 ≤ day) (ha2 : day ≤ 70368744177664)
    (hfix : FixW l v w1 bL bK pL pN pK pS pD pC day) (i : Nat) (hi : i < l.length) (F : Nat → Prop) (W : World) (hW : MW l day w0 w1 bL bK F W)
    (ih : ∀ (x : Nat) (F' : Nat → Prop) (V : World), Step l i x → x < l.length → MW l day w0 w1 bL bK F' V → Calls Tryz.prog 87 #[.int .i64 x, .pointer (some ⟨pL, 0, none⟩), .pointer (some ⟨pN, 0, none⟩), .pointer (some ⟨pK, 0, none⟩)] V (Found l day w0 w1 bL bK F' x V)) :
    Calls Tryz.prog 63 #[.int .i64 i, .pointer (some ⟨pS, 0, none⟩), .pointer (some ⟨pD, 0, none⟩), .pointer (some ⟨pC, 0, none⟩)] W (Found l day w0 w1 bL bK F i W) := by
  obtain ⟨A, c, E, U, rfl, _, _, hk⟩ := hset
  obtain ⟨⟨ad, X, rfl, hX, x1, x2⟩, hes, hex⟩ := hk i hi
  have hp := getD_some hi dP
  have hmem := getD_mem hi dP
  have hinn : ∀ j, secF l day i j = ((l.getD i dP).es.any (hitE day j) && !((l.getD i dP).ex.any fun x => secF l day x.toNat j)) := fun j => inn_eq (hitE day j) hg.loops hg.range hp
  have hstep : ∀ x : Nat, (x : Int) ∈ (l.getD i dP).ex → Step l i x := fun x hx => ⟨_, hp, hx⟩
  have hrange := hg.range _ hmem
  have h1 := hg.es _ hmem
  have h2 := hg.ex _ hmem
  have h3 := hg.sp _ hmem
  have h4 := hg.may _ hmem
  have h5 := hg.span _ hmem
  generalize (l.getD i dP).es = es at *
  generalize (l.getD i dP).ex = ex at *
  obtain ⟨Ax, cx, hU, hx1, _, hxc⟩ := hex
  rw [hU] at x2
  obtain ⟨nx, hnx⟩ : ∃ n, ex.length = n := ⟨_, rfl⟩
  rw [hnx] at hU x2 hx1 h2
  have hm0 := hW.drew
  have HME := Lib.hid (show ∀ V, Below W.heap.size W V → Calls Tryz.prog 65 #[E i, .int .i64 day] V fun e w' => ∃ u, e = .returned u ∧ HSp w' u (mnt day es) ∧ Below V.heap.size V w' from fun V hV =>
    meant_any es (E i) day V (ht.below (hW.step hV).below) (hes.below (hW.step hV).below) ha1 ha2 h1 h3 h4)
  have HLA := Lib.hid (show ∀ V u, HSp V u (mnt day es) → Calls Tryz.prog 64 #[u] V (LaidS V (mnt day es)) from fun V u hu =>
    lay_any (mnt day es) u V hu (by have := mnt_len day es h3; omega) fun s hs => by obtain ⟨e, he, hse⟩ := mnt_mem hs; exact h5 e he s hse)
  have HSS := Lib.hid (show ∀ V, Below W.heap.size W V → V.cell? ⟨pS, 0, none⟩ = some (.slice (some ad) l.length c) ∧ V.cell? X = some (E i) ∧ V.cell? ⟨pD, 0, none⟩ = some (.int .i64 day) from fun V hV =>
    ⟨(hW.step hV).cell hfix.cS hfix.ne.2.2.2.1.1 hfix.ne.2.2.2.1.2, cell_below x1 (hW.step hV).below, (hW.step hV).cell hfix.cD hfix.ne.2.2.2.2.1.1 hfix.ne.2.2.2.2.1.2⟩)
  have HIH := Lib.hid ih
  have HW := Lib.hid hW
  have HFIX := Lib.hid hfix
  have HX2 := Lib.hid x2
  have HXC := Lib.hid hxc
  have HINN := Lib.hid hinn
  have HST := Lib.hid hstep
  have HRG := Lib.hid hrange
  have HNX := Lib.hid hnx
  have hbd := below_dr W
  clear hW ih hfix hx1 x1 x2 hes hxc hinn hstep hrange hp hmem h1 h3 h4 h5 hk hg ht hm0 hnx hU
  go_enter Tryz.func63, Tryz.ntmps63
  go_wp2_with fail
  go_region_held3 (fun V => V.cell? ⟨pS, 0, none⟩ = some (.slice (some ad) l.length c) ∧ V.cell? X = some (E i) ∧ V.cell? ⟨pD, 0, none⟩ = some (.int .i64 day))
    (exact HSS.out _ (by assumption))
    (first
      | (go_at_call 65
         refine (HME.out _ hbd).mono ?_
         rintro e w2 ⟨u, rfl, hsp, hb2⟩
         have hbd2 : Below W.heap.size W w2 := hbd.trans (hb2.mono hbd.size)
         clear hb2 hbd)
      | (go_at_call 64
         refine (HLA.out _ _ hsp).mono ?_
         rintro e w3 ⟨u', rfl, hsec, hb3, hor⟩
         have hbd3 : Below W.heap.size W w3 := hbd2.trans (hb3.mono hbd2.size)
         have hsz := hbd2.size
         clear hb3 hbd2))
  all_goals
    rcases hor with rfl | rfl
    · have HF : Hid (Found l day w0 w1 bL bK F i W (.returned (.slice none 0 0)) w3) := by
        refine ⟨_, rfl, ⟨.inl ⟨rfl, fun j hj => ?_⟩, fun b e => by cases e⟩, HW.out.step hbd3, left_below HW.out.arr.2.2 hbd3⟩
        rcases hsec with ⟨_, h⟩ | ⟨b, ws, h, _⟩
        · rw [HINN.out j, ← mnt_any, show ((mnt day es).any fun s => inS s j) = false from h j hj, Bool.false_and]
        · cases h
      clear hsec hbd3 hsp hsz
      go_wp2_with fail
      go_ret
      exact HF.out
    · obtain ⟨bs, hbs⟩ : ∃ bs, w2.heap.size = bs := ⟨_, rfl⟩
      rw [hbs] at hsec hsz
      have hlow := Nat.le_trans HW.out.keeps.1 hsz
      have HBS : Hid ((bs ≠ bL ∧ bs ≠ bK ∧ w1.heap.size ≤ bs) ∧ ¬ F bs) := by
        refine ⟨⟨fun e => ?_, fun e => ?_, hlow⟩, fun e => ?_⟩
        · have := HW.out.arr.2.2 bL HW.out.arr.1; omega
        · have := HW.out.arr.2.2 bK HW.out.arr.2.1; omega
        · have := HW.out.arr.2.2 bs e; omega
      have HR0 : Hid (FindR l day w0 w1 bL bK F bs es ex W 0 w3) := by
        rcases hsec with ⟨h, _⟩ | ⟨b, ws, h, g1, g2, g3⟩
        · cases h
        · injection h with h
          injection h with h
          injection h with h
          subst h
          exact ⟨ws, HW.out.more hsz hbd3 (Array.getElem?_eq_some_iff.1 g1).1, g1, g2, fun j hj => by rw [← g3 j hj, ← mnt_any]; simp, left_below HW.out.arr.2.2 hbd3⟩
      have y1 := HSS.out _ hbd3
      obtain ⟨y1, _, _⟩ := y1
      have y2 := cell_below HX2.out (HW.out.step hbd3).below
      clear hsec hbd3 hsp hsz hlow
      rw [hbs]
      clear hbs
      go_wp2_with fail
      clear y1 y2
      go_loopw [25] (fun q wr => ∃ k : Nat, k ≤ nx ∧ q = .int .i64 k ∧ FindR l day w0 w1 bL bK F bs es ex W k wr) (fun q _ => nx - (intOf q).toNat)
      case atStart => exact ⟨0, Nat.zero_le _, rfl, HR0.out⟩
      case round =>
        obtain ⟨k, hkx, rfl, ws, r1, r2, r3, r4, r5⟩ := hrel
        have HR := Lib.hid (And.intro r1 (And.intro r2 (And.intro r3 (And.intro r4 r5))))
        by_cases hlt : k < nx
        · have hlt' : k < ex.length := by rw [HNX.out]; exact hlt
          obtain ⟨ax, rfl, z1⟩ := HXC.out k hlt'
          have z2 := cell_below z1 r1.below
          have hxm := getD_mem hlt' 0
          have hb := HRG.out _ hxm
          obtain ⟨x, hx⟩ : ∃ x : Nat, ex.getD k 0 = x := ⟨(ex.getD k 0).toNat, by omega⟩
          have z3 := r1.cell HFIX.out.cC HFIX.out.ne.2.2.2.2.2.1 HFIX.out.ne.2.2.2.2.2.2
          rw [hx] at z2 hxm hb
          have HI := Lib.hid (HIH.out x _ _ (HST.out x hxm) (by omega) r1)
          have HXQ := Lib.hid (And.intro hx hlt')
          clear r1 r2 r3 r4 r5 z1 hxm hb hx hlt'
          go_wp2_with fail
          refine HI.out.mono ?_
          rintro e w5 ⟨u, rfl, f1, f2, f3⟩
          have HF1 := Lib.hid (And.intro f1 (And.intro f2 f3))
          have hb5 := (f3.2 bs (.inr rfl) HBS.out.1.1 HBS.out.1.2.1).trans HR.out.2.1
          have HDR := Lib.hid (drop_any bs ws u (secF l day x) w5 HR.out.2.2.1 hb5 f1.1 (fun b e h => f1.2 b e (.inr h)))
          clear f1 f2 f3 hb5 z2 z3
          go_wp2_with fail
          refine HDR.out.mono ?_
          rintro e w6 ⟨rfl, hd⟩
          have HN := Lib.hid (findR_step (k := k) HXQ.out.2 HBS.out.1 HBS.out.2 HR.out.2.2.2.1 HR.out.2.2.2.2 HF1.out.2.1 HF1.out.2.2 (by rw [HXQ.out.1]; exact hd))
          clear hd
          go_wp2_with fail
          go_roundw
          case rel => exact ⟨k + 1, by omega, by go_num, HN.out⟩
          case measure => simp [intOf]; omega
        · obtain rfl : k = nx := by omega
          have hfull : ex.take k = ex := by rw [← HNX.out]; exact List.take_length
          rw [hfull] at r4
          have HF : Hid (Found l day w0 w1 bL bK F i W (.returned (.slice (some ⟨bs, 0, none⟩) 1350 1350)) wr) := by
            refine ⟨_, rfl, ⟨.inr ⟨bs, ws, rfl, r2, r3, fun j hj => by rw [HINN.out j, r4 j hj]⟩, fun b e h => ?_⟩, r1.less (fun b h => .inl h) HW.out.arr.1 HW.out.arr.2.1, r5⟩
            injection e with e
            injection e with e
            injection e with e
            subst e
            exact HBS.out.2 h
          clear r1 r2 r3 r4 r5 hfull
          go_wp2_with fail
          go_ret
          exact HF.out
end Go.Proofs.YtlogapkpllgdcaaGreatDoor
/- find's closures together; find. -/
namespace Go.Proofs.YtlogapkpllgdcaaGreatDoor
open Go.RowKit

theorem stored_w {W : World} {bL bK i : Nat} (hne : bL ≠ bK) {K : List Value} {t : TypeId} (h : W.heap[bK]? = some (.cells K.toArray t (0, 0))) (hi : i < K.length) (b : Value) :
    ((W.setCell ⟨bK, i, none⟩ b).setCell ⟨bL, i, none⟩ (.int .i64 2)).cell? ⟨bK, i, none⟩ = some b := by
  have h1 := heap_setCell_same W bK i _ _ b h
  have h2 := (heap_setCell_other (W.setCell ⟨bK, i, none⟩ b) ⟨bL, i, none⟩ bK (.int .i64 2) (Ne.symm hne)).trans h1
  rw [K_set] at h2
  have h3 := cell_blk h2 i (K_get (K.set i b) i (by rw [List.length_set]; exact hi))
  rw [h3, List.getD_eq_getElem?_getD, List.getElem?_set, if_pos rfl, if_pos hi]
  rfl
set_option maxRecDepth 100000 in
set_option maxHeartbeats 2000000 in
theorem lookW_any (l : List Prd) (v : Value) (w0 w1 : World) (bL bK pL pN pK pS pD pC : Nat) (day : Int) (hg : Good l) (ht : Tab w0) (hset : HPd w0 v l) (ha1 : -70368744177664 ≤ day) (ha2 : day ≤ 70368744177664)
    (hfix : FixW l v w1 bL bK pL pN pK pS pD pC day) :
    ∀ (m : Nat) (i : Nat) (F : Nat → Prop) (W : World), rk l i < m → i < l.length → MW l day w0 w1 bL bK F W →
      Calls Tryz.prog 87 #[.int .i64 i, .pointer (some ⟨pL, 0, none⟩), .pointer (some ⟨pN, 0, none⟩), .pointer (some ⟨pK, 0, none⟩)] W (Found l day w0 w1 bL bK F i W) := by
  intro m
  induction m with
  | zero => intro i F W h; omega
  | succ m ih =>
    intro i F W hm hi hW
    have HC : Hid (∀ V, MW l day w0 w1 bL bK F V → Calls Tryz.prog 63 #[.int .i64 i, .pointer (some ⟨pS, 0, none⟩), .pointer (some ⟨pD, 0, none⟩), .pointer (some ⟨pC, 0, none⟩)] V (Found l day w0 w1 bL bK F i V)) := fun V hV =>
      find1_any l v w0 w1 bL bK pL pN pK pS pD pC day hg ht hset ha1 ha2 hfix i hi F V hV fun x F' V' hs hx hV' => ih x F' V' (by have := rk_lt hg.loops hs hx; omega) hx hV'
    have HSS := Lib.hid (show ∀ V, MW l day w0 w1 bL bK F V → V.cell? ⟨pK, 0, none⟩ = some (.slice (some ⟨bK, 0, none⟩) l.length l.length) ∧ V.cell? ⟨pL, 0, none⟩ = some (.slice (some ⟨bL, 0, none⟩) l.length l.length) ∧ V.cell? ⟨pN, 0, none⟩ = some (.func (.func 63) #[] #[.pointer (some ⟨pS, 0, none⟩), .pointer (some ⟨pD, 0, none⟩), .pointer (some ⟨pC, 0, none⟩)]) from fun V hV =>
      ⟨hV.cell hfix.cK hfix.ne.2.1.1 hfix.ne.2.1.2, hV.cell hfix.cL hfix.ne.1.1 hfix.ne.1.2, hV.cell hfix.cN hfix.ne.2.2.1.1 hfix.ne.2.2.1.2⟩)
    have HMB := Lib.hid hW
    have hm0 := hW.drew
    obtain ⟨k1, k2, k3⟩ := HSS.out W hW
    have hst := hW.st
    obtain ⟨L, K, e1, e2, e3, e4, e5⟩ := hst
    have y1 : W.cell? ⟨bL, i, none⟩ = some (.int .i64 (lk L i)) := cell_blk e3 i (intL_get L i (by rw [e1]; exact hi))
    by_cases h2 : lk L i = 2
    · have y2 : W.cell? ⟨bK, i, none⟩ = some (K.getD i nilV) := cell_blk e4 i (K_get K i (by rw [e2]; exact hi))
      have HF : Hid (Found l day w0 w1 bL bK F i W (.returned (K.getD i nilV)) W) := ⟨_, rfl, e5 i h2, hW, Left.refl _ _ _ _⟩
      have hform : ∃ A n c, K.getD i nilV = .slice A n c := by
        rcases (e5 i h2).1 with ⟨h, _⟩ | ⟨b, _, h, _⟩
        · exact ⟨_, _, _, h⟩
        · exact ⟨_, _, _, h⟩
      obtain ⟨A9, n9, c9, h9⟩ := hform
      rw [h9] at y2 HF
      rw [h2] at y1
      clear e1 e2 e3 e4 e5 h2 h9 hW hg ht hset hfix ih
      go_enter Tryz.func87, Tryz.ntmps87
      go_wp2_with fail
      go_ret
      exact HF.out
    · have hne : (lk L i != 2) = true := by simpa using h2
      generalize lk L i = x at *
      clear e1 e2 e3 e4 e5 h2 hW hg ht hset hfix ih
      go_enter Tryz.func87, Tryz.ntmps87
      go_wp2_with fail
      clear k1 k2 k3 y1
      refine wp_region_noPanic ?_
      refine wp_region_held_drew (S := fun V => MW l day w0 w1 bL bK F V) (by kernel_rfl) hm0 (fun hHeld => ?_)
      refine' wpAnyH_take (i := 0) (oi := { dst := some 11, op := Go.Op.load 161 (Go.Operand.tmp 3), type := 161, pos := "period.go:183", after := #[], guard := none }) (v := _) rfl (by kernel_rfl) (by kernel_rfl) (by kernel_rfl) (fun _ _ _ h => h) (Or.inl ⟨by rfl, ?_⟩) (by assumption) ?_
      rotate_left
      · (intro W hSw; obtain ⟨f0, f1, f2⟩ := HSS.out _ hSw; go_simp; try with_reducible rfl)
      try simp only [Act.put, List.setIfInBounds_toArray, List.set_cons_zero, List.set_cons_succ]
      refine' wpAnyH_take (i := 1) (oi := { dst := some 12, op := Go.Op.move (Go.Operand.tmp 0), type := 3, pos := "period.go:183", after := #[], guard := none }) (v := _) rfl (by kernel_rfl) (by kernel_rfl) (by kernel_rfl) (fun _ _ _ h => h) (Or.inl ⟨by rfl, ?_⟩) (by assumption) ?_
      rotate_left
      · (intro W hSw; go_simp; try with_reducible rfl)
      try simp only [Act.put, List.setIfInBounds_toArray, List.set_cons_zero, List.set_cons_succ]
      refine' wpAnyH_take (i := 2) (oi := { dst := some 13, op := Go.Op.load 55 (Go.Operand.tmp 1), type := 55, pos := "period.go:183", after := #[], guard := none }) (v := _) rfl (by kernel_rfl) (by kernel_rfl) (by kernel_rfl) (fun _ _ _ h => h) (Or.inl ⟨by rfl, ?_⟩) (by assumption) ?_
      rotate_left
      · (intro W hSw; obtain ⟨f0, f1, f2⟩ := HSS.out _ hSw; go_simp; try with_reducible rfl)
      try simp only [Act.put, List.setIfInBounds_toArray, List.set_cons_zero, List.set_cons_succ]
      refine' wpAnyH_take (i := 3) (oi := { dst := some 14, op := Go.Op.move (Go.Operand.tmp 0), type := 3, pos := "period.go:183", after := #[{ on := 8, ground := Go.Ground.gcOnly Go.Departure.lateStores }], guard := none }) (v := _) rfl (by kernel_rfl) (by kernel_rfl) (by kernel_rfl) (fun _ _ _ h => h) (Or.inl ⟨by rfl, ?_⟩) (by assumption) ?_
      rotate_left
      · (intro W hSw; go_simp; try with_reducible rfl)
      try simp only [Act.put, List.setIfInBounds_toArray, List.set_cons_zero, List.set_cons_succ]
      refine' wpAnyH_take (i := 4) (oi := { dst := some 15, op := Go.Op.load 126 (Go.Operand.tmp 2), type := 126, pos := "period.go:183", after := #[], guard := none }) (v := _) rfl (by kernel_rfl) (by kernel_rfl) (by kernel_rfl) (fun _ _ _ h => h) (Or.inl ⟨by rfl, ?_⟩) (by assumption) ?_
      rotate_left
      · (intro W hSw; obtain ⟨f0, f1, f2⟩ := HSS.out _ hSw; go_simp; try with_reducible rfl)
      try simp only [Act.put, List.setIfInBounds_toArray, List.set_cons_zero, List.set_cons_succ]
      refine' wpAnyH_take (i := 5) (oi := { dst := some 16, op := Go.Op.move (Go.Operand.tmp 0), type := 3, pos := "period.go:183", after := #[], guard := none }) (v := _) rfl (by kernel_rfl) (by kernel_rfl) (by kernel_rfl) (fun _ _ _ h => h) (Or.inl ⟨by rfl, ?_⟩) (by assumption) ?_
      rotate_left
      · (intro W hSw; go_simp; try with_reducible rfl)
      try simp only [Act.put, List.setIfInBounds_toArray, List.set_cons_zero, List.set_cons_succ]
      refine wpAnyH_ready (rs := [6]) (by kernel_rfl) (by simp) ?_
      refine AllReadyH.cons (o := { dst := some 17, op := Go.Op.call { callee := Go.Callee.value (Go.Operand.tmp 15), args := #[Go.Operand.tmp 16], argTypes := #[3] }, type := 93, pos := "period.go:183", after := #[{ on := 4, ground := Go.Ground.data }, { on := 5, ground := Go.Ground.data }], guard := none }) rfl (fun K hK => ?_) AllReadyH.nil
      go_simp
      refine (HC.out _ hHeld).mono ?_
      rintro e w2 ⟨u, rfl, hu, hm1, hlf⟩
      clear hHeld
      try go_wp2_with fail
      refine hK.out _ _ hm1 (fun hHeld => ?_)
      clear hK K
      have hform : ∃ A n c, u = .slice A n c := by
        rcases hu.1 with ⟨h, _⟩ | ⟨b, _, h, _⟩
        · exact ⟨_, _, _, h⟩
        · exact ⟨_, _, _, h⟩
      obtain ⟨A9, n9, c9, rfl⟩ := hform
      have hst := hm1.st
      obtain ⟨L2, K2, n1, n2, b1, b2, _⟩ := hst
      have z1 := cell_blk b2 i (K_get K2 i (by rw [n2]; exact hi))
      have z2 := frz_blk b2 i
      have hs1 := hm1.storeK hu hi
      have hs2 := hm1.store hu hi
      have b3 := (heap_setCell_other w2 ⟨bK, i, none⟩ bL (.slice A9 n9 c9) hm1.bases.1).trans b1
      have z3 := cell_blk b3 i (intL_get L2 i (by rw [n1]; exact hi))
      have z4 := frz_blk b3 i
      have z5 := stored_w hm1.bases.1 b2 (i := i) (by rw [n2]; exact hi) (.slice A9 n9 c9)
      have HZ5 := Lib.hid (And.intro z5 (And.intro (hu.same (W' := (w2.setCell ⟨bK, i, none⟩ (.slice A9 n9 c9)).setCell ⟨bL, i, none⟩ (.int .i64 2)) fun b hb => (heap_setCell_other _ ⟨bL, i, none⟩ b _ fun e => hb (e ▸ hm1.arr.1)).trans (heap_setCell_other w2 ⟨bK, i, none⟩ b _ fun e => hb (e ▸ hm1.arr.2.1))) (hlf.trans (left_store (F := F) (i := i) (u := .slice A9 n9 c9)))))
      clear n1 n2 b1 b2 b3 hm1 z5 hu hlf
      try simp only [Act.put, List.setIfInBounds_toArray, List.set_cons_zero, List.set_cons_succ]
      refine' wpAnyH_take (i := 7) (oi := { dst := some 18, op := Go.Op.indexAddr 161 (Go.Operand.tmp 11) (Go.Operand.tmp 12), type := 0, pos := "period.go:183", after := #[{ on := 0, ground := Go.Ground.data }, { on := 1, ground := Go.Ground.data }, { on := 0, ground := Go.Ground.phase }, { on := 1, ground := Go.Ground.phase }, { on := 2, ground := Go.Ground.textOnly Go.Departure.inlinedCapture }, { on := 3, ground := Go.Ground.textOnly Go.Departure.lateStores }, { on := 4, ground := Go.Ground.phase }, { on := 5, ground := Go.Ground.phase }, { on := 6, ground := Go.Ground.phase }], guard := none }) (v := _) rfl (by kernel_rfl) (by kernel_rfl) (by kernel_rfl) (fun _ _ _ h => h) (Or.inl ⟨by rfl, ?_⟩) (by assumption) ?_
      rotate_left
      · (intro W hSw; go_simp; try with_reducible rfl)
      try simp only [Act.put, List.setIfInBounds_toArray, List.set_cons_zero, List.set_cons_succ]
      refine wpAnyH_ready (rs := [8]) (by kernel_rfl) (by simp) ?_
      refine AllReadyH.cons (o := { dst := none, op := Go.Op.store 93 (Go.Operand.tmp 18) (Go.Operand.tmp 17), type := 0, pos := "period.go:183", after := #[{ on := 7, ground := Go.Ground.data }, { on := 6, ground := Go.Ground.data }, { on := 6, ground := Go.Ground.chain }, { on := 0, ground := Go.Ground.phase }, { on := 1, ground := Go.Ground.phase }, { on := 2, ground := Go.Ground.textOnly Go.Departure.inlinedCapture }, { on := 3, ground := Go.Ground.textOnly Go.Departure.lateStores }, { on := 4, ground := Go.Ground.phase }, { on := 5, ground := Go.Ground.phase }, { on := 6, ground := Go.Ground.phase }], guard := none }) rfl (fun K hK => ?_) AllReadyH.nil
      go_simp
      refine hK.out _ _ hs1 (fun hHeld => ?_)
      clear hK K
      try simp only [Act.put, List.setIfInBounds_toArray, List.set_cons_zero, List.set_cons_succ]
      refine' wpAnyH_take (i := 9) (oi := { dst := some 19, op := Go.Op.indexAddr 55 (Go.Operand.tmp 13) (Go.Operand.tmp 14), type := 0, pos := "period.go:183", after := #[{ on := 2, ground := Go.Ground.data }, { on := 3, ground := Go.Ground.data }, { on := 0, ground := Go.Ground.phase }, { on := 1, ground := Go.Ground.phase }, { on := 2, ground := Go.Ground.phase }, { on := 3, ground := Go.Ground.phase }, { on := 4, ground := Go.Ground.phase }, { on := 5, ground := Go.Ground.phase }, { on := 6, ground := Go.Ground.phase }, { on := 7, ground := Go.Ground.phase }, { on := 8, ground := Go.Ground.phase }], guard := none }) (v := _) rfl (by kernel_rfl) (by kernel_rfl) (by kernel_rfl) (fun _ _ _ h => h) (Or.inl ⟨by rfl, ?_⟩) (by assumption) ?_
      rotate_left
      · (intro W hSw; go_simp; try with_reducible rfl)
      try simp only [Act.put, List.setIfInBounds_toArray, List.set_cons_zero, List.set_cons_succ]
      refine wpAnyH_ready (rs := [10]) (by kernel_rfl) (by simp) ?_
      refine AllReadyH.cons (o := { dst := none, op := Go.Op.store 3 (Go.Operand.tmp 19) (Go.Operand.const (Go.Value.int Go.IntKind.i64 2)), type := 0, pos := "period.go:183", after := #[{ on := 9, ground := Go.Ground.data }, { on := 8, ground := Go.Ground.chain }, { on := 0, ground := Go.Ground.phase }, { on := 1, ground := Go.Ground.phase }, { on := 2, ground := Go.Ground.phase }, { on := 3, ground := Go.Ground.phase }, { on := 4, ground := Go.Ground.phase }, { on := 5, ground := Go.Ground.phase }, { on := 6, ground := Go.Ground.phase }, { on := 7, ground := Go.Ground.phase }, { on := 8, ground := Go.Ground.phase }], guard := none }) rfl (fun K hK => ?_) AllReadyH.nil
      go_simp
      refine hK.out _ _ hs2 (fun hHeld => ?_)
      clear hK K
      try simp only [Act.put, List.setIfInBounds_toArray, List.set_cons_zero, List.set_cons_succ]
      refine wpAnyH_done (by kernel_rfl) ?_ _
      refine NoPanic.normal ?_
      have HZ := Lib.hid hHeld
      obtain ⟨k1, k2, k3⟩ := HSS.out _ hHeld
      have b5 := HZ5.out.1
      clear hs1 hs2 z1 z2 z3 z4 hHeld
      go_wp2_with fail
      go_ret
      exact ⟨_, rfl, HZ5.out.2.1, HZ.out, HZ5.out.2.2⟩
theorem blk3 (w : World) (o0 o1 o2 : Obj) : (((w.alloc o0).alloc o1).alloc o2).heap[w.heap.size]? = some o0 ∧ (((w.alloc o0).alloc o1).alloc o2).heap[w.heap.size + 1]? = some o1 ∧ (((w.alloc o0).alloc o1).alloc o2).heap[w.heap.size + 1 + 1]? = some o2 := by
  have s3 : ((w.alloc o0).alloc o1).heap.size = w.heap.size + 2 := by simp [World.size_alloc]
  have h2 := heap_alloc_new ((w.alloc o0).alloc o1) o2
  rw [s3] at h2
  refine ⟨?_, ?_, h2⟩
  · rw [Below.heap_alloc _ _ _ (by omega), Below.heap_alloc _ _ _ (by simp)]; exact heap_alloc_new w o0
  · rw [Below.heap_alloc _ _ _ (by omega)]; exact heap_new2 w o0 o1
set_option maxRecDepth 100000 in
set_option maxHeartbeats 2000000 in
theorem find_any (l : List Prd) (v : Value) (w : World) (day : Int) (i : Nat) (hg : Good l) (ht : Tab w) (hset : HPd w v l) (ha1 : -70368744177664 ≤ day) (ha2 : day ≤ 70368744177664) (hi : i < l.length) :
    Calls Tryz.prog 33 #[v, .int .i64 i, .int .i64 day] w fun e w' => ∃ u, e = .returned u ∧ HSec w' u (secF l day i) ∧ Below w.heap.size w w' := by
  have HLK := Lib.hid (fun w1 bL bK pL pN pK pS pD pC => lookW_any l v w w1 bL bK pL pN pK pS pD pC day hg ht hset ha1 ha2)
  obtain ⟨A, c, E, U, rfl, _, _, _⟩ := hset
  obtain ⟨n, hn⟩ : ∃ n, l.length = n := ⟨_, rfl⟩
  have hn64 : n ≤ 64 := by have := hg.len; omega
  rw [hn] at HLK ⊢
  have hb3 := (((Below.refl w.heap.size w).alloc (Nat.le_refl _) (.cells #[.slice A n c] 30)).alloc (by simp) (.cells #[.int .i64 day] 3)).alloc (by simp; omega) (.cells #[.nilFunc] 126)
  obtain ⟨g0, g1, g2⟩ := blk3 w (.cells #[.slice A n c] 30) (.cells #[.int .i64 day] 3) (.cells #[.nilFunc] 126)
  obtain ⟨w5, hw5⟩ : ∃ w5, ((w.alloc (.cells #[.slice A n c] 30)).alloc (.cells #[.int .i64 day] 3)).alloc (.cells #[.nilFunc] 126) = w5 := ⟨_, rfl⟩
  rw [hw5] at hb3 g0 g1 g2
  have HKP := Lib.hid (keepW_any n 63 #[.pointer (some ⟨w.heap.size, 0, none⟩), .pointer (some ⟨w.heap.size + 1, 0, none⟩), .pointer (some ⟨w.heap.size + 1 + 1, 0, none⟩)] w5 (by omega))
  have HG := Lib.hid (And.intro g0 (And.intro g1 (And.intro g2 hb3)))
  have HN := Lib.hid hn
  have HW := Lib.hid hw5
  have HR := Lib.hid (rk_le l i)
  have c0 := cell_blk g0 0 (v := .slice A n c) rfl
  clear g0 g1 g2 hb3 hw5 hn hg ht
  go_enter Tryz.func33, Tryz.ntmps33
  go_wp2_with fail
  rw [HW.out]
  go_wp2_with fail
  refine HKP.out.mono ?_
  rintro e w6 ⟨pL, pN, pK, bL, bK, rfl, hk⟩
  have hG := HG.out
  obtain ⟨g0, g1, g2, hb5⟩ := hG
  have l0 := (Array.getElem?_eq_some_iff.1 g0).1
  have l1 := (Array.getElem?_eq_some_iff.1 g1).1
  have l2 := (Array.getElem?_eq_some_iff.1 g2).1
  have q0 := (hk.below.block _ l0).trans g0
  have q1 := (hk.below.block _ l1).trans g1
  have q2 := (hk.below.block _ l2).trans g2
  obtain ⟨⟨t1, kL⟩, ⟨t2, kK⟩, ⟨t3, kN⟩, aL, aK, hb6, n1, n2, n3, n4, n5, n6, n7, n8, n9, n10, n11, n12⟩ := hk
  have y1 := frz_blk q2 0
  have y2 := cell_blk q2 0 (v := .nilFunc) rfl
  have z0 := (Array.getElem?_eq_some_iff.1 aL).1
  have z1 := (Array.getElem?_eq_some_iff.1 aK).1
  have ho : ∀ (b : Nat) (o : Obj), w6.heap[b]? = some o → b ≠ w.heap.size + 1 + 1 → (w6.setCell ⟨w.heap.size + 1 + 1, 0, none⟩ (.func (.func 87) #[] #[.pointer (some ⟨pL, 0, none⟩), .pointer (some ⟨pN, 0, none⟩), .pointer (some ⟨pK, 0, none⟩)])).heap[b]? = some o := fun b o h hne =>
    (heap_setCell_other w6 ⟨w.heap.size + 1 + 1, 0, none⟩ b _ hne).trans h
  have hs := heap_setCell_same w6 (w.heap.size + 1 + 1) 0 _ _ (.func (.func 87) #[] #[.pointer (some ⟨pL, 0, none⟩), .pointer (some ⟨pN, 0, none⟩), .pointer (some ⟨pK, 0, none⟩)]) q2
  have hb7 : Below w.heap.size w (w6.setCell ⟨w.heap.size + 1 + 1, 0, none⟩ (.func (.func 87) #[] #[.pointer (some ⟨pL, 0, none⟩), .pointer (some ⟨pN, 0, none⟩), .pointer (some ⟨pK, 0, none⟩)])) :=
    (hb5.trans (hb6.mono hb5.size)).setCell (p := ⟨w.heap.size + 1 + 1, 0, none⟩) (by simp; omega) _
  have hsz7 : (w6.setCell ⟨w.heap.size + 1 + 1, 0, none⟩ (.func (.func 87) #[] #[.pointer (some ⟨pL, 0, none⟩), .pointer (some ⟨pN, 0, none⟩), .pointer (some ⟨pK, 0, none⟩)])).heap.size = w6.heap.size := by simp
  obtain ⟨w7, hw7⟩ : ∃ w7, w6.setCell ⟨w.heap.size + 1 + 1, 0, none⟩ (.func (.func 87) #[] #[.pointer (some ⟨pL, 0, none⟩), .pointer (some ⟨pN, 0, none⟩), .pointer (some ⟨pK, 0, none⟩)]) = w7 := ⟨_, rfl⟩
  rw [hw7] at ho hs hb7 hsz7
  have HF : Hid (FixW l (.slice A n c) w7 bL bK pL pN pK w.heap.size (w.heap.size + 1) (w.heap.size + 1 + 1) day) :=
    ⟨by rw [HN.out]; exact cell_blk (ho _ _ kL (by omega)) 0 rfl, by rw [HN.out]; exact cell_blk (ho _ _ kK (by omega)) 0 rfl, cell_blk (ho _ _ kN (by omega)) 0 rfl, cell_blk (ho _ _ q0 (by omega)) 0 rfl, cell_blk (ho _ _ q1 (by omega)) 0 rfl, cell_blk hs 0 rfl, by omega⟩
  have HM : Hid (MW l day w w7 bL bK (fun b => b = bL ∨ b = bK) w7) :=
    ⟨hb7, ⟨Nat.le_refl _, fun _ _ _ _ => rfl⟩, ⟨n1, by omega, by omega, hb7.size⟩, ⟨.inl rfl, .inr rfl, fun b hb => by rcases hb with rfl | rfl <;> omega⟩, List.replicate n 0, List.replicate n nilV, by rw [List.length_replicate, HN.out], by rw [List.length_replicate, HN.out], by rw [← made_zero]; exact ho _ _ aL (by omega), by rw [← made_nil]; exact ho _ _ aK (by omega), fun k hk => by rw [lk_zero] at hk; omega⟩
  have HW7 := Lib.hid hw7
  have y3 := cell_blk hs 0 (v := (.func (.func 87) #[] #[.pointer (some ⟨pL, 0, none⟩), .pointer (some ⟨pN, 0, none⟩), .pointer (some ⟨pK, 0, none⟩)])) rfl
  clear l0 l1 l2 q0 q1 q2 kL kK kN aL aK hb6 n1 n2 n3 n4 n5 n6 n7 n8 n9 n10 n11 n12 g0 g1 g2 hb5 ho hs hb7 hw7 c0 z0 z1 hsz7
  go_wp2_with fail
  rw [HW7.out]
  go_wp2_with fail
  refine (HLK.out w7 bL bK pL pN pK _ _ _ HF.out (n + 1) i _ w7 (by have := HR.out; have := HN.out; omega) (by rw [← HN.out]; exact hi) HM.out).mono ?_
  rintro e w8 ⟨u, rfl, h1, h2, _⟩
  have HZ := Lib.hid (And.intro h1.1 h2.below)
  clear h1 h2
  go_wp2_with fail
  go_ret
  exact ⟨_, rfl, HZ.out.1, HZ.out.2⟩
end Go.Proofs.YtlogapkpllgdcaaGreatDoor

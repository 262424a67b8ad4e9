/- GrIt, GrRg, GrPl, in one text. -/
import Derived.RangeFuncRecord
import Derived.RangeFuncSeq
import Derived.ControlIn
import Derived.RangeFuncCalls
import Derived.RangeFuncLeaves
import Derived.Shelf.Abstract
import Derived.OwnWalkIn
import Derived.TacticsInMore
import Derived.LoopNIn
import Derived.LoopIn
import Derived.Shelf.RegionOpen
import Derived.Test.YtkfnbapnkmlopaaDoorGrVi
import Derived.Test.YtkfnbapnkmlopaaDoorGrRh
import Derived.Lib.SliceRun
/- Loops over slices.Backward at ints (of stages 10 and 11, apart). -/
/- Loops over an iterator that keeps blocks of its own (a variable that it has captured and writes; the record of a loop within it). The iterator's own blocks are a set S that grows; a round leaves them as they lay, the iterator leaves all others. Plain theorems; no statement of the seat is proved here. -/
namespace Go.Proofs.YtkfnbapnkmlopaaDoor
open Go.RowKit

/-- From W to W' only blocks of S were written; T are the iterator's blocks behind that. -/
structure Turns (S T : Nat → Prop) (W W' : World) : Prop where
  os : W'.os = W.os
  tape : W'.tape = W.tape
  output : W'.output = W.output
  size : W.heap.size ≤ W'.heap.size
  same : ∀ k, k < W.heap.size → ¬ S k → W'.heap[k]? = W.heap[k]?
  more : ∀ k, T k → S k ∨ W.heap.size ≤ k
  lt : ∀ k, T k → k < W'.heap.size
/-- What the iterator's steps leave true. -/
def Stays {α : Type} (J : (Nat → Prop) → List α → World → Prop) : Prop := ∀ S T s W W', J S s W → Turns S T W W' → J T s W'
/-- A round's word to the iterator. -/
structure Spares (S : Nat → Prop) (W W' : World) : Prop where
  size : W.heap.size ≤ W'.heap.size
  same : ∀ k, S k → W'.heap[k]? = W.heap[k]?
/-- The value deals xs out, one by one, unless a round says no. -/
def Deals {α : Type} (P : Program) (g : Nat) (lb : Array Value) (enc : α → Value) (xs : List α) (S0 : Nat → Prop) (W : World) : Prop :=
  ∀ (l : Nat) (J Jx : (Nat → Prop) → List α → World → Prop), Stays J → Stays Jx →
    (∀ S pre x post W1, xs = pre ++ x :: post → J S pre W1 → YieldAt Fence.wide 0 P l #[enc x] W1 fun e W' =>
      Spares S W1 W' ∧ ((e = .returned (.bool true) ∧ J S (pre ++ [x]) W') ∨ (e = .returned (.bool false) ∧ Jx S (pre ++ [x]) W'))) →
    J S0 [] W → CallsIn Fence.wide 0 P g (#[.func (.yield l) #[] #[]] ++ lb) W fun e W' => (∃ v, e = .returned v) ∧ ∃ S, J S xs W' ∨ ∃ pre, Jx S pre W'
section
variable {S T U : Nat → Prop} {W W' W'' : World}
theorem Turns.trans (h : Turns S T W W') (k : Turns T U W' W'') : Turns S U W W'' :=
  ⟨k.os.trans h.os, k.tape.trans h.tape, k.output.trans h.output, Nat.le_trans h.size k.size, fun i hi hs => (k.same i (Nat.lt_of_lt_of_le hi h.size) (fun ht => (h.more i ht).elim hs (fun hge => absurd hi (Nat.not_lt.2 hge)))).trans (h.same i hi hs),
   fun i hu => (k.more i hu).elim (h.more i) (fun hge => .inr (Nat.le_trans h.size hge)), k.lt⟩
theorem Turns.putObj (hS : ∀ k, S k → k < W.heap.size) {l : Nat} (h : S l) (o : Obj) : Turns S S W (W.putObj l o) :=
  ⟨rfl, rfl, rfl, by simp, fun _ _ hn => World.putObj_heap_other (fun e => hn (e ▸ h)), fun _ h => .inl h, fun k h => by rw [World.putObj_size]; exact hS k h⟩
theorem Turns.below (hS : ∀ k, S k → k < W.heap.size) (hb : Below W.heap.size W W') : Turns S S W W' :=
  ⟨hb.os, hb.tape, hb.output, hb.size, fun k hk _ => hb.block k hk, fun _ h => .inl h, fun k h => Nat.lt_of_lt_of_le (hS k h) hb.size⟩
theorem Turns.newer (hS : ∀ k, S k → k < W.heap.size) (hb : Below W.heap.size W W') : Turns S (fun k => S k ∨ (W.heap.size ≤ k ∧ k < W'.heap.size)) W W' :=
  ⟨hb.os, hb.tape, hb.output, hb.size, fun k hk _ => hb.block k hk, fun _ h => h.elim .inl (fun h => .inr h.1), fun k h => h.elim (fun h => Nat.lt_of_lt_of_le (hS k h) hb.size) (fun h => h.2)⟩
theorem Turns.setCell (hS : ∀ k, S k → k < W.heap.size) {p : Addr} (h : S p.block) (v : Value) : Turns S S W (W.setCell p v) :=
  ⟨rfl, rfl, rfl, by simp [World.setCell], fun k _ hn => Below.heap_setCell W p v k (fun e => hn (e ▸ h)), fun _ h => .inl h, fun k h => by have := hS k h; simpa [World.setCell] using this⟩
theorem Spares.trans (h : Spares S W W') (k : Spares S W' W'') : Spares S W W'' := ⟨Nat.le_trans h.size k.size, fun i hi => (k.same i hi).trans (h.same i hi)⟩
theorem Spares.below (hS : ∀ k, S k → k < W.heap.size) (hb : Below W.heap.size W W') : Spares S W W' := ⟨hb.size, fun k h => hb.block k (hS k h)⟩
theorem Spares.setCell {p : Addr} (h : ¬ S p.block) (v : Value) : Spares S W (W.setCell p v) :=
  ⟨by simp [World.setCell], fun k hk => Below.heap_setCell W p v k (fun e => h (e ▸ hk))⟩
theorem Spares.sub (h : Spares T W W') (hs : ∀ k, S k → T k) : Spares S W W' := ⟨h.size, fun k hk => h.same k (hs k hk)⟩
theorem Spares.cell (h : Spares S W W') {p : Addr} (hp : S p.block) : W'.cell? p = W.cell? p := World.cell?_of_block (h.same _ hp)
theorem Spares.grown {row : Option Nat} (hg : W.grownBy W' row) (hS : ∀ k, S k → k < W.heap.size) (hr : ∀ k, row = some k → ¬ S k) : Spares S W W' :=
  ⟨hg.size, fun k hk => hg.block k (hS k hk) (fun e => hr k e.symm hk)⟩
end
/-- How a round may be left. -/
def roundEnds {α : Type} (I Ix : (Nat → Prop) → List α → World → Prop) (S : Nat → Prop) (xs : List α) (W : World) : Exit → Act → World → Prop
  | .normal, _, W' => Spares S W W' ∧ I S xs W'
  | .ret, _, W' => Spares S W W' ∧ Ix S xs W'
  | _, _, _ => False
end Go.Proofs.YtkfnbapnkmlopaaDoor
/- Loops over an iterator that deals pairs (a place and what stands there); see VaItr. Plain theorems. -/
namespace Go.Proofs.YtkfnbapnkmlopaaDoor
open Go.RowKit

/-- The value deals xs out, one by one, unless a round says no. -/
def Deals2 {α : Type} (P : Program) (g : Nat) (lb : Array Value) (enc1 enc2 : α → Value) (xs : List α) (S0 : Nat → Prop) (F : World → Prop) (W : World) : Prop :=
  ∀ (l : Nat) (J Jx : (Nat → Prop) → List α → World → Prop), Stays J → Stays Jx → (∀ S s V, J S s V → F V) →
    (∀ S pre x post W1, xs = pre ++ x :: post → J S pre W1 → YieldAt Fence.wide 0 P l #[enc1 x, enc2 x] W1 fun e W' =>
      Spares S W1 W' ∧ ((e = .returned (.bool true) ∧ J S (pre ++ [x]) W') ∨ (e = .returned (.bool false) ∧ Jx S (pre ++ [x]) W'))) →
    J S0 [] W → CallsIn Fence.wide 0 P g (#[.func (.yield l) #[] #[]] ++ lb) W fun e W' => (∃ v, e = .returned v) ∧ ∃ S, J S xs W' ∨ ∃ pre, Jx S pre W'
theorem wpIn_deals2 {α : Type} {P : Program} {g : Operand} {p q : Tmp} {assign body : Code} {Q : Exit → Act → World → Prop} {a : Act} {w : World} {gf : Nat} {lb : Array Value}
    (hg : a.eval g = .func (.func gf) #[] lb) (eg : ∀ args w, (callFunc gf args).run P w = .ok (.enter gf args) w)
    {enc1 enc2 : α → Value} {xs : List α} {S0 : Nat → Prop} {F : World → Prop} (hS0 : ∀ k, S0 k → k < w.heap.size) (hseq : ∀ W, Below w.heap.size w W → Deals2 P gf lb enc1 enc2 xs S0 F W)
    (I Ix : (Nat → Prop) → List α → World → Prop) (hI : Stays I) (hIx : Stays Ix) (hIF : ∀ S s V, I S s V → F V) (h0 : I S0 [] w) (a₁ : α → Act)
    (hassign : ∀ (l : Nat) (x : α) (W : World) (K : Act → World → Prop), K (a₁ x) W →
      assign.wpIn (Fence.wide.inRound l) 0 P (Exit.then K (fun _ _ _ => False)) { tmps := (a.tmps.setIfInBounds p (enc1 x)).setIfInBounds q (enc2 x), defers := [] } W)
    (hbody : ∀ (l : Nat) (S : Nat → Prop) (pre : List α) (x : α) (post : List α) (W : World), xs = pre ++ x :: post → (∀ k, S k → k < W.heap.size) → I S pre W →
      body.wpIn (Fence.wide.inRound l) 0 P (roundEnds I Ix S (pre ++ [x]) W) (a₁ x) W)
    (hdone : ∀ (D : Nat) (S : Nat → Prop) (W : World), (∀ k, S k → k < W.heap.size) → S D → I S xs W → W.heap[D]? = some (.deferred (some [])) →
      Q .normal { a with defers := { target := .collected D, args := #[] } :: a.defers } W)
    (hstop : ∀ (D : Nat) (S : Nat → Prop) (pre : List α) (W : World), (∀ k, S k → k < W.heap.size) → S D → Ix S pre W → W.heap[D]? = some (.deferred (some [])) →
      Code.ret.wpIn Fence.wide 0 P Q { a with defers := { target := .collected D, args := #[] } :: a.defers } W) :
    (Code.rangeFunc g #[p, q] assign body).wpIn Fence.wide 0 P Q a w := by
  refine wpIn_rangeFunc fun fn _ => ?_
  obtain ⟨r, hr⟩ : ∃ r : LoopState → Option Code → Loop, r = fun st pe => { state := st, pending := pe, fn, tmps := a.tmps, params := #[p, q], assign, body, defers := w.heap.size } := ⟨_, rfl⟩
  obtain ⟨D, hD⟩ : ∃ D, w.heap.size = D := ⟨_, rfl⟩
  obtain ⟨L, hL⟩ : ∃ L, D + 1 = L := ⟨_, rfl⟩
  obtain ⟨V, hV⟩ : ∃ V, (w.alloc (.deferred (some []))).alloc (.loop (r .ready none)) = V := ⟨_, rfl⟩
  have hbV : Below w.heap.size w V := by
    rw [← hV]
    exact ((Below.refl _ w).alloc (Nat.le_refl _) _).alloc (by simp) _
  have hsV : V.heap.size = L + 1 := by rw [← hV, World.size_alloc, World.size_alloc, hD, hL]
  have hVL : V.heap[L]? = some (.loop (r .ready none)) := by
    have := World.alloc_heap_new (w.alloc (.deferred (some []))) (.loop (r .ready none))
    rwa [World.size_alloc, hD, hL, hV] at this
  have hVD : V.heap[D]? = some (.deferred (some [])) := by
    rw [← hV, Below.heap_alloc _ _ _ (by rw [World.size_alloc, hD]; omega), ← hD]
    exact World.alloc_heap_new w _
  have hrs : ∀ st pe, (r st pe).params = #[p, q] ∧ (r st pe).state = st ∧ (r st pe).fn = fn ∧ (r st pe).tmps = a.tmps ∧ (r st pe).assign = assign ∧ (r st pe).body = body := fun st pe => by rw [hr]; exact ⟨rfl, rfl, rfl, rfl, rfl, rfl⟩
  refine ⟨L, [{ target := .collected D, args := #[] }], V, { target := .fn (.func gf) lb, args := #[.func (.yield L) #[] #[]] }, V, gf, #[.func (.yield L) #[] #[]] ++ lb, V, ?_, ?_, fun _ _ => trivial, ?_, (fun h => absurd h (by decide)), ?_⟩
  · rw [← hV, ← hL, ← hD, hr]
    exact run_enterLoop_outer _ _ _ _ _
  · simp only [resolve, hg]
    simp [go_sem]
  · simp [invoke, go_sem, eg]
  · have own : ∀ {S T : Nat → Prop} {A B : World}, Turns S T A B → D < A.heap.size → L < A.heap.size → Turns (fun k => S k ∨ k = D ∨ k = L) (fun k => T k ∨ k = D ∨ k = L) A B := fun h h1 h2 =>
      ⟨h.os, h.tape, h.output, h.size, fun k hk hn => h.same k hk (fun hs => hn (.inl hs)), fun k hk => hk.elim (fun ht => (h.more k ht).elim (fun x => .inl (.inl x)) .inr) (fun e => .inl (.inr e)),
       fun k hk => hk.elim (h.lt k) (fun e => e.elim (fun e => e ▸ Nat.lt_of_lt_of_le h1 h.size) (fun e => e ▸ Nat.lt_of_lt_of_le h2 h.size))⟩
    have book : ∀ (R : Loop) (M : (Nat → Prop) → List α → World → Prop), Stays M → Stays (fun S s W => M (fun k => S k ∨ k = D ∨ k = L) s W ∧ W.heap[L]? = some (.loop R) ∧ W.heap[D]? = some (.deferred (some [])) ∧ ¬ S L ∧ ¬ S D ∧ ∀ k, S k → k < W.heap.size) := fun R M hM S T s A B h ht => by
      obtain ⟨h1, h2, h3, h4, h5, _⟩ := h
      have l1 := (Array.getElem?_eq_some_iff.1 h2).1
      have l2 := (Array.getElem?_eq_some_iff.1 h3).1
      exact ⟨hM _ _ _ _ _ h1 (own ht l2 l1), (ht.same L l1 h4).trans h2, (ht.same D l2 h5).trans h3, fun hT => (ht.more L hT).elim h4 (fun hge => absurd l1 (Nat.not_lt.2 hge)), fun hT => (ht.more D hT).elim h5 (fun hge => absurd l2 (Nat.not_lt.2 hge)), ht.lt⟩
    refine (hseq V hbV L _ _ (book (r .ready none) I hI) (book (r .done (some .ret)) Ix hIx) (fun S s V h => hIF _ _ _ h.1) ?_ ⟨?_, hVL, hVD, fun h => absurd (hS0 _ h) (by omega), fun h => absurd (hS0 _ h) (by omega), fun k h => Nat.lt_of_lt_of_le (hS0 k h) hbV.size⟩).mono ?_
    · rintro S pre x post W hx ⟨hi, hl, hd, hnl, hnd, hlt⟩
      have lL := (Array.getElem?_eq_some_iff.1 hl).1
      have lD := (Array.getElem?_eq_some_iff.1 hd).1
      have hy := run_yield (P := P) (args := #[enc1 x, enc2 x]) hl (by rw [(hrs _ _).1]; rfl)
      have hbr := run_beginRound (P := P) hl (hrs _ _).2.1
      obtain ⟨q1, _, q3, q4, q5, q6⟩ := hrs .ready none
      rw [q1, q3, q4, q5, q6] at hy
      have hz : ((#[p, q] : Array Tmp).zip #[enc1 x, enc2 x]).foldl (fun tmps (t, a) => tmps.setIfInBounds t a) a.tmps = (a.tmps.setIfInBounds p (enc1 x)).setIfInBounds q (enc2 x) := by simp
      rw [hz] at hy
      have hall : ∀ k, (S k ∨ k = D ∨ k = L) → k < W.heap.size := fun k h => h.elim (hlt k) (fun e => e.elim (fun e => e ▸ lD) (fun e => e ▸ lL))
      refine ⟨fn, _, assign, body, hy, roundIn_of_wpIn trivial ?_⟩
      refine hassign _ x W _ ?_
      refine ⟨_, hbr, ?_⟩
      obtain ⟨A, hA⟩ : ∃ A, W.putObj L (.loop { r .ready none with state := .busy }) = A := ⟨_, rfl⟩
      have hAL : A.heap[L]? = some (.loop { r .ready none with state := .busy }) := by rw [← hA]; exact World.putObj_heap_same lL
      have hAD : A.heap[D]? = some (.deferred (some [])) := by rw [← hA]; exact (World.putObj_heap_other (by omega)).trans hd
      have hAs : A.heap.size = W.heap.size := by rw [← hA]; exact World.putObj_size
      have hAi : I (fun k => S k ∨ k = D ∨ k = L) pre A := hI _ _ _ _ _ hi (by rw [← hA]; exact Turns.putObj hall (.inr (.inr rfl)) _)
      have hAo : ∀ k, k ≠ L → A.heap[k]? = W.heap[k]? := fun k hk => by rw [← hA]; exact World.putObj_heap_other hk
      rw [hA]
      refine wpIn_mono (hbody L _ pre x post A hx (fun k h => by rw [hAs]; exact hall k h) hAi) ?_
      have fin : ∀ (jump : Option Code) (B : World), Spares (fun k => S k ∨ k = D ∨ k = L) A B → (Instr.endRound L jump).run P B = .ok (.bool jump.isNone) (B.putObj L (.loop (r (if jump.isNone then .ready else .done) jump))) ∧ Spares S W (B.putObj L (.loop (r (if jump.isNone then .ready else .done) jump))) ∧ Turns (fun k => S k ∨ k = D ∨ k = L) (fun k => S k ∨ k = D ∨ k = L) B (B.putObj L (.loop (r (if jump.isNone then .ready else .done) jump))) ∧ (B.putObj L (.loop (r (if jump.isNone then .ready else .done) jump))).heap[L]? = some (.loop (r (if jump.isNone then .ready else .done) jump)) ∧ (B.putObj L (.loop (r (if jump.isNone then .ready else .done) jump))).heap[D]? = some (.deferred (some [])) ∧ W.heap.size ≤ (B.putObj L (.loop (r (if jump.isNone then .ready else .done) jump))).heap.size := fun jump B hk => by
        have hBL := (hk.same L (.inr (.inr rfl))).trans hAL
        have hBD := (hk.same D (.inr (.inl rfl))).trans hAD
        have e := run_endRound (P := P) jump hBL
        have hsz : W.heap.size ≤ B.heap.size := hAs ▸ hk.size
        refine ⟨?_, ⟨?_, fun k h => ?_⟩, Turns.putObj (fun k h => Nat.lt_of_lt_of_le (hall k h) hsz) (.inr (.inr rfl)) _, World.putObj_heap_same (Array.getElem?_eq_some_iff.1 hBL).1, (World.putObj_heap_other (by omega)).trans hBD, ?_⟩
        · rw [e, hr]
        · rw [World.putObj_size]; exact hsz
        · have hkL : k ≠ L := fun e => hnl (e ▸ h)
          exact ((World.putObj_heap_other hkL).trans (hk.same k (.inl h))).trans (hAo k hkL)
        · rw [World.putObj_size]; exact hsz
      rintro e b B hp
      cases e with
      | normal =>
        obtain ⟨hk, hi2⟩ := hp
        obtain ⟨f1, f2, f3, f4, f5, f6⟩ := fin none B hk
        exact ⟨_, _, f1, f2, .inl ⟨rfl, hI _ _ _ _ _ hi2 f3, f4, f5, hnl, hnd, fun k h => Nat.lt_of_lt_of_le (hlt k h) f6⟩⟩
      | ret =>
        obtain ⟨hk, hi2⟩ := hp
        obtain ⟨f1, f2, f3, f4, f5, f6⟩ := fin (some .ret) B hk
        exact ⟨_, _, f1, f2, .inr ⟨rfl, hIx _ _ _ _ _ hi2 f3, f4, f5, hnl, hnd, fun k h => Nat.lt_of_lt_of_le (hlt k h) f6⟩⟩
      | exit id => exact hp.elim
      | goto t => exact hp.elim
      | panic ch => exact hp.elim
      | outgrown => exact hp.elim
    · refine hI S0 _ [] w V h0 ⟨hbV.os, hbV.tape, hbV.output, hbV.size, fun k hk _ => hbV.block k hk, fun k h => h.elim .inl (fun e => .inr (by omega)), fun k h => h.elim (fun h => Nat.lt_of_lt_of_le (hS0 k h) hbV.size) (fun e => by omega)⟩
    · rintro e B ⟨⟨v, rfl⟩, S, ⟨hi, hl, hd, _, _, hlt⟩ | ⟨pre, hi, hl, hd, _, _, hlt⟩⟩
      · have lL := (Array.getElem?_eq_some_iff.1 hl).1
        have lD := (Array.getElem?_eq_some_iff.1 hd).1
        have hall : ∀ k, (S k ∨ k = D ∨ k = L) → k < B.heap.size := fun k h => h.elim (hlt k) (fun e => e.elim (fun e => e ▸ lD) (fun e => e ▸ lL))
        have e := run_endLoop (P := P) hl (by rw [(hrs _ _).2.1]; intro h; cases h)
        rw [hr] at e
        refine ⟨none, _, e, hdone D _ _ (fun k h => by rw [World.putObj_size]; exact hall k h) (.inr (.inl rfl)) (hI _ _ _ _ _ hi (Turns.putObj hall (.inr (.inr rfl)) _)) ((World.putObj_heap_other (by omega)).trans hd)⟩
      · have lL := (Array.getElem?_eq_some_iff.1 hl).1
        have lD := (Array.getElem?_eq_some_iff.1 hd).1
        have hall : ∀ k, (S k ∨ k = D ∨ k = L) → k < B.heap.size := fun k h => h.elim (hlt k) (fun e => e.elim (fun e => e ▸ lD) (fun e => e ▸ lL))
        have e := run_endLoop (P := P) hl (by rw [(hrs _ _).2.1]; intro h; cases h)
        rw [hr] at e
        refine ⟨some .ret, _, e, hstop D _ pre _ (fun k h => by rw [World.putObj_size]; exact hall k h) (.inr (.inl rfl)) (hIx _ _ _ _ _ hi (Turns.putObj hall (.inr (.inr rfl)) _)) ((World.putObj_heap_other (by omega)).trans hd)⟩
/-- A block with one variable. -/
def Bx (W : World) (B : Nat) (t : TypeId) (v : Value) : Prop := W.heap[B]? = some (.cells #[v] t (0, 0))
section
variable {W W' : World} {B : Nat} {t : TypeId} {v : Value}
theorem Bx.lt (h : Bx W B t v) : B < W.heap.size := (Array.getElem?_eq_some_iff.1 h).1
theorem Bx.cell (h : Bx W B t v) : W.cell? ⟨B, 0, none⟩ = some v := by simp [World.cell?, show W.heap[B]? = _ from h]
theorem Bx.frozen (h : Bx W B t v) : W.frozen? ⟨B, 0, none⟩ = false := by simp [World.frozen?, show W.heap[B]? = _ from h]
theorem Bx.new (W : World) (t : TypeId) (v : Value) : Bx (W.alloc (.cells #[v] t)) W.heap.size t v := World.alloc_heap_new W _
theorem Bx.below (h : Bx W B t v) (hb : Below W.heap.size W W') : Bx W' B t v := (hb.block B h.lt).trans h
theorem Bx.alloc (h : Bx W B t v) (o : Obj) : Bx (W.alloc o) B t v := (Below.heap_alloc W o B h.lt).trans h
theorem Bx.spared (h : Bx W B t v) {S : Nat → Prop} (hs : Spares S W W') (hB : S B) : Bx W' B t v := (hs.same B hB).trans h
theorem Bx.turned (h : Bx W B t v) {S T : Nat → Prop} (ht : Turns S T W W') (hB : ¬ S B) : Bx W' B t v := (ht.same B h.lt hB).trans h
theorem Bx.other (h : Bx W B t v) {p : Addr} (hp : p.block ≠ B) (u : Value) : Bx (W.setCell p u) B t v := (Below.heap_setCell W p u B (fun e => hp e.symm)).trans h
theorem Bx.set (h : Bx W B t v) (u : Value) : Bx (W.setCell ⟨B, 0, none⟩ u) B t u := by
  unfold Bx World.setCell
  obtain ⟨hl, he⟩ := Array.getElem?_eq_some_iff.1 h
  rw [Array.getElem?_modify, if_pos rfl, h]
  rfl
end
end Go.Proofs.YtkfnbapnkmlopaaDoor
/- slices.Backward: what it deals. -/
namespace Go.Proofs.YtkfnbapnkmlopaaDoor
open Go.RowKit
attribute [local go_sem] Oper.semAt_some

def iC (k : Nat) : Value := .int .i64 (k : Int)
theorem rev_take {n m : Nat} (hm : m < n) : (List.range n).reverse = (List.range n).reverse.take (n - 1 - m) ++ m :: (List.range m).reverse := by
  have e : (List.range n).reverse.drop (n - 1 - m) = m :: (List.range m).reverse := by
    apply List.ext_getElem
    · simp; omega
    · intro j h1 h2
      simp only [List.getElem_drop, List.getElem_reverse, List.getElem_range, List.length_range]
      cases j with
      | zero => simp; omega
      | succ j =>
        simp only [List.getElem_cons_succ, List.getElem_reverse, List.getElem_range, List.length_range]
        simp only [List.length_drop, List.length_reverse, List.length_range] at h1
        omega
  rw [← e, List.take_append_drop]
theorem rev_take_succ {n m : Nat} (hm : m < n) : (List.range n).reverse.take (n - 1 - m) ++ [m] = (List.range n).reverse.take (n - m) := by
  have hl : n - 1 - m < (List.range n).reverse.length := by simp; omega
  have h := List.take_succ_eq_append_getElem hl
  rw [show n - m = n - 1 - m + 1 by omega, h]
  congr 2
  simp
  omega
set_option maxRecDepth 100000 in
set_option maxHeartbeats 2000000 in
theorem backN_deals (A : Option Addr) (c : Nat) (js : List Nat) (n B : Nat) (S0 : Nat → Prop) (hs : S0 B) (W : World) (hS0 : ∀ k, S0 k → k < W.heap.size) (hn : js.length = n) (hl : n ≤ 1000000) (hB : Bx W B 48 (.slice A n c)) :
    Deals2 Tryd.prog 74 #[.pointer (some ⟨B, 0, none⟩)] iC (fun k => iC (js.getD k 0)) (List.range n).reverse S0 (fun V => Rd V A (js.map intC)) W := by
  intro L J Jx hJ hJx hF hY h0
  refine callsIn_of_wp Tryd.func74 rfl trivial ?_ rfl
  simp only [Tryd.ntmps74, List.size_toArray, List.length_cons, List.length_nil, Nat.reduceAdd, Nat.reduceSub, Array.replicate_succ, Array.replicate_zero, List.push_toArray, List.append_toArray, List.nil_append, List.cons_append]
  have HB := Lib.hid (And.intro hB (And.intro h0 hS0))
  have HY := Lib.hid hY
  have HF := Lib.hid hF
  have kB := hB.cell
  clear hB h0 hY hS0 hF
  gi_wp2
  gi_loopw [3] (fun iv wr => ∃ (m : Nat) (S : Nat → Prop), iv = .int .i64 ((m : Int) - 1) ∧ m ≤ n ∧ S B ∧ (∀ k, S k → k < wr.heap.size) ∧ Bx wr B 48 (.slice A n c) ∧ J S ((List.range n).reverse.take (n - m)) wr) (fun iv _ => (intOf iv + 1).toNat)
  case atStart => exact ⟨n, S0, rfl, Nat.le_refl _, hs, HB.out.2.2, HB.out.1, by rw [Nat.sub_self]; exact HB.out.2.1⟩
  case round =>
    obtain ⟨m, S, rfl, hm, i1, hlt, x1, hj⟩ := hrel
    have HX := Lib.hid (And.intro i1 (And.intro hlt (And.intro x1 hj)))
    rcases Nat.eq_zero_or_pos m with rfl | hpos
    · have e1 : ((0 : Nat) : Int) - 1 = -1 := rfl
      rw [e1]
      have htk : (List.range n).reverse.take (n - 0) = (List.range n).reverse := List.take_of_length_le (by simp)
      rw [htk] at HX
      clear i1 hlt x1 hj
      gi_wp2_with fail
      go_end0
      exact ⟨⟨_, rfl⟩, S, .inl HX.out.2.2.2⟩
    · obtain ⟨k, rfl⟩ : ∃ k, m = k + 1 := ⟨m - 1, by omega⟩
      have e1 : ((k + 1 : Nat) : Int) - 1 = k := by omega
      rw [e1]
      have hkn : k < n := by omega
      have hkj : k < js.length := by omega
      obtain ⟨fn, tmps, assign, body, hy, hR⟩ := HY.out S _ k _ wr (rev_take hkn) (by rw [show n - 1 - k = n - (k + 1) by omega]; exact hj)
      rw [rev_take_succ hkn] at hR
      have HR := Lib.hid hR
      obtain ⟨ad, hA, hc⟩ := (HF.out _ _ _ hj).at_ (k := k) (by rw [List.length_map]; exact hkj)
      subst hA
      rw [List.getElem_map] at hc
      have hgd : js.getD k 0 = js[k] := by rw [List.getD_eq_getElem?_getD, List.getElem?_eq_getElem hkj]; rfl
      rw [hgd] at hy
      obtain ⟨t, ht⟩ : ∃ t, js[k] = t := ⟨_, rfl⟩
      rw [ht] at hc hy
      unfold intC at hc
      unfold iC at hy
      have k2 := x1.cell
      have q0 : (0 : Int) ≤ k := by omega
      have q1 : (k : Int) < n := by omega
      clear i1 hlt x1 hj hR hgd ht
      gi_wp2_with fail
      refine ⟨rfl, HR.out.mono ?_⟩
      rintro e w' ⟨hsp, ⟨rfl, hj⟩ | ⟨rfl, hj⟩⟩
      · have HJ := Lib.hid (And.intro hj hsp)
        clear hj hsp
        gi_wp2_with fail
        refine ⟨⟨k, S, by go_num, by omega, HX.out.1, fun i hi => Nat.lt_of_lt_of_le (HX.out.2.1 i hi) HJ.out.2.size, HX.out.2.2.1.spared HJ.out.2 HX.out.1, HJ.out.1⟩, by simp [intOf]⟩
      · have HJ := Lib.hid hj
        clear hj hsp
        gi_wp2_with fail
        refine bodyPost_ret (results_none rfl _ _ _) rfl ?_
        exact ⟨⟨_, rfl⟩, S, .inr ⟨_, HJ.out⟩⟩
set_option maxRecDepth 100000 in
theorem backN_any (A : Option Addr) (m c : Nat) (w : World) : Calls Tryd.prog 61 #[.slice A m c] w fun e w' => e = .returned (.func (.func 74) #[] #[.pointer (some ⟨w.heap.size, 0, none⟩)]) ∧ Below w.heap.size w w' ∧ Bx w' w.heap.size 48 (.slice A m c) := by
  have h1 := (Below.refl w.heap.size w).alloc (Nat.le_refl _) (.cells #[.slice A m c] 48)
  have h2 := Bx.new w 48 (.slice A m c)
  have HB := Lib.hid (And.intro h1 h2)
  clear h1 h2
  go_enter Tryd.func61, Tryd.ntmps61
  go_wp2_with fail
  go_ret
  exact ⟨rfl, HB.out⟩
theorem rev_pos {n : Nat} {pre post : List Nat} {x : Nat} (h : (List.range n).reverse = pre ++ x :: post) : x < n ∧ n - pre.length = x + 1 ∧ n - (pre ++ [x]).length = x := by
  have hl := congrArg List.length h
  simp only [List.length_reverse, List.length_range, List.length_append, List.length_cons] at hl
  have hx : (List.range n).reverse[pre.length]? = some x := by rw [h]; simp
  rw [List.getElem?_reverse (by simp; omega), List.length_range, List.getElem?_range (by omega)] at hx
  injection hx with hx
  rw [List.length_append, List.length_singleton]
  omega
end Go.Proofs.YtkfnbapnkmlopaaDoor
/- Contract: ringsOf: a number for each place, which those have in common that lead to each other. -/
namespace Go.Proofs.YtkfnbapnkmlopaaDoor
open Go.RowKit
attribute [local go_sem] Oper.semAt_some

theorem bol_setCells (b : Nat) : ∀ (m o : Nat) (S : List Bool) (w : World), BolB b S w → S.length = o + m → BolB b (S.take o ++ List.replicate m false) (w.setCells b o (List.replicate m (.bool false))) ∧ VisK b none w (w.setCells b o (List.replicate m (.bool false)))
  | 0, o, S, w, h, hl => by
    rw [List.replicate_zero, List.append_nil, List.take_of_length_le (by omega)]
    exact ⟨h, VisK.refl _ _ _⟩
  | m + 1, o, S, w, h, hl => by
    rw [List.replicate_succ, List.replicate_succ]
    obtain ⟨h1, h2⟩ := bol_setCells b m (o + 1) (S.set o false) (w.setCell ⟨b, o, none⟩ (.bool false)) (h.set o false) (by rw [List.length_set]; omega)
    have e : (S.set o false).take (o + 1) = S.take o ++ [false] := by
      rw [List.take_succ_eq_append_getElem (by rw [List.length_set]; omega), List.getElem_set_self, List.take_set_of_le (Nat.le_refl _)]
    rw [e, List.append_assoc] at h1
    refine ⟨h1, (⟨rfl, rfl, rfl, by simp [World.setCell], fun k _ h3 _ => Below.heap_setCell w ⟨b, o, none⟩ _ k h3⟩ : VisK b none w (w.setCell ⟨b, o, none⟩ (.bool false))).trans h2 (.inl rfl)⟩
theorem zeroB (w : World) : (zeroValue 4).run Tryd.prog w = .ok (.bool false) w := by kernel_rfl
theorem clr_any (b n : Nat) (S : List Bool) (w : World) (h : BolB b S w) (hl : S.length = n) : ∃ W', (∀ ty, (Builtin.clear_ #[50] ty #[.slice (some ⟨b, 0, none⟩) n n]).run Tryd.prog w = .ok (.tuple #[]) W') ∧ BolB b (List.replicate n false) W' ∧ VisK b none w W' := by
  rcases Nat.eq_zero_or_pos n with rfl | hn
  · refine ⟨w, fun ty => by simp [Builtin.clear_, run_underlying Tryd.underlying50], ?_, VisK.refl _ _ _⟩
    rw [List.length_eq_zero_iff.1 hl] at h
    exact h
  · have hk := bol_setCells b n 0 S w h (by omega)
    rw [List.take_zero, List.nil_append] at hk
    refine ⟨_, fun ty => Lib.run_clear_slice w 50 4 ty (.bool false) Tryd.underlying50 zeroB rfl rfl b 0 n n hn (fun j hj => ?_) (fun j _ => by rw [Nat.zero_add]; exact h.frz j), hk.1, hk.2⟩
    rw [Nat.zero_add, h.load (List.getElem?_eq_getElem (by omega))]
    rfl
theorem VisK.bx {bs : Nat} {ob : Option Nat} {w w' : World} {B : Nat} {t : TypeId} {v : Value} (h : VisK bs ob w w') (hB : Bx w B t v) (h1 : B ≠ bs) (h2 : ob ≠ some B) : Bx w' B t v := (h.block B hB.lt h1 h2).trans hB
/-- Between two rounds of the second going: m of the order are not yet gone on from. -/
structure RgI (U5 : World) (M : Wt) (n c6 br c10 : Nat) (A : Option Addr) (c : Nat) (L : List Nat) (U m : Nat) (S : Nat → Prop) (V : World) : Prop where
  vk : VisK (c6 + 1) none U5 V
  ex : ∃ T R, BolB (c6 + 1) T V ∧ IntB br R V ∧ Rg (eM M) n T R (L.drop m)
  b10 : Bx V c10 48 (.slice (some ⟨br, 0, none⟩) n n)
  own : V.ownsRow U5.heap.size 3 1 (.slice A n c) n (L.map intC)
  low : ∀ k, S k → U ≤ k
  big : U ≤ V.heap.size
/-- Where these lie. -/
structure RgP (U5 : World) (n c6 br c10 : Nat) (A : Option Addr) (c U : Nat) : Prop where
  s5 : U5.heap.size = c6 + 3
  br3 : c6 + 3 ≤ br
  brU : br < U
  cU : c10 < U
  c3 : br < c10
  own : ∀ b, (Value.slice A n c).ownBlock = some b → b < br
theorem RgI.turned {U5 : World} {M : Wt} {n c6 br c10 : Nat} {A : Option Addr} {c : Nat} {L : List Nat} {U m : Nat} {S T : Nat → Prop} {V V' : World} (p : RgP U5 n c6 br c10 A c U) (h : RgI U5 M n c6 br c10 A c L U m S V) (ht : Turns S T V V') : RgI U5 M n c6 br c10 A c L U m T V' := by
  have hbig := h.big
  have hsame : ∀ k, k < U → V'.heap[k]? = V.heap[k]? := fun k hk => ht.same k (by omega) (fun hs => by have := h.low k hs; omega)
  have h1 := p.s5
  have h2 := p.br3
  have h3 := p.brU
  obtain ⟨T1, R1, e1, e2, e3⟩ := h.ex
  refine ⟨⟨ht.os.trans h.vk.os, ht.tape.trans h.vk.tape, ht.output.trans h.vk.output, Nat.le_trans h.vk.size ht.size, fun k h4 h5 h6 => (hsame k (by omega)).trans (h.vk.block k h4 h5 h6)⟩, ⟨T1, R1, (hsame _ (by omega)).trans e1, (hsame _ h3).trans e2, e3⟩, (hsame _ p.cU).trans h.b10, own_block9 h.own fun b hb => hsame b (by have := p.own b hb; omega), fun k hk => ?_, Nat.le_trans hbig ht.size⟩
  rcases ht.more k hk with h4 | h4
  · exact h.low k h4
  · omega
set_option maxRecDepth 100000 in
set_option maxHeartbeats 4000000 in
theorem rings_any (n : Nat) (v : Value) (M : Wt) (w : World) (hn : n ≤ 4096) (hM : Okw n M) (hl : M.length ≤ 1048576) (hv : RowW w v (cst M)) :
    Calls Tryd.prog 49 #[.int .i64 (n : Nat), v] w fun e w' => ∃ R br, e = .returned (.slice (some ⟨br, 0, none⟩) n n) ∧ IntB br R w' ∧ R.length = n ∧ Below w.heap.size w w' ∧ ∀ a b, a < n → b < n → (R[a]? = R[b]? ↔ ME (eM M) a b) := by
  refine (callsIn_wide (n := 0)).1 ?_
  refine callsIn_of_wp_marks Tryd.func49 rfl trivial ?_ rfl
  simp only [Tryd.ntmps49, List.size_toArray, List.length_cons, List.length_nil, Nat.reduceAdd, Nat.reduceSub, Array.replicate_succ, Array.replicate_zero, List.push_toArray, List.append_toArray, List.nil_append, List.cons_append]
  have HLe := Lib.hid (fun W (hb : Below w.heap.size w W) => show Calls Tryd.prog 59 #[.int .i64 (n : Nat), v, .int .i64 0, .int .i64 1] W fun r w' => ∃ g Z, r = .returned (.slice (some ⟨g, 0, none⟩) n n) ∧ NxO w' W.heap.size g (eM M) n Z ∧ Below W.heap.size W w' from leads_any n v M M 0 1 W hn hM hl (hv.below hb) (.inl ⟨rfl, rfl, rfl⟩))
  have HLb := Lib.hid (fun W (hb : Below w.heap.size w W) => show Calls Tryd.prog 59 #[.int .i64 (n : Nat), v, .int .i64 1, .int .i64 0] W fun r w' => ∃ g Z, r = .returned (.slice (some ⟨g, 0, none⟩) n n) ∧ NxO w' W.heap.size g (eM (rvM M)) n Z ∧ Below W.heap.size W w' from leads_any n v M (rvM M) 1 0 W hn (rv_ok hM) hl (hv.below hb) (.inr ⟨rfl, rfl, rfl⟩))
  have hmk := mkB_run n hn
  obtain ⟨ZB, hZB⟩ : ∃ Z, ((List.replicate n false).map Value.bool).toArray = Z := ⟨_, rfl⟩
  rw [hZB] at hmk
  have HMk := Lib.hid hmk
  have HZB := Lib.hid hZB
  have HM := Lib.hid (And.intro hM hl)
  have HVi := Lib.hid (fun (W0 : World) (B g : Nat) (Z : List Value) (N : Wt) (hN : Okw n N) (hNl : N.length ≤ 1048576) (hZ : NxO W0 B g (eM N) n Z) => visit_all W0 B g n Z (eM N) hn hZ (fun i hi z hz => eM_lt hN i hi z hz) (fun i => by have := eM_len N i; omega))
  have q0 : (0 : Int) ≤ n := by omega
  clear hM hl hv hmk hZB
  gi_wp2_with fail
  refine ⟨trivial, rfl, (callsIn_wide.2 (HLe.out w (Below.refl _ _))).mono ?_⟩
  rintro e V0 ⟨g, Z, rfl, hZ, hb0⟩
  have H0 := Lib.hid (And.intro hZ hb0)
  clear hZ hb0
  gi_wp2_with fail
  refine ⟨trivial, rfl, (callsIn_wide.2 (HLb.out V0 H0.out.2)).mono ?_⟩
  rintro e V1 ⟨g2, Z2, rfl, hZ2, hb1⟩
  obtain ⟨c6, hc6⟩ : ∃ x, V1.heap.size = x := ⟨_, rfl⟩
  obtain ⟨w3, hw3⟩ : ∃ x, V1.alloc (.cells #[.slice (some ⟨g2, 0, none⟩) n n] 30) = x := ⟨_, rfl⟩
  have hs3 : w3.heap.size = c6 + 1 := by rw [← hw3, World.size_alloc, hc6]
  obtain ⟨w4, hw4⟩ : ∃ x, w3.alloc (.cells ZB 4) = x := ⟨_, rfl⟩
  have hs4 : w4.heap.size = c6 + 2 := by rw [← hw4, World.size_alloc, hs3]
  have hmk3 := HMk.out w3
  rw [hs3, hw4] at hmk3
  obtain ⟨U5, hU5⟩ : ∃ x, w4.alloc (.cells #[.slice (some ⟨c6 + 1, 0, none⟩) n n] 50) = x := ⟨_, rfl⟩
  have hs5 : U5.heap.size = c6 + 3 := by rw [← hU5, World.size_alloc, hs4]
  have hb3 : Below V1.heap.size V1 U5 := by
    rw [← hU5, ← hw4, ← hw3]
    exact (((Below.refl _ _).alloc (Nat.le_refl _) _).alloc (by rw [World.size_alloc]; omega) _).alloc (by rw [World.size_alloc, World.size_alloc]; omega) _
  have hB6 : Bx U5 c6 30 (.slice (some ⟨g2, 0, none⟩) n n) := by
    rw [← hU5, ← hw4, ← hw3, ← hc6]
    exact ((Bx.new V1 _ _).alloc _).alloc _
  have hBb : BolB (c6 + 1) (List.replicate n false) U5 := by
    have h := (MapKept.heap_alloc w3 (.cells ZB 4)).1
    rw [hs3, hw4, ← HZB.out] at h
    have h2 : BolB (c6 + 1) (List.replicate n false) w4 := h
    rw [← hU5]
    exact h2.below ((Below.refl _ _).alloc (Nat.le_refl _) _)
  have hB7 : Bx U5 (c6 + 2) 50 (.slice (some ⟨c6 + 1, 0, none⟩) n n) := by
    rw [← hU5, ← hs4]
    exact Bx.new w4 _ _
  have hZ5 := (H0.out.1.below hb1).below hb3
  have HU := Lib.hid (And.intro hZ5 (And.intro (hZ2.below hb3) (And.intro hB6 (And.intro hBb (And.intro hB7 (And.intro hs5 (H0.out.2.trans ((hb1.trans (hb3.mono hb1.size)).mono H0.out.2.size))))))))
  have hws : w.heap.size ≤ c6 := by have := H0.out.2.size; have := hb1.size; omega
  clear hZ2 hb1 hb3 hB6 hBb hB7 hZ5 hs5
  gi_wp2_with fail
  gi_loopw [8, 24] (fun sv kv wr => ∃ (k : Nat) (S : List Bool) (L : List Nat) (lv : Value), lv = sv ∧ kv = .int .i64 k ∧ k ≤ n ∧ Vs (eM M) (List.range k) (List.replicate n false) [] S L ∧ BolB (c6 + 1) S wr ∧ wr.ownsRow U5.heap.size 3 1 lv L.length (L.map intC) ∧ VisK (c6 + 1) none U5 wr) (fun _ kv _ => n - (intOf kv).toNat)
  case atStart => exact ⟨0, _, [], _, rfl, rfl, Nat.zero_le _, .nil, HU.out.2.2.2.1, ⟨rfl, .inl ⟨rfl, rfl⟩⟩, VisK.refl _ _ _⟩
  case round =>
    obtain ⟨k, S, L, lv, rfl, rfl, hk, hV, hS, ho, hvk⟩ := hrel
    have b7 := (hvk.bx HU.out.2.2.2.2.1 (by omega) (fun e => by cases e)).cell
    by_cases hkn : k < n
    · have hSl : S.length = n := by rw [hV.ex.choose_spec.2.len]; simp
      have hcnt := hV.cnt
      rw [List.count_replicate] at hcnt
      simp at hcnt
      have hcall := HVi.out U5 w.heap.size g Z M HM.out.1 HM.out.2 (HU.out.1.base (Nat.le_refl _)) n k S L lv (c6 + 1) wr (by omega) hSl hkn (by omega) hvk (Aprt.typed HU.out.1 HU.out.2.2.2.1) hS ho
      have HC := Lib.hid hcall
      have HR := Lib.hid (And.intro hV (And.intro hvk ho))
      have r0 : (0 : Int) ≤ k := by omega
      have r1 : (k : Int) < n := by omega
      clear hV hS ho hvk hSl hcnt hcall
      gi_wp2_with fail
      refine ⟨trivial, rfl, (callsIn_wide.2 HC.out).mono ?_⟩
      rintro e w5 ⟨S5, L5, lv5, rfl, hV5, hs5, ho5, hk5, hn5⟩
      have H5 := Lib.hid (And.intro hV5 (And.intro hs5 (And.intro ho5 hk5)))
      clear hV5 hs5 ho5 hk5 hn5
      gi_wp2_with fail
      refine ⟨⟨k + 1, S5, L5, _, rfl, by go_num, hkn, ?_, H5.out.2.1, H5.out.2.2.1, ?_⟩, by simp [intOf]; omega⟩
      · rw [List.range_succ]
        exact HR.out.1.app H5.out.1
      · have h5 := H5.out.2.2.2
        have h2 := HR.out.2.1
        exact ⟨h5.os.trans h2.os, h5.tape.trans h2.tape, h5.output.trans h2.output, Nat.le_trans h2.size h5.size, fun b h3 h4 h6 => (h5.block b (Nat.lt_of_lt_of_le h3 h2.size) h4 (fun e => by have := (HR.out.2.2.lt b e).1; omega)).trans (h2.block b h3 h4 h6)⟩
    · obtain rfl : n = k := by omega
      have hwh := hV.whole
      obtain ⟨W2, hcl, hS2, hvk2⟩ := clr_any (c6 + 1) n S wr hS (by rw [hV.ex.choose_spec.2.len]; simp)
      have hlL : L.length = n := by
        have h1 := hV.cnt
        rw [hwh.2.2.2, List.count_replicate, List.count_replicate] at h1
        simpa using h1
      obtain ⟨A5, c5, hlv, h51, h52, _, _, h55⟩ := owns_form ho
      rw [hlL] at hlv ho h51
      subst hlv
      have hvkU : VisK (c6 + 1) none U5 W2 := hvk.trans hvk2 (.inl rfl)
      have ho2 : W2.ownsRow U5.heap.size 3 1 (.slice A5 n c5) n (L.map intC) := own_block9 ho fun b hb => hvk2.block b (ho.lt b hb).2 (fun e => by have := (ho.lt b hb).1; have := HU.out.2.2.2.2.2.1; omega) (fun e => by cases e)
      obtain ⟨W3, hmk3, hI3, hb3⟩ := IntB.make W2 n hn
      obtain ⟨br, hbr⟩ : ∃ x, W2.heap.size = x := ⟨_, rfl⟩
      rw [hbr] at hmk3 hI3
      obtain ⟨c10, hc10⟩ : ∃ x, W3.heap.size = x := ⟨_, rfl⟩
      obtain ⟨W4, hW4⟩ : ∃ x, W3.alloc (.cells #[.slice (some ⟨br, 0, none⟩) n n] 48) = x := ⟨_, rfl⟩
      have hs4' : W4.heap.size = c10 + 1 := by rw [← hW4, World.size_alloc, hc10]
      have hb34 : Below W3.heap.size W3 W4 := by rw [← hW4]; exact (Below.refl _ _).alloc (Nat.le_refl _) _
      have hb24 : Below W2.heap.size W2 W4 := hb3.trans (hb34.mono hb3.size)
      have hbrc : br < c10 := by rw [← hc10]; exact hI3.lt
      have hp : RgP U5 n c6 br c10 A5 c5 (c10 + 1) := ⟨HU.out.2.2.2.2.2.1, by rw [← HU.out.2.2.2.2.2.1, ← hbr]; exact hvkU.size, by omega, by omega, hbrc, fun b hb => by rw [← hbr]; exact (ho2.lt b hb).2⟩
      have hI : RgI U5 M n c6 br c10 A5 c5 L (c10 + 1) n (fun _ => False) W4 := by
        refine ⟨⟨hb24.os.trans hvkU.os, hb24.tape.trans hvkU.tape, hb24.output.trans hvkU.output, Nat.le_trans hvkU.size hb24.size, fun k h1 h2 h3 => (hb24.block k (Nat.lt_of_lt_of_le h1 hvkU.size)).trans (hvkU.block k h1 h2 h3)⟩, ⟨List.replicate n false, List.replicate n 0, hS2.below hb24, hI3.below hb34, ?_⟩, ?_, own_sameO ho2 hb24, fun k hk => hk.elim, by rw [hs4']; exact Nat.le_refl _⟩
        · rw [List.drop_eq_nil_of_le (by omega)]
          exact Rg.init (eM M) n
        · rw [← hW4, ← hc10]
          exact Bx.new W3 _ _
      have HBk := Lib.hid (backN_any A5 n c5)
      have HI := Lib.hid (And.intro hI (And.intro hp (And.intro hwh (And.intro hlL hs4'))))
      have r1 : ¬ (n : Int) < n := by omega
      clear hV hS ho hvk hwh hvk2 hS2 h51 h52 h55 hvkU ho2 hI3 hb3 hb34 hb24 hbrc hp hI hlL
      gi_wp2_with (simp only [hcl])
      refine ⟨trivial, rfl, (callsIn_wide.2 (HBk.out _)).mono ?_⟩
      rintro e W5 ⟨rfl, hb5, hx5⟩
      have HX := Lib.hid (And.intro hb5 hx5)
      clear hb5 hx5 hcl hmk3
      gi_wp2_with fail
      refine wpIn_deals2 (gf := 74) rfl (enters_of Tryd.func74 (by kernel_rfl) rfl) (enc1 := iC) (enc2 := fun k => iC (L.getD k 0)) (xs := (List.range n).reverse) (S0 := fun k => k = c10 + 1) (F := fun V => Rd V A5 (L.map intC)) ?S0 ?seq
        (fun S pre V => RgI U5 M n c6 br c10 A5 c5 L (c10 + 1) (n - pre.length) S V) (fun _ _ _ => False) ?stI ?stX ?IF ?start
        (fun x => { tmps := #[.int .i64 n, v, undef, undef, .slice none 0 0, .slice (some ⟨g, 0, none⟩) n n, .pointer (some ⟨c6, 0, none⟩), .pointer (some ⟨c6 + 2, 0, none⟩), .slice A5 n c5, u9, .pointer (some ⟨c10, 0, none⟩), undef, iC (L.getD x 0), undef, undef, .int .i64 n, v, .slice (some ⟨g, 0, none⟩) n n, .int .i64 n, v, .slice (some ⟨g2, 0, none⟩) n n, .int .i64 n, .slice (some ⟨c6 + 1, 0, none⟩) n n, .int .i64 n, .int .i64 n, .bool false, u26, u27, u28, u29, u30, u31, u32, .slice (some ⟨c6 + 1, 0, none⟩) n n, .int .i64 n, .slice (some ⟨br, 0, none⟩) n n, .slice A5 n c5, .func (.func 74) #[] #[.pointer (some ⟨c10 + 1, 0, none⟩)], iC x, iC (L.getD x 0), undef, undef, undef, undef, undef, undef, undef, undef, undef, undef, undef, undef, undef, undef, undef], defers := [] }) ?assign ?body ?done ?stop
      case S0 =>
        intro k hk
        have h1 := HX.out.2.lt
        rw [HI.out.2.2.2.2] at h1
        rw [hk]
        exact h1
      case seq =>
        intro V hb
        have hx := HX.out.2
        rw [HI.out.2.2.2.2] at hx
        exact backN_deals A5 c5 L n (c10 + 1) (fun k => k = c10 + 1) rfl V (fun k hk => by have e : k = c10 + 1 := hk; rw [e]; exact (hx.below hb).lt) HI.out.2.2.2.1 (by omega) (hx.below hb)
      case stI => exact fun S T s V V' h ht => h.turned HI.out.2.1 ht
      case stX => exact fun S T s V V' h ht => h
      case IF =>
        intro S s V h
        exact Rd.of_own h.own
      case start =>
        have h := HI.out.1
        have hb := HX.out.1
        obtain ⟨T1, R1, e1, e2, e3⟩ := h.ex
        exact ⟨⟨hb.os.trans h.vk.os, hb.tape.trans h.vk.tape, hb.output.trans h.vk.output, Nat.le_trans h.vk.size hb.size, fun k h1 h2 h3 => (hb.block k (Nat.lt_of_lt_of_le h1 h.vk.size)).trans (h.vk.block k h1 h2 h3)⟩, ⟨T1, R1, e1.below hb, e2.below hb, e3⟩, h.b10.below hb, own_sameO h.own hb, fun k hk => Nat.le_of_eq (Eq.symm hk), Nat.le_trans h.big hb.size⟩
      case assign =>
        intro l2 x V K hK
        gi_wp2_with fail
        exact hK
      case body =>
        intro l2 S pre x post V hx hlt h
        obtain ⟨hxn, hp1, hp2⟩ := rev_pos hx
        have hxL : x < L.length := by rw [HI.out.2.2.2.1]; exact hxn
        have hgx : L[x]? = some L[x] := List.getElem?_eq_getElem hxL
        have hgd : L.getD x 0 = L[x] := by rw [List.getD_eq_getElem?_getD, hgx]; rfl
        have hLx : L = L.take x ++ L[x] :: L.drop (x + 1) := by rw [← List.drop_eq_getElem_cons hxL, List.take_append_drop]
        have hdx : L.drop x = L[x] :: L.drop (x + 1) := List.drop_eq_getElem_cons hxL
        obtain ⟨p, hpe⟩ : ∃ p, L[x] = p := ⟨_, rfl⟩
        rw [hpe] at hgd hLx hdx
        have hpn : p < n := (HI.out.2.2.1.2.1 p).1 (by rw [← hpe]; exact List.getElem_mem hxL)
        rw [hp1] at h
        rw [hgd]
        have hP := HI.out.2.1
        obtain ⟨T, R, hT, hR, hRg⟩ := h.ex
        have hZV := HU.out.2.1.visk h.vk (Aprt.typed HU.out.2.1 HU.out.2.2.2.1)
        have hcnt : T.count false ≤ n := by have := List.count_le_length (a := false) (l := T); rw [hRg.lt] at this; exact this
        have hcall := HVi.out V V0.heap.size g2 Z2 (rvM M) (rv_ok HM.out.1) (by unfold rvM; rw [List.length_map]; exact HM.out.2) hZV n p T [] (.slice none 0 0) (c6 + 1) V hcnt hRg.lt hpn (by simp; omega) (VisK.refl _ _ _) (Aprt.typed hZV hT) hT ⟨rfl, .inl ⟨rfl, rfl⟩⟩
        have HC := Lib.hid hcall
        have d6 := (h.vk.bx HU.out.2.2.1 (by omega) (fun e => by cases e)).cell
        have d7 := (h.vk.bx HU.out.2.2.2.2.1 (by omega) (fun e => by cases e)).cell
        have HH := Lib.hid (And.intro h (And.intro hlt (And.intro hp2 (And.intro hLx (And.intro hdx (And.intro hR hRg))))))
        have p0 : (0 : Int) ≤ p := by omega
        have p1 : (p : Int) < n := by omega
        clear h hlt hx hp1 hp2 hgx hgd hLx hdx hT hR hRg hZV hcnt hcall hP hpe hxL
        unfold iC
        gi_wp2_with fail
        refine ⟨trivial, rfl, (CallsIn.inRound l2 (callsIn_wide.2 HC.out)).mono ?_⟩
        rintro e V2 ⟨T', P, lv', rfl, hVs, hT', hoP, hkP, _⟩
        obtain ⟨AP, cP, hlv, _, _, _, _, hAP⟩ := owns_form hoP
        obtain ⟨pl, hpl⟩ : ∃ l, P.length = l := ⟨_, rfl⟩
        rw [hpl] at hlv hoP
        subst hlv
        have hPn : ∀ j ∈ P, j < n := fun j hj => by
          obtain ⟨Q, e, q⟩ := hVs.ex
          rw [List.nil_append] at e
          subst e
          have := q.lt hj
          rwa [HH.out.2.2.2.2.2.2.lt] at this
        have hI2 : IntB br R V2 := (hkP.block br HH.out.2.2.2.2.2.1.lt (by have := HI.out.2.1.br3; omega) (fun e => by cases e)).trans HH.out.2.2.2.2.2.1
        have hb10 := hkP.bx HH.out.1.b10 (by have := HI.out.2.1.br3; have := HI.out.2.1.c3; omega) (fun e => by cases e)
        have hbig := HH.out.1.big
        have hPr := HI.out.2.1
        have HP := Lib.hid (And.intro hVs (And.intro hT' (And.intro hoP (And.intro hkP (And.intro hpl (And.intro hPn (And.intro hI2 hb10)))))))
        have hpl9 : pl ≤ 1000000 := by
          have h1 := hVs.cnt
          have h2 := List.count_le_length (a := false) (l := T)
          rw [HH.out.2.2.2.2.2.2.lt] at h2
          simp only [List.length_nil] at h1
          omega
        have hbrV : br < V.heap.size := by have := hPr.brU; omega
        have hc10V : c10 < V.heap.size := by have := hPr.cU; omega
        have hcb : c10 ≠ br := by have := hPr.c3; omega
        have hb6 : br ≠ c6 + 1 := by have := hPr.br3; omega
        clear hVs hT' hoP hkP hpl hPn hI2 hb10 hAP hPr
        gi_wp2_with fail
        gi_loopw [45] (fun kv wr => ∃ i : Nat, kv = .int .i64 i ∧ i ≤ pl ∧ VisK br none V2 wr ∧ IntB br (setA R (P.take i) p) wr) (fun kv _ => pl - (intOf kv).toNat)
        case atStart => exact ⟨0, rfl, Nat.zero_le _, VisK.refl _ _ _, by rw [List.take_zero]; exact HP.out.2.2.2.2.2.2.1⟩
        case round =>
          obtain ⟨i, rfl, hi, hk2, hI2⟩ := hrel
          by_cases hip : i < pl
          · have hiP : i < P.length := by rw [HP.out.2.2.2.2.1]; exact hip
            obtain ⟨o, ho⟩ : ∃ o, P[i]? = some o := ⟨_, List.getElem?_eq_getElem hiP⟩
            have hoR : wr.ownsRow V.heap.size 3 1 (.slice AP pl cP) pl (P.map intC) := own_block9 HP.out.2.2.1 fun b hb => hk2.block b (HP.out.2.2.1.lt b hb).2 (fun e => by have := (HP.out.2.2.1.lt b hb).1; omega) (fun e => by cases e)
            obtain ⟨ae, o', rfl, ho', co⟩ := (RowN.owned HP.out.2.2.2.2.1 hoR).at9.2.2.2 i hip
            rw [ho] at ho'
            injection ho' with ho'
            subst ho'
            have hon : o < n := HP.out.2.2.2.2.2.1 o (List.mem_of_getElem? ho)
            have d10 := (hk2.bx HP.out.2.2.2.2.2.2.2 hcb (fun e => by cases e)).cell
            have fr := hI2.frz o
            have hIo : IntB br (setA R (P.take (i + 1)) p) (wr.setCell ⟨br, o, none⟩ (.int .i64 (p : Nat))) := by
              rw [setA_take ho]
              exact hI2.set o p
            have hko : VisK br none V2 (wr.setCell ⟨br, o, none⟩ (.int .i64 (p : Nat))) := ⟨hk2.os, hk2.tape, hk2.output, by have := hk2.size; simpa [World.setCell] using this, fun b h1 h2 h3 => (Below.heap_setCell wr _ _ b (fun e => h2 e)).trans (hk2.block b h1 h2 h3)⟩
            have cro := hI2.load (k := o) (List.getElem?_eq_getElem (by rw [setA_len, HH.out.2.2.2.2.2.2.lr]; exact hon))
            have HO := Lib.hid (And.intro hIo hko)
            have i0 : (0 : Int) ≤ i := by omega
            have i1 : (i : Int) < pl := by omega
            have o0 : (0 : Int) ≤ o := by omega
            have o1 : (o : Int) < n := by omega
            clear hk2 hI2 hoR ho hIo hko hiP
            gi_wp2_with fail
            exact ⟨⟨i + 1, by go_num, hip, HO.out.2, HO.out.1⟩, by simp [intOf]; omega⟩
          · obtain rfl : pl = i := by omega
            have i1 : ¬ (pl : Int) < pl := by omega
            have hall : P.take pl = P := List.take_of_length_le (by rw [HP.out.2.2.2.2.1]; exact Nat.le_refl _)
            rw [hall] at hI2
            have HO := Lib.hid (And.intro hk2 hI2)
            clear hk2 hI2 hall
            gi_wp2_with fail
            have hk1 := HP.out.2.2.2.1
            have hvV := HH.out.1.vk
            have hPr := HI.out.2.1
            refine ⟨⟨Nat.le_trans hk1.size HO.out.1.size, fun k hk => ?_⟩, ?_⟩
            · have h1 := HH.out.1.low k hk
              have h2 := HH.out.2.1 k hk
              exact (HO.out.1.block k (Nat.lt_of_lt_of_le h2 hk1.size) (by have := hPr.c3; omega) (fun e => by cases e)).trans (hk1.block k h2 (by have := hPr.br3; have := hPr.c3; omega) (fun e => by cases e))
            · show RgI U5 M n c6 br c10 A5 c5 L (c10 + 1) (n - (pre ++ [x]).length) S wr
              rw [HH.out.2.2.1]
              refine ⟨⟨HO.out.1.os.trans (hk1.os.trans hvV.os), HO.out.1.tape.trans (hk1.tape.trans hvV.tape), HO.out.1.output.trans (hk1.output.trans hvV.output), Nat.le_trans hvV.size (Nat.le_trans hk1.size HO.out.1.size), fun k h1 h2 h3 => ?_⟩, ⟨T', setA R P p, ?_, HO.out.2, ?_⟩, HO.out.1.bx HP.out.2.2.2.2.2.2.2 hcb (fun e => by cases e), ?_, HH.out.1.low, Nat.le_trans hbig (Nat.le_trans hk1.size HO.out.1.size)⟩
              · have := hPr.s5
                have := hPr.br3
                have h4 := hvV.size
                exact (HO.out.1.block k (by have := hk1.size; omega) (by omega) (fun e => by cases e)).trans ((hk1.block k (by omega) h2 (fun e => by cases e)).trans (hvV.block k h1 h2 h3))
              · exact (HO.out.1.block (c6 + 1) HP.out.2.1.lt (fun e => hb6 e.symm) (fun e => by cases e)).trans HP.out.2.1
              · rw [HH.out.2.2.2.2.1]
                exact Rg.step HM.out.1 HH.out.2.2.2.1 HI.out.2.2.1.1 HI.out.2.2.1.2.1 HI.out.2.2.1.2.2.1 HH.out.2.2.2.2.2.2 HP.out.1
              · refine own_block9 HH.out.1.own fun b hb => ?_
                have h1 := (HH.out.1.own.lt b hb)
                have h2 := hPr.own b hb
                have := hPr.s5
                exact (HO.out.1.block b (by have := hk1.size; omega) (by omega) (fun e => by cases e)).trans (hk1.block b h1.2 (by omega) (fun e => by cases e))
      case done =>
        intro D1 S V hlt hD h hd
        have hlen : (List.range n).reverse.length = n := by simp
        rw [hlen, Nat.sub_self] at h
        obtain ⟨T, R, hT, hR, hRg⟩ := h.ex
        rw [List.drop_zero] at hRg
        have d10 := h.b10.cell
        have hDl := h.low D1 hD
        have hPr := HI.out.2.1
        have hfin : ∀ a b, a < n → b < n → (R[a]? = R[b]? ↔ ME (eM M) a b) := fun a b ha hb => hRg.fin HI.out.2.2.1.2.1 ha hb
        have hbw : Below w.heap.size w V := HU.out.2.2.2.2.2.2.trans (h.vk.below (by omega) (fun b hb => by cases hb) (by have := hPr.s5; omega))
        have HF := Lib.hid (And.intro hR (And.intro hRg.lr (And.intro hfin (And.intro hbw (And.intro hd hDl)))))
        have hbrU := hPr.brU
        have hbr3 := hPr.br3
        have hc3 := hPr.c3
        clear h hT hR hRg hfin hbw hd hlt hD hlen hPr
        gi_wp2_with fail
        refine ⟨by simp, .inl ⟨_, _, rfl, run_takeDeferred HF.out.2.2.2.2.1, ?_⟩⟩
        refine ⟨_, results_tmp rfl _ _ _, R, br, rfl, (World.putObj_heap_other (by have := HF.out.2.2.2.2.2; omega)).trans HF.out.1, HF.out.2.1, ?_, HF.out.2.2.1⟩
        have hB := HF.out.2.2.2.1
        refine ⟨hB.os, hB.tape, hB.output, by rw [World.putObj_size]; exact hB.size, fun k hk => ?_⟩
        rw [World.putObj_heap_other (by have := HF.out.2.2.2.2.2; omega)]
        exact hB.block k hk
      case stop => exact fun D S pre V hlt hD h hd => h.elim
end Go.Proofs.YtkfnbapnkmlopaaDoor
/- Contract: Loop. -/
namespace Go.Proofs.YtkfnbapnkmlopaaDoor
open Go.RowKit

def gdM (R : List Nat) (p : Nat × Nat) : Prop := R[p.1]? = R[p.2]?
/-- The least begin of those ways that can be gone back. -/
structure LsP (R : List Nat) (ps : List (Nat × Nat)) (o : Option Nat) : Prop where
  no : o = none → ∀ p ∈ ps, ¬ gdM R p
  yes : ∀ l, o = some l → (∃ p ∈ ps, gdM R p ∧ p.1 = l) ∧ ∀ p ∈ ps, gdM R p → l ≤ p.1
theorem LsP.nil (R : List Nat) : LsP R [] none := ⟨fun _ p hp => (by cases hp), fun l h => (by cases h)⟩
theorem LsP.bad {R : List Nat} {M : Wt} {i : Nat} {o : Option Nat} {p : Nat × Nat} (h : LsP R (M.take i) o) (hp : M[i]? = some p) (hb : ¬ gdM R p) : LsP R (M.take (i + 1)) o := by
  obtain ⟨hi, e⟩ := List.getElem?_eq_some_iff.1 hp
  rw [List.take_succ_eq_append_getElem hi, e]
  refine ⟨fun ho q hq => ?_, fun l ho => ?_⟩
  · rcases List.mem_append.1 hq with hq | hq
    · exact h.no ho q hq
    · rw [List.mem_singleton.1 hq]; exact hb
  · obtain ⟨⟨q, hq, h1, h2⟩, h3⟩ := h.yes l ho
    refine ⟨⟨q, List.mem_append.2 (.inl hq), h1, h2⟩, fun r hr hg => ?_⟩
    rcases List.mem_append.1 hr with hr | hr
    · exact h3 r hr hg
    · rw [List.mem_singleton.1 hr] at hg; exact absurd hg hb
theorem LsP.take {R : List Nat} {M : Wt} {i : Nat} {o : Option Nat} {p : Nat × Nat} (h : LsP R (M.take i) o) (hp : M[i]? = some p) (hb : gdM R p) (hl : ∀ l, o = some l → p.1 < l) : LsP R (M.take (i + 1)) (some p.1) := by
  obtain ⟨hi, e⟩ := List.getElem?_eq_some_iff.1 hp
  rw [List.take_succ_eq_append_getElem hi, e]
  refine ⟨fun ho => by (cases ho), fun l ho => ?_⟩
  injection ho with ho
  subst ho
  refine ⟨⟨p, List.mem_append.2 (.inr (List.mem_singleton.2 rfl)), hb, rfl⟩, fun r hr hg => ?_⟩
  rcases List.mem_append.1 hr with hr | hr
  · cases o with
    | none => exact absurd hg (h.no rfl r hr)
    | some l =>
      have h1 := (h.yes l rfl).2 r hr hg
      have h2 := hl l rfl
      omega
  · rw [List.mem_singleton.1 hr]; exact Nat.le_refl _
theorem LsP.keep {R : List Nat} {M : Wt} {i l : Nat} {p : Nat × Nat} (h : LsP R (M.take i) (some l)) (hp : M[i]? = some p) (hl : l ≤ p.1) : LsP R (M.take (i + 1)) (some l) := by
  obtain ⟨hi, e⟩ := List.getElem?_eq_some_iff.1 hp
  rw [List.take_succ_eq_append_getElem hi, e]
  refine ⟨fun ho => by (cases ho), fun l' ho => ?_⟩
  injection ho with ho
  subst ho
  obtain ⟨⟨q, hq, h1, h2⟩, h3⟩ := h.yes l rfl
  refine ⟨⟨q, List.mem_append.2 (.inl hq), h1, h2⟩, fun r hr hg => ?_⟩
  rcases List.mem_append.1 hr with hr | hr
  · exact h3 r hr hg
  · rw [List.mem_singleton.1 hr]; exact hl
theorem LsP.fin {M : Wt} {n : Nat} (hM : Okw n M) {R : List Nat} (hR : ∀ a b, a < n → b < n → (R[a]? = R[b]? ↔ ME (eM M) a b)) {o : Option Nat} (h : LsP R M o) : lpT M n = o := by
  have hgood : ∀ y, Wy (eM M) y y → ∃ p ∈ M, gdM R p ∧ p.1 = y := fun y hy => by
    obtain ⟨j, hj, hw⟩ := hy.head
    have hm := eM_mem.1 hj
    refine ⟨(y, j), hm, ?_, rfl⟩
    refine (hR y j (hM _ hm).1 (hM _ hm).2).2 ?_
    rcases hw with rfl | hw
    · exact .inl rfl
    · exact .inr ⟨.one hj, hw⟩
  cases o with
  | none =>
    refine (lpT_none hM).2 ?_
    rintro ⟨y, hy⟩
    obtain ⟨p, hp, hg, _⟩ := hgood y hy
    exact h.no rfl p hp hg
  | some l =>
    obtain ⟨⟨p, hp, hg, e⟩, h3⟩ := h.yes l rfl
    subst e
    have hpn := hM p hp
    refine lpT_of hpn.1 ?_ fun y hy hw => ?_
    · have hme := (hR p.1 p.2 hpn.1 hpn.2).1 hg
      have hj : p.2 ∈ eM M p.1 := eM_mem.2 hp
      rcases hme with e | ⟨_, h2⟩
      · rw [← e] at hj
        exact .one hj
      · exact .more hj h2
    · obtain ⟨q, hq, hg2, e⟩ := hgood y hw
      have := h3 q hq hg2
      omega
set_option maxRecDepth 100000 in
set_option maxHeartbeats 4000000 in
theorem pg_lp (n : Int) (v : Value) (L : List (Int × Int)) (w : World) (hn : I64 n) (hv : RowW w v L) : Calls Tryd.prog 37 #[.int .i64 n, v] w fun e w' => e = .returned (.tuple #[.int .i64 (lpA n L).1, .bool (lpA n L).2.1, errE (lpA n L).2.2]) ∧ Below w.heap.size w w' := by
  have HC := Lib.hid (pg_ck n v L w hn hv)
  by_cases hck : ckW n L = 0
  · obtain ⟨k, rfl, hk, hlen, hM, hL⟩ := ckW_ok hck
    have hcst : L = cst (ntW L) := hL
    have hml : (ntW L).length ≤ 1048576 := by unfold ntW; rw [List.length_map]; exact hlen
    rw [hck, errE_zero] at HC
    have hans : lpA (k : Int) L = (match lpT (ntW L) k with | some x => ((x : Int), true, 0) | none => (0, false, 0)) := by
      unfold lpA
      rw [if_pos hck, Int.toNat_natCast]
      rfl
    rw [hans]
    have HRi := Lib.hid (fun W (hb : Below w.heap.size w W) => rings_any k v (ntW L) W hk hM hml (by rw [← hcst]; exact hv.below hb))
    obtain ⟨A, c, hve, hr⟩ := hv.form
    obtain ⟨m, hm⟩ : ∃ m, L.length = m := ⟨_, rfl⟩
    rw [hm] at hve hr
    have hm9 : m ≤ 1048576 := by omega
    subst hve
    rw [hcst] at hr
    have hMl : (ntW L).length = m := by unfold ntW; rw [List.length_map]; exact hm
    obtain ⟨M, hMe⟩ : ∃ M, ntW L = M := ⟨_, rfl⟩
    rw [hMe] at hM hr HRi hMl ⊢
    obtain ⟨OT, hOT⟩ : ∃ o, lpT M k = o := ⟨_, rfl⟩
    rw [hOT]
    have HOT := Lib.hid hOT
    have HM := Lib.hid (And.intro hM (And.intro hr hMl))
    have q0 : (0 : Int) ≤ k := by omega
    clear hv hck hM hL hcst hml hans hr hMl hMe hm hlen hn hOT
    go_enter Tryd.func37, Tryd.ntmps37
    go_wp2_with fail
    with_reducible refine HC.out.mono ?_
    rintro e w1 ⟨rfl, hb1⟩
    have HB := Lib.hid hb1
    clear hb1
    go_wp2_with fail
    with_reducible refine (HRi.out _ HB.out).mono ?_
    rintro e w2 ⟨R, br, rfl, hI, hRl, hb2, hfin⟩
    have H2 := Lib.hid (And.intro hI (And.intro hRl (And.intro (HB.out.trans (hb2.mono HB.out.size)) hfin)))
    clear hI hRl hb2 hfin
    go_wp2_with fail
    go_loopw [8, 9, 25] (fun lv sv kv wr => ∃ (i : Nat) (o : Option Nat), lv = .int .i64 (o.getD 0 : Nat) ∧ sv = .bool o.isSome ∧ kv = .int .i64 i ∧ i ≤ m ∧ Below w2.heap.size w2 wr ∧ LsP R (M.take i) o) (fun _ _ kv _ => m - (intOf kv).toNat)
    case atStart => exact ⟨0, none, rfl, rfl, rfl, Nat.zero_le _, Below.refl _ _, by rw [List.take_zero]; exact LsP.nil R⟩
    case round =>
      obtain ⟨i, o, rfl, rfl, rfl, hi, hb, hls⟩ := hrel
      by_cases him : i < m
      · have s0 : (0 : Int) ≤ i := by omega
        have s1 : (i : Int) < m := by omega
        have hil : i < M.length := by rw [HM.out.2.2]; exact him
        obtain ⟨p, hp⟩ : ∃ p, M[i]? = some p := ⟨_, List.getElem?_eq_getElem hil⟩
        have hpm := HM.out.1 p (List.mem_of_getElem? hp)
        have hbw0 : Below w.heap.size w wr := H2.out.2.2.1.trans (hb.mono H2.out.2.2.1.size)
        obtain ⟨ad, X, rfl, hX, k0, k1⟩ := (HM.out.2.1.below hbw0).parts.2.2.2 i him _ (cst_get hp)
        dsimp only at k0 k1
        obtain ⟨W1, hW1⟩ : ∃ x, wr.alloc (.cells #[.int .i64 (p.1 : Nat), .int .i64 (p.2 : Nat)] 87) = x := ⟨_, rfl⟩
        have hbW : Below wr.heap.size wr W1 := by rw [← hW1]; exact (Below.refl _ _).alloc (Nat.le_refl _) _
        obtain ⟨gw, hgw⟩ : ∃ x, wr.heap.size = x := ⟨_, rfl⟩
        have hWb : W1.heap[gw]? = some (.cells #[.int .i64 (p.1 : Nat), .int .i64 (p.2 : Nat)] 87 (0, 0)) := by
          rw [← hW1, ← hgw]
          exact (MapKept.heap_alloc wr _).1
        have c0 := cell9_blk hWb 0 (v := .int .i64 (p.1 : Nat)) rfl
        have c1 := cell9_blk hWb 1 (v := .int .i64 (p.2 : Nat)) rfl
        have hI1 := (H2.out.1.below hb).below hbW
        obtain ⟨x1, hx1⟩ : ∃ x, R[p.1]? = some x := ⟨_, List.getElem?_eq_getElem (by rw [H2.out.2.1]; exact hpm.1)⟩
        obtain ⟨x2, hx2⟩ : ∃ x, R[p.2]? = some x := ⟨_, List.getElem?_eq_getElem (by rw [H2.out.2.1]; exact hpm.2)⟩
        have d1 := hI1.load hx1
        have d2 := hI1.load hx2
        have hgd : gdM R p ↔ x1 = x2 := by
          unfold gdM
          rw [hx1, hx2]
          exact ⟨fun h => Option.some.inj h, fun h => by rw [h]⟩
        have HS := Lib.hid (And.intro hls (And.intro hp (And.intro hgd (hb.trans (hbW.mono hb.size)))))
        have hpm1 := hpm.1
        have hpm2 := hpm.2
        obtain ⟨a, ha⟩ : ∃ y, p.1 = y := ⟨_, rfl⟩
        obtain ⟨b, hb'⟩ : ∃ y, p.2 = y := ⟨_, rfl⟩
        rw [ha] at k0 c0 hpm1 d1
        rw [hb'] at k1 c1 hpm2 d2
        rw [ha, hb'] at hW1
        have HA := Lib.hid (And.intro ha hb')
        have a0 : (0 : Int) ≤ a := by omega
        have a1 : (a : Int) < k := by omega
        have b0 : (0 : Int) ≤ b := by omega
        have b1 : (b : Int) < k := by omega
        clear hb hls hp hpm hbW hWb hI1 hx1 hx2 hgd hil hbw0 ha hb'
        by_cases hx : x1 = x2
        · have hg := HS.out.2.2.1.2 hx
          have HG := Lib.hid hg
          subst hx
          clear hg
          cases o with
          | none =>
            have hnew := HS.out.1.take HS.out.2.1 HG.out (fun l h => by cases h)
            rw [HA.out.1] at hnew
            have HN := Lib.hid hnew
            clear hnew
            go_wp2_with fail
            go_quiet (fail)
            go_wp2_with fail
            exact ⟨⟨i + 1, some a, rfl, rfl, by go_num, him, HS.out.2.2.2.trans (below_dq _ _), HN.out⟩, by simp [intOf]; omega⟩
          | some l =>
            by_cases hal : a < l
            · have hal' : (a : Int) < l := by omega
              have hnew := HS.out.1.take HS.out.2.1 HG.out (fun l' h => by injection h with h; rw [← h, HA.out.1]; exact hal)
              rw [HA.out.1] at hnew
              have HN := Lib.hid hnew
              clear hnew
              go_wp2_with fail
              go_quiet (fail)
              go_wp2_with fail
              exact ⟨⟨i + 1, some a, rfl, rfl, by go_num, him, HS.out.2.2.2.trans (below_dq _ _), HN.out⟩, by simp [intOf]; omega⟩
            · have hal' : ¬ (a : Int) < l := by omega
              have hnew := HS.out.1.keep HS.out.2.1 (by rw [HA.out.1]; omega)
              have HN := Lib.hid hnew
              clear hnew
              go_wp2_with fail
              go_quiet (fail)
              go_wp2_with fail
              exact ⟨⟨i + 1, some l, rfl, rfl, by go_num, him, HS.out.2.2.2.trans (below_dq _ _), HN.out⟩, by simp [intOf]; omega⟩
        · have hnew := HS.out.1.bad HS.out.2.1 (fun h => hx (HS.out.2.2.1.1 h))
          have HN := Lib.hid hnew
          have hxi : ¬ ((x1 : Int) = x2) := by omega
          have hxb : ((x1 : Int) == (x2 : Int)) = false := beq_eq_false_iff_ne.2 hxi
          obtain ⟨is, his⟩ : ∃ y, o.isSome = y := ⟨_, rfl⟩
          obtain ⟨le, hle⟩ : ∃ y, o.getD 0 = y := ⟨_, rfl⟩
          rw [his, hle]
          have HO := Lib.hid (And.intro his hle)
          clear hnew hx his hle
          go_wp2_with fail
          go_quiet (fail)
          go_wp2_with fail
          exact ⟨⟨i + 1, o, by rw [HO.out.2], by rw [HO.out.1], by go_num, him, HS.out.2.2.2.trans (below_dq _ _), HN.out⟩, by simp [intOf]; omega⟩
      · obtain rfl : m = i := by omega
        have hal : M.take m = M := List.take_of_length_le (by rw [HM.out.2.2]; exact Nat.le_refl _)
        rw [hal] at hls
        have hlp := hls.fin HM.out.1 H2.out.2.2.2
        have hoe : OT = o := HOT.out.symm.trans hlp
        have HF := Lib.hid (H2.out.2.2.1.trans (hb.mono H2.out.2.2.1.size))
        have s1 : ¬ (m : Int) < m := by omega
        clear hb hls hal hlp
        subst hoe
        cases OT with
        | none =>
          go_wp2_with fail
          go_ret3
          first
          | exact ⟨rfl, HF.out⟩
          | (refine ⟨?_, HF.out⟩
             rw [errE_zero]
             rfl)
        | some l =>
          go_wp2_with fail
          go_ret3
          first
          | exact ⟨rfl, HF.out⟩
          | (refine ⟨?_, HF.out⟩
             rw [errE_zero]
             rfl)
  · rw [lpA_bad hck]
    obtain ⟨q, hq⟩ : ∃ q, ckW n L = q := ⟨_, rfl⟩
    rw [hq] at HC hck ⊢
    dsimp only
    rw [errE_pos hck] at HC ⊢
    unfold errK at HC ⊢
    clear hv hq hck hn
    go_enter Tryd.func37, Tryd.ntmps37
    go_wp2_with fail
    with_reducible refine HC.out.mono ?_
    rintro e w1 ⟨rfl, hb1⟩
    have HB := Lib.hid hb1
    clear hb1
    go_wp2_with fail
    go_ret3
    exact ⟨rfl, HB.out⟩
end Go.Proofs.YtkfnbapnkmlopaaDoor

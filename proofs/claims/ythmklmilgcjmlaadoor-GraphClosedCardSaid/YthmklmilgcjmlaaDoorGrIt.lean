/- Loops over slices.Backward at ints (of stages 10 and 11, apart). -/
import Derived.RangeFuncRecord
import Derived.RangeFuncSeq
import Derived.ControlIn
import Derived.RangeFuncCalls
import Derived.RangeFuncLeaves
import Derived.Shelf.Abstract
import Derived.OwnWalkIn
import Derived.TacticsInMore
import Derived.LoopNIn
import Derived.LoopIn
import Derived.Shelf.RegionOpen
import Derived.Test.YthmklmilgcjmlaaDoorGrVi
/- Loops over an iterator that keeps blocks of its own (a variable that it has captured and writes; the record of a loop within it). The iterator's own blocks are a set S that grows; a round leaves them as they lay, the iterator leaves all others. Plain theorems; no statement of the seat is proved here. -/
namespace Go.Proofs.YthmklmilgcjmlaaDoor
open Go.RowKit

/-- From W to W' only blocks of S were written; T are the iterator's blocks behind that. -/
structure Turns (S T : Nat → Prop) (W W' : World) : Prop where
  os : W'.os = W.os
  tape : W'.tape = W.tape
  output : W'.output = W.output
  size : W.heap.size ≤ W'.heap.size
  same : ∀ k, k < W.heap.size → ¬ S k → W'.heap[k]? = W.heap[k]?
  more : ∀ k, T k → S k ∨ W.heap.size ≤ k
  lt : ∀ k, T k → k < W'.heap.size
/-- What the iterator's steps leave true. -/
def Stays {α : Type} (J : (Nat → Prop) → List α → World → Prop) : Prop := ∀ S T s W W', J S s W → Turns S T W W' → J T s W'
/-- A round's word to the iterator. -/
structure Spares (S : Nat → Prop) (W W' : World) : Prop where
  size : W.heap.size ≤ W'.heap.size
  same : ∀ k, S k → W'.heap[k]? = W.heap[k]?
/-- The value deals xs out, one by one, unless a round says no. -/
def Deals {α : Type} (P : Program) (g : Nat) (lb : Array Value) (enc : α → Value) (xs : List α) (S0 : Nat → Prop) (W : World) : Prop :=
  ∀ (l : Nat) (J Jx : (Nat → Prop) → List α → World → Prop), Stays J → Stays Jx →
    (∀ S pre x post W1, xs = pre ++ x :: post → J S pre W1 → YieldAt Fence.wide 0 P l #[enc x] W1 fun e W' =>
      Spares S W1 W' ∧ ((e = .returned (.bool true) ∧ J S (pre ++ [x]) W') ∨ (e = .returned (.bool false) ∧ Jx S (pre ++ [x]) W'))) →
    J S0 [] W → CallsIn Fence.wide 0 P g (#[.func (.yield l) #[] #[]] ++ lb) W fun e W' => (∃ v, e = .returned v) ∧ ∃ S, J S xs W' ∨ ∃ pre, Jx S pre W'
section
variable {S T U : Nat → Prop} {W W' W'' : World}
theorem Turns.trans (h : Turns S T W W') (k : Turns T U W' W'') : Turns S U W W'' :=
  ⟨k.os.trans h.os, k.tape.trans h.tape, k.output.trans h.output, Nat.le_trans h.size k.size, fun i hi hs => (k.same i (Nat.lt_of_lt_of_le hi h.size) (fun ht => (h.more i ht).elim hs (fun hge => absurd hi (Nat.not_lt.2 hge)))).trans (h.same i hi hs),
   fun i hu => (k.more i hu).elim (h.more i) (fun hge => .inr (Nat.le_trans h.size hge)), k.lt⟩
theorem Turns.putObj (hS : ∀ k, S k → k < W.heap.size) {l : Nat} (h : S l) (o : Obj) : Turns S S W (W.putObj l o) :=
  ⟨rfl, rfl, rfl, by simp, fun _ _ hn => World.putObj_heap_other (fun e => hn (e ▸ h)), fun _ h => .inl h, fun k h => by rw [World.putObj_size]; exact hS k h⟩
theorem Turns.below (hS : ∀ k, S k → k < W.heap.size) (hb : Below W.heap.size W W') : Turns S S W W' :=
  ⟨hb.os, hb.tape, hb.output, hb.size, fun k hk _ => hb.block k hk, fun _ h => .inl h, fun k h => Nat.lt_of_lt_of_le (hS k h) hb.size⟩
theorem Turns.newer (hS : ∀ k, S k → k < W.heap.size) (hb : Below W.heap.size W W') : Turns S (fun k => S k ∨ (W.heap.size ≤ k ∧ k < W'.heap.size)) W W' :=
  ⟨hb.os, hb.tape, hb.output, hb.size, fun k hk _ => hb.block k hk, fun _ h => h.elim .inl (fun h => .inr h.1), fun k h => h.elim (fun h => Nat.lt_of_lt_of_le (hS k h) hb.size) (fun h => h.2)⟩
theorem Turns.setCell (hS : ∀ k, S k → k < W.heap.size) {p : Addr} (h : S p.block) (v : Value) : Turns S S W (W.setCell p v) :=
  ⟨rfl, rfl, rfl, by simp [World.setCell], fun k _ hn => Below.heap_setCell W p v k (fun e => hn (e ▸ h)), fun _ h => .inl h, fun k h => by have := hS k h; simpa [World.setCell] using this⟩
theorem Spares.trans (h : Spares S W W') (k : Spares S W' W'') : Spares S W W'' := ⟨Nat.le_trans h.size k.size, fun i hi => (k.same i hi).trans (h.same i hi)⟩
theorem Spares.below (hS : ∀ k, S k → k < W.heap.size) (hb : Below W.heap.size W W') : Spares S W W' := ⟨hb.size, fun k h => hb.block k (hS k h)⟩
theorem Spares.setCell {p : Addr} (h : ¬ S p.block) (v : Value) : Spares S W (W.setCell p v) :=
  ⟨by simp [World.setCell], fun k hk => Below.heap_setCell W p v k (fun e => h (e ▸ hk))⟩
theorem Spares.sub (h : Spares T W W') (hs : ∀ k, S k → T k) : Spares S W W' := ⟨h.size, fun k hk => h.same k (hs k hk)⟩
theorem Spares.cell (h : Spares S W W') {p : Addr} (hp : S p.block) : W'.cell? p = W.cell? p := World.cell?_of_block (h.same _ hp)
theorem Spares.grown {row : Option Nat} (hg : W.grownBy W' row) (hS : ∀ k, S k → k < W.heap.size) (hr : ∀ k, row = some k → ¬ S k) : Spares S W W' :=
  ⟨hg.size, fun k hk => hg.block k (hS k hk) (fun e => hr k e.symm hk)⟩
end
/-- How a round may be left. -/
def roundEnds {α : Type} (I Ix : (Nat → Prop) → List α → World → Prop) (S : Nat → Prop) (xs : List α) (W : World) : Exit → Act → World → Prop
  | .normal, _, W' => Spares S W W' ∧ I S xs W'
  | .ret, _, W' => Spares S W W' ∧ Ix S xs W'
  | _, _, _ => False
end Go.Proofs.YthmklmilgcjmlaaDoor
/- Loops over an iterator that deals pairs (a place and what stands there); see VaItr. Plain theorems. -/
namespace Go.Proofs.YthmklmilgcjmlaaDoor
open Go.RowKit

/-- The value deals xs out, one by one, unless a round says no. -/
def Deals2 {α : Type} (P : Program) (g : Nat) (lb : Array Value) (enc1 enc2 : α → Value) (xs : List α) (S0 : Nat → Prop) (F : World → Prop) (W : World) : Prop :=
  ∀ (l : Nat) (J Jx : (Nat → Prop) → List α → World → Prop), Stays J → Stays Jx → (∀ S s V, J S s V → F V) →
    (∀ S pre x post W1, xs = pre ++ x :: post → J S pre W1 → YieldAt Fence.wide 0 P l #[enc1 x, enc2 x] W1 fun e W' =>
      Spares S W1 W' ∧ ((e = .returned (.bool true) ∧ J S (pre ++ [x]) W') ∨ (e = .returned (.bool false) ∧ Jx S (pre ++ [x]) W'))) →
    J S0 [] W → CallsIn Fence.wide 0 P g (#[.func (.yield l) #[] #[]] ++ lb) W fun e W' => (∃ v, e = .returned v) ∧ ∃ S, J S xs W' ∨ ∃ pre, Jx S pre W'
theorem wpIn_deals2 {α : Type} {P : Program} {g : Operand} {p q : Tmp} {assign body : Code} {Q : Exit → Act → World → Prop} {a : Act} {w : World} {gf : Nat} {lb : Array Value}
    (hg : a.eval g = .func (.func gf) #[] lb) (eg : ∀ args w, (callFunc gf args).run P w = .ok (.enter gf args) w)
    {enc1 enc2 : α → Value} {xs : List α} {S0 : Nat → Prop} {F : World → Prop} (hS0 : ∀ k, S0 k → k < w.heap.size) (hseq : ∀ W, Below w.heap.size w W → Deals2 P gf lb enc1 enc2 xs S0 F W)
    (I Ix : (Nat → Prop) → List α → World → Prop) (hI : Stays I) (hIx : Stays Ix) (hIF : ∀ S s V, I S s V → F V) (h0 : I S0 [] w) (a₁ : α → Act)
    (hassign : ∀ (l : Nat) (x : α) (W : World) (K : Act → World → Prop), K (a₁ x) W →
      assign.wpIn (Fence.wide.inRound l) 0 P (Exit.then K (fun _ _ _ => False)) { tmps := (a.tmps.setIfInBounds p (enc1 x)).setIfInBounds q (enc2 x), defers := [] } W)
    (hbody : ∀ (l : Nat) (S : Nat → Prop) (pre : List α) (x : α) (post : List α) (W : World), xs = pre ++ x :: post → (∀ k, S k → k < W.heap.size) → I S pre W →
      body.wpIn (Fence.wide.inRound l) 0 P (roundEnds I Ix S (pre ++ [x]) W) (a₁ x) W)
    (hdone : ∀ (D : Nat) (S : Nat → Prop) (W : World), (∀ k, S k → k < W.heap.size) → S D → I S xs W → W.heap[D]? = some (.deferred (some [])) →
      Q .normal { a with defers := { target := .collected D, args := #[] } :: a.defers } W)
    (hstop : ∀ (D : Nat) (S : Nat → Prop) (pre : List α) (W : World), (∀ k, S k → k < W.heap.size) → S D → Ix S pre W → W.heap[D]? = some (.deferred (some [])) →
      Code.ret.wpIn Fence.wide 0 P Q { a with defers := { target := .collected D, args := #[] } :: a.defers } W) :
    (Code.rangeFunc g #[p, q] assign body).wpIn Fence.wide 0 P Q a w := by
  refine wpIn_rangeFunc fun fn _ => ?_
  obtain ⟨r, hr⟩ : ∃ r : LoopState → Option Code → Loop, r = fun st pe => { state := st, pending := pe, fn, tmps := a.tmps, params := #[p, q], assign, body, defers := w.heap.size } := ⟨_, rfl⟩
  obtain ⟨D, hD⟩ : ∃ D, w.heap.size = D := ⟨_, rfl⟩
  obtain ⟨L, hL⟩ : ∃ L, D + 1 = L := ⟨_, rfl⟩
  obtain ⟨V, hV⟩ : ∃ V, (w.alloc (.deferred (some []))).alloc (.loop (r .ready none)) = V := ⟨_, rfl⟩
  have hbV : Below w.heap.size w V := by
    rw [← hV]
    exact ((Below.refl _ w).alloc (Nat.le_refl _) _).alloc (by simp) _
  have hsV : V.heap.size = L + 1 := by rw [← hV, World.size_alloc, World.size_alloc, hD, hL]
  have hVL : V.heap[L]? = some (.loop (r .ready none)) := by
    have := World.alloc_heap_new (w.alloc (.deferred (some []))) (.loop (r .ready none))
    rwa [World.size_alloc, hD, hL, hV] at this
  have hVD : V.heap[D]? = some (.deferred (some [])) := by
    rw [← hV, Below.heap_alloc _ _ _ (by rw [World.size_alloc, hD]; omega), ← hD]
    exact World.alloc_heap_new w _
  have hrs : ∀ st pe, (r st pe).params = #[p, q] ∧ (r st pe).state = st ∧ (r st pe).fn = fn ∧ (r st pe).tmps = a.tmps ∧ (r st pe).assign = assign ∧ (r st pe).body = body := fun st pe => by rw [hr]; exact ⟨rfl, rfl, rfl, rfl, rfl, rfl⟩
  refine ⟨L, [{ target := .collected D, args := #[] }], V, { target := .fn (.func gf) lb, args := #[.func (.yield L) #[] #[]] }, V, gf, #[.func (.yield L) #[] #[]] ++ lb, V, ?_, ?_, fun _ _ => trivial, ?_, (fun h => absurd h (by decide)), ?_⟩
  · rw [← hV, ← hL, ← hD, hr]
    exact run_enterLoop_outer _ _ _ _ _
  · simp only [resolve, hg]
    simp [go_sem]
  · simp [invoke, go_sem, eg]
  · have own : ∀ {S T : Nat → Prop} {A B : World}, Turns S T A B → D < A.heap.size → L < A.heap.size → Turns (fun k => S k ∨ k = D ∨ k = L) (fun k => T k ∨ k = D ∨ k = L) A B := fun h h1 h2 =>
      ⟨h.os, h.tape, h.output, h.size, fun k hk hn => h.same k hk (fun hs => hn (.inl hs)), fun k hk => hk.elim (fun ht => (h.more k ht).elim (fun x => .inl (.inl x)) .inr) (fun e => .inl (.inr e)),
       fun k hk => hk.elim (h.lt k) (fun e => e.elim (fun e => e ▸ Nat.lt_of_lt_of_le h1 h.size) (fun e => e ▸ Nat.lt_of_lt_of_le h2 h.size))⟩
    have book : ∀ (R : Loop) (M : (Nat → Prop) → List α → World → Prop), Stays M → Stays (fun S s W => M (fun k => S k ∨ k = D ∨ k = L) s W ∧ W.heap[L]? = some (.loop R) ∧ W.heap[D]? = some (.deferred (some [])) ∧ ¬ S L ∧ ¬ S D ∧ ∀ k, S k → k < W.heap.size) := fun R M hM S T s A B h ht => by
      obtain ⟨h1, h2, h3, h4, h5, _⟩ := h
      have l1 := (Array.getElem?_eq_some_iff.1 h2).1
      have l2 := (Array.getElem?_eq_some_iff.1 h3).1
      exact ⟨hM _ _ _ _ _ h1 (own ht l2 l1), (ht.same L l1 h4).trans h2, (ht.same D l2 h5).trans h3, fun hT => (ht.more L hT).elim h4 (fun hge => absurd l1 (Nat.not_lt.2 hge)), fun hT => (ht.more D hT).elim h5 (fun hge => absurd l2 (Nat.not_lt.2 hge)), ht.lt⟩
    refine (hseq V hbV L _ _ (book (r .ready none) I hI) (book (r .done (some .ret)) Ix hIx) (fun S s V h => hIF _ _ _ h.1) ?_ ⟨?_, hVL, hVD, fun h => absurd (hS0 _ h) (by omega), fun h => absurd (hS0 _ h) (by omega), fun k h => Nat.lt_of_lt_of_le (hS0 k h) hbV.size⟩).mono ?_
    · rintro S pre x post W hx ⟨hi, hl, hd, hnl, hnd, hlt⟩
      have lL := (Array.getElem?_eq_some_iff.1 hl).1
      have lD := (Array.getElem?_eq_some_iff.1 hd).1
      have hy := run_yield (P := P) (args := #[enc1 x, enc2 x]) hl (by rw [(hrs _ _).1]; rfl)
      have hbr := run_beginRound (P := P) hl (hrs _ _).2.1
      obtain ⟨q1, _, q3, q4, q5, q6⟩ := hrs .ready none
      rw [q1, q3, q4, q5, q6] at hy
      have hz : ((#[p, q] : Array Tmp).zip #[enc1 x, enc2 x]).foldl (fun tmps (t, a) => tmps.setIfInBounds t a) a.tmps = (a.tmps.setIfInBounds p (enc1 x)).setIfInBounds q (enc2 x) := by simp
      rw [hz] at hy
      have hall : ∀ k, (S k ∨ k = D ∨ k = L) → k < W.heap.size := fun k h => h.elim (hlt k) (fun e => e.elim (fun e => e ▸ lD) (fun e => e ▸ lL))
      refine ⟨fn, _, assign, body, hy, roundIn_of_wpIn trivial ?_⟩
      refine hassign _ x W _ ?_
      refine ⟨_, hbr, ?_⟩
      obtain ⟨A, hA⟩ : ∃ A, W.putObj L (.loop { r .ready none with state := .busy }) = A := ⟨_, rfl⟩
      have hAL : A.heap[L]? = some (.loop { r .ready none with state := .busy }) := by rw [← hA]; exact World.putObj_heap_same lL
      have hAD : A.heap[D]? = some (.deferred (some [])) := by rw [← hA]; exact (World.putObj_heap_other (by omega)).trans hd
      have hAs : A.heap.size = W.heap.size := by rw [← hA]; exact World.putObj_size
      have hAi : I (fun k => S k ∨ k = D ∨ k = L) pre A := hI _ _ _ _ _ hi (by rw [← hA]; exact Turns.putObj hall (.inr (.inr rfl)) _)
      have hAo : ∀ k, k ≠ L → A.heap[k]? = W.heap[k]? := fun k hk => by rw [← hA]; exact World.putObj_heap_other hk
      rw [hA]
      refine wpIn_mono (hbody L _ pre x post A hx (fun k h => by rw [hAs]; exact hall k h) hAi) ?_
      have fin : ∀ (jump : Option Code) (B : World), Spares (fun k => S k ∨ k = D ∨ k = L) A B → (Instr.endRound L jump).run P B = .ok (.bool jump.isNone) (B.putObj L (.loop (r (if jump.isNone then .ready else .done) jump))) ∧ Spares S W (B.putObj L (.loop (r (if jump.isNone then .ready else .done) jump))) ∧ Turns (fun k => S k ∨ k = D ∨ k = L) (fun k => S k ∨ k = D ∨ k = L) B (B.putObj L (.loop (r (if jump.isNone then .ready else .done) jump))) ∧ (B.putObj L (.loop (r (if jump.isNone then .ready else .done) jump))).heap[L]? = some (.loop (r (if jump.isNone then .ready else .done) jump)) ∧ (B.putObj L (.loop (r (if jump.isNone then .ready else .done) jump))).heap[D]? = some (.deferred (some [])) ∧ W.heap.size ≤ (B.putObj L (.loop (r (if jump.isNone then .ready else .done) jump))).heap.size := fun jump B hk => by
        have hBL := (hk.same L (.inr (.inr rfl))).trans hAL
        have hBD := (hk.same D (.inr (.inl rfl))).trans hAD
        have e := run_endRound (P := P) jump hBL
        have hsz : W.heap.size ≤ B.heap.size := hAs ▸ hk.size
        refine ⟨?_, ⟨?_, fun k h => ?_⟩, Turns.putObj (fun k h => Nat.lt_of_lt_of_le (hall k h) hsz) (.inr (.inr rfl)) _, World.putObj_heap_same (Array.getElem?_eq_some_iff.1 hBL).1, (World.putObj_heap_other (by omega)).trans hBD, ?_⟩
        · rw [e, hr]
        · rw [World.putObj_size]; exact hsz
        · have hkL : k ≠ L := fun e => hnl (e ▸ h)
          exact ((World.putObj_heap_other hkL).trans (hk.same k (.inl h))).trans (hAo k hkL)
        · rw [World.putObj_size]; exact hsz
      rintro e b B hp
      cases e with
      | normal =>
        obtain ⟨hk, hi2⟩ := hp
        obtain ⟨f1, f2, f3, f4, f5, f6⟩ := fin none B hk
        exact ⟨_, _, f1, f2, .inl ⟨rfl, hI _ _ _ _ _ hi2 f3, f4, f5, hnl, hnd, fun k h => Nat.lt_of_lt_of_le (hlt k h) f6⟩⟩
      | ret =>
        obtain ⟨hk, hi2⟩ := hp
        obtain ⟨f1, f2, f3, f4, f5, f6⟩ := fin (some .ret) B hk
        exact ⟨_, _, f1, f2, .inr ⟨rfl, hIx _ _ _ _ _ hi2 f3, f4, f5, hnl, hnd, fun k h => Nat.lt_of_lt_of_le (hlt k h) f6⟩⟩
      | exit id => exact hp.elim
      | goto t => exact hp.elim
      | panic ch => exact hp.elim
      | outgrown => exact hp.elim
    · refine hI S0 _ [] w V h0 ⟨hbV.os, hbV.tape, hbV.output, hbV.size, fun k hk _ => hbV.block k hk, fun k h => h.elim .inl (fun e => .inr (by omega)), fun k h => h.elim (fun h => Nat.lt_of_lt_of_le (hS0 k h) hbV.size) (fun e => by omega)⟩
    · rintro e B ⟨⟨v, rfl⟩, S, ⟨hi, hl, hd, _, _, hlt⟩ | ⟨pre, hi, hl, hd, _, _, hlt⟩⟩
      · have lL := (Array.getElem?_eq_some_iff.1 hl).1
        have lD := (Array.getElem?_eq_some_iff.1 hd).1
        have hall : ∀ k, (S k ∨ k = D ∨ k = L) → k < B.heap.size := fun k h => h.elim (hlt k) (fun e => e.elim (fun e => e ▸ lD) (fun e => e ▸ lL))
        have e := run_endLoop (P := P) hl (by rw [(hrs _ _).2.1]; intro h; cases h)
        rw [hr] at e
        refine ⟨none, _, e, hdone D _ _ (fun k h => by rw [World.putObj_size]; exact hall k h) (.inr (.inl rfl)) (hI _ _ _ _ _ hi (Turns.putObj hall (.inr (.inr rfl)) _)) ((World.putObj_heap_other (by omega)).trans hd)⟩
      · have lL := (Array.getElem?_eq_some_iff.1 hl).1
        have lD := (Array.getElem?_eq_some_iff.1 hd).1
        have hall : ∀ k, (S k ∨ k = D ∨ k = L) → k < B.heap.size := fun k h => h.elim (hlt k) (fun e => e.elim (fun e => e ▸ lD) (fun e => e ▸ lL))
        have e := run_endLoop (P := P) hl (by rw [(hrs _ _).2.1]; intro h; cases h)
        rw [hr] at e
        refine ⟨some .ret, _, e, hstop D _ pre _ (fun k h => by rw [World.putObj_size]; exact hall k h) (.inr (.inl rfl)) (hIx _ _ _ _ _ hi (Turns.putObj hall (.inr (.inr rfl)) _)) ((World.putObj_heap_other (by omega)).trans hd)⟩
/-- A block with one variable. -/
def Bx (W : World) (B : Nat) (t : TypeId) (v : Value) : Prop := W.heap[B]? = some (.cells #[v] t (0, 0))
section
variable {W W' : World} {B : Nat} {t : TypeId} {v : Value}
theorem Bx.lt (h : Bx W B t v) : B < W.heap.size := (Array.getElem?_eq_some_iff.1 h).1
theorem Bx.cell (h : Bx W B t v) : W.cell? ⟨B, 0, none⟩ = some v := by simp [World.cell?, show W.heap[B]? = _ from h]
theorem Bx.frozen (h : Bx W B t v) : W.frozen? ⟨B, 0, none⟩ = false := by simp [World.frozen?, show W.heap[B]? = _ from h]
theorem Bx.new (W : World) (t : TypeId) (v : Value) : Bx (W.alloc (.cells #[v] t)) W.heap.size t v := World.alloc_heap_new W _
theorem Bx.below (h : Bx W B t v) (hb : Below W.heap.size W W') : Bx W' B t v := (hb.block B h.lt).trans h
theorem Bx.alloc (h : Bx W B t v) (o : Obj) : Bx (W.alloc o) B t v := (Below.heap_alloc W o B h.lt).trans h
theorem Bx.spared (h : Bx W B t v) {S : Nat → Prop} (hs : Spares S W W') (hB : S B) : Bx W' B t v := (hs.same B hB).trans h
theorem Bx.turned (h : Bx W B t v) {S T : Nat → Prop} (ht : Turns S T W W') (hB : ¬ S B) : Bx W' B t v := (ht.same B h.lt hB).trans h
theorem Bx.other (h : Bx W B t v) {p : Addr} (hp : p.block ≠ B) (u : Value) : Bx (W.setCell p u) B t v := (Below.heap_setCell W p u B (fun e => hp e.symm)).trans h
theorem Bx.set (h : Bx W B t v) (u : Value) : Bx (W.setCell ⟨B, 0, none⟩ u) B t u := by
  unfold Bx World.setCell
  obtain ⟨hl, he⟩ := Array.getElem?_eq_some_iff.1 h
  rw [Array.getElem?_modify, if_pos rfl, h]
  rfl
end
end Go.Proofs.YthmklmilgcjmlaaDoor
/- slices.Backward: what it deals. -/
namespace Go.Proofs.YthmklmilgcjmlaaDoor
open Go.RowKit
attribute [local go_sem] Oper.semAt_some

def iC (k : Nat) : Value := .int .i64 (k : Int)
theorem rev_take {n m : Nat} (hm : m < n) : (List.range n).reverse = (List.range n).reverse.take (n - 1 - m) ++ m :: (List.range m).reverse := by
  have e : (List.range n).reverse.drop (n - 1 - m) = m :: (List.range m).reverse := by
    apply List.ext_getElem
    · simp; omega
    · intro j h1 h2
      simp only [List.getElem_drop, List.getElem_reverse, List.getElem_range, List.length_range]
      cases j with
      | zero => simp; omega
      | succ j =>
        simp only [List.getElem_cons_succ, List.getElem_reverse, List.getElem_range, List.length_range]
        simp only [List.length_drop, List.length_reverse, List.length_range] at h1
        omega
  rw [← e, List.take_append_drop]
theorem rev_take_succ {n m : Nat} (hm : m < n) : (List.range n).reverse.take (n - 1 - m) ++ [m] = (List.range n).reverse.take (n - m) := by
  have hl : n - 1 - m < (List.range n).reverse.length := by simp; omega
  have h := List.take_succ_eq_append_getElem hl
  rw [show n - m = n - 1 - m + 1 by omega, h]
  congr 2
  simp
  omega
set_option maxRecDepth 100000 in
set_option maxHeartbeats 2000000 in
theorem backN_deals (A : Option Addr) (c : Nat) (js : List Nat) (n B : Nat) (S0 : Nat → Prop) (hs : S0 B) (W : World) (hS0 : ∀ k, S0 k → k < W.heap.size) (hn : js.length = n) (hl : n ≤ 1000000) (hB : Bx W B 30 (.slice A n c)) :
    Deals2 Tryd.prog 39 #[.pointer (some ⟨B, 0, none⟩)] iC (fun k => iC (js.getD k 0)) (List.range n).reverse S0 (fun V => Rd V A (js.map intC)) W := by
  intro L J Jx hJ hJx hF hY h0
  refine callsIn_of_wp Tryd.func39 rfl trivial ?_ rfl
  simp only [Tryd.ntmps39, List.size_toArray, List.length_cons, List.length_nil, Nat.reduceAdd, Nat.reduceSub, Array.replicate_succ, Array.replicate_zero, List.push_toArray, List.append_toArray, List.nil_append, List.cons_append]
  have HB := Lib.hid (And.intro hB (And.intro h0 hS0))
  have HY := Lib.hid hY
  have HF := Lib.hid hF
  have kB := hB.cell
  clear hB h0 hY hS0 hF
  gi_wp2
  gi_loopw [3] (fun iv wr => ∃ (m : Nat) (S : Nat → Prop), iv = .int .i64 ((m : Int) - 1) ∧ m ≤ n ∧ S B ∧ (∀ k, S k → k < wr.heap.size) ∧ Bx wr B 30 (.slice A n c) ∧ J S ((List.range n).reverse.take (n - m)) wr) (fun iv _ => (intOf iv + 1).toNat)
  case atStart => exact ⟨n, S0, rfl, Nat.le_refl _, hs, HB.out.2.2, HB.out.1, by rw [Nat.sub_self]; exact HB.out.2.1⟩
  case round =>
    obtain ⟨m, S, rfl, hm, i1, hlt, x1, hj⟩ := hrel
    have HX := Lib.hid (And.intro i1 (And.intro hlt (And.intro x1 hj)))
    rcases Nat.eq_zero_or_pos m with rfl | hpos
    · have e1 : ((0 : Nat) : Int) - 1 = -1 := rfl
      rw [e1]
      have htk : (List.range n).reverse.take (n - 0) = (List.range n).reverse := List.take_of_length_le (by simp)
      rw [htk] at HX
      clear i1 hlt x1 hj
      gi_wp2_with fail
      go_end0
      exact ⟨⟨_, rfl⟩, S, .inl HX.out.2.2.2⟩
    · obtain ⟨k, rfl⟩ : ∃ k, m = k + 1 := ⟨m - 1, by omega⟩
      have e1 : ((k + 1 : Nat) : Int) - 1 = k := by omega
      rw [e1]
      have hkn : k < n := by omega
      have hkj : k < js.length := by omega
      obtain ⟨fn, tmps, assign, body, hy, hR⟩ := HY.out S _ k _ wr (rev_take hkn) (by rw [show n - 1 - k = n - (k + 1) by omega]; exact hj)
      rw [rev_take_succ hkn] at hR
      have HR := Lib.hid hR
      obtain ⟨ad, hA, hc⟩ := (HF.out _ _ _ hj).at_ (k := k) (by rw [List.length_map]; exact hkj)
      subst hA
      rw [List.getElem_map] at hc
      have hgd : js.getD k 0 = js[k] := by rw [List.getD_eq_getElem?_getD, List.getElem?_eq_getElem hkj]; rfl
      rw [hgd] at hy
      obtain ⟨t, ht⟩ : ∃ t, js[k] = t := ⟨_, rfl⟩
      rw [ht] at hc hy
      unfold intC at hc
      unfold iC at hy
      have k2 := x1.cell
      have q0 : (0 : Int) ≤ k := by omega
      have q1 : (k : Int) < n := by omega
      clear i1 hlt x1 hj hR hgd ht
      gi_wp2_with fail
      refine ⟨rfl, HR.out.mono ?_⟩
      rintro e w' ⟨hsp, ⟨rfl, hj⟩ | ⟨rfl, hj⟩⟩
      · have HJ := Lib.hid (And.intro hj hsp)
        clear hj hsp
        gi_wp2_with fail
        refine ⟨⟨k, S, by go_num, by omega, HX.out.1, fun i hi => Nat.lt_of_lt_of_le (HX.out.2.1 i hi) HJ.out.2.size, HX.out.2.2.1.spared HJ.out.2 HX.out.1, HJ.out.1⟩, by simp [intOf]⟩
      · have HJ := Lib.hid hj
        clear hj hsp
        gi_wp2_with fail
        refine bodyPost_ret (results_none rfl _ _ _) rfl ?_
        exact ⟨⟨_, rfl⟩, S, .inr ⟨_, HJ.out⟩⟩
set_option maxRecDepth 100000 in
theorem backN_any (A : Option Addr) (m c : Nat) (w : World) : Calls Tryd.prog 31 #[.slice A m c] w fun e w' => e = .returned (.func (.func 39) #[] #[.pointer (some ⟨w.heap.size, 0, none⟩)]) ∧ Below w.heap.size w w' ∧ Bx w' w.heap.size 30 (.slice A m c) := by
  have h1 := (Below.refl w.heap.size w).alloc (Nat.le_refl _) (.cells #[.slice A m c] 30)
  have h2 := Bx.new w 30 (.slice A m c)
  have HB := Lib.hid (And.intro h1 h2)
  clear h1 h2
  go_enter Tryd.func31, Tryd.ntmps31
  go_wp2_with fail
  go_ret
  exact ⟨rfl, HB.out⟩
theorem rev_pos {n : Nat} {pre post : List Nat} {x : Nat} (h : (List.range n).reverse = pre ++ x :: post) : x < n ∧ n - pre.length = x + 1 ∧ n - (pre ++ [x]).length = x := by
  have hl := congrArg List.length h
  simp only [List.length_reverse, List.length_range, List.length_append, List.length_cons] at hl
  have hx : (List.range n).reverse[pre.length]? = some x := by rw [h]; simp
  rw [List.getElem?_reverse (by simp; omega), List.length_range, List.getElem?_range (by omega)] at hx
  injection hx with hx
  rw [List.length_append, List.length_singleton]
  omega
end Go.Proofs.YthmklmilgcjmlaaDoor

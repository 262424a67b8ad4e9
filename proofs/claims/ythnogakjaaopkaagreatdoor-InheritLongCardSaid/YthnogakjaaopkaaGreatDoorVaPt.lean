/- VaItr, VaIt2, VaSq, VaJo, VaPa, VaLs, in one text. -/
import Derived.RangeFuncRecord
import Derived.RangeFuncSeq
import Derived.ControlIn
import Derived.Test.YthnogakjaaopkaaGreatDoorBase
import Derived.Test.YthnogakjaaopkaaGreatDoorVaLb
import Derived.RangeFuncCalls
import Derived.RangeFuncLeaves
import Derived.Shelf.Abstract
import Derived.OwnWalkIn
import Derived.TacticsInMore
import Derived.LoopNIn
import Derived.LoopIn
import Derived.Shelf.RegionOpen
import Derived.Maps.OwnIn
/- Loops over an iterator that keeps blocks of its own (a variable that it has captured and writes; the record of a loop within it). The iterator's own blocks are a set S that grows; a round leaves them as they lay, the iterator leaves all others. Plain theorems; no statement of the seat is proved here. -/
namespace Go.Proofs.YthnogakjaaopkaaGreatDoor
open Go.RowKit

/-- From W to W' only blocks of S were written; T are the iterator's blocks behind that. -/
structure Turns (S T : Nat → Prop) (W W' : World) : Prop where
  os : W'.os = W.os
  tape : W'.tape = W.tape
  output : W'.output = W.output
  size : W.heap.size ≤ W'.heap.size
  same : ∀ k, k < W.heap.size → ¬ S k → W'.heap[k]? = W.heap[k]?
  more : ∀ k, T k → S k ∨ W.heap.size ≤ k
  lt : ∀ k, T k → k < W'.heap.size
/-- What the iterator's steps leave true. -/
def Stays {α : Type} (J : (Nat → Prop) → List α → World → Prop) : Prop := ∀ S T s W W', J S s W → Turns S T W W' → J T s W'
/-- A round's word to the iterator. -/
structure Spares (S : Nat → Prop) (W W' : World) : Prop where
  size : W.heap.size ≤ W'.heap.size
  same : ∀ k, S k → W'.heap[k]? = W.heap[k]?
/-- The value deals xs out, one by one, unless a round says no. -/
def Deals {α : Type} (P : Program) (g : Nat) (lb : Array Value) (enc : α → Value) (xs : List α) (S0 : Nat → Prop) (W : World) : Prop :=
  ∀ (l : Nat) (J Jx : (Nat → Prop) → List α → World → Prop), Stays J → Stays Jx →
    (∀ S pre x post W1, xs = pre ++ x :: post → J S pre W1 → YieldAt Fence.wide 0 P l #[enc x] W1 fun e W' =>
      Spares S W1 W' ∧ ((e = .returned (.bool true) ∧ J S (pre ++ [x]) W') ∨ (e = .returned (.bool false) ∧ Jx S (pre ++ [x]) W'))) →
    J S0 [] W → CallsIn Fence.wide 0 P g (#[.func (.yield l) #[] #[]] ++ lb) W fun e W' => (∃ v, e = .returned v) ∧ ∃ S, J S xs W' ∨ ∃ pre, Jx S pre W'
section
variable {S T U : Nat → Prop} {W W' W'' : World}
theorem Turns.trans (h : Turns S T W W') (k : Turns T U W' W'') : Turns S U W W'' :=
  ⟨k.os.trans h.os, k.tape.trans h.tape, k.output.trans h.output, Nat.le_trans h.size k.size, fun i hi hs => (k.same i (Nat.lt_of_lt_of_le hi h.size) (fun ht => (h.more i ht).elim hs (fun hge => absurd hi (Nat.not_lt.2 hge)))).trans (h.same i hi hs),
   fun i hu => (k.more i hu).elim (h.more i) (fun hge => .inr (Nat.le_trans h.size hge)), k.lt⟩
theorem Turns.putObj (hS : ∀ k, S k → k < W.heap.size) {l : Nat} (h : S l) (o : Obj) : Turns S S W (W.putObj l o) :=
  ⟨rfl, rfl, rfl, by simp, fun _ _ hn => World.putObj_heap_other (fun e => hn (e ▸ h)), fun _ h => .inl h, fun k h => by rw [World.putObj_size]; exact hS k h⟩
theorem Turns.below (hS : ∀ k, S k → k < W.heap.size) (hb : Below W.heap.size W W') : Turns S S W W' :=
  ⟨hb.os, hb.tape, hb.output, hb.size, fun k hk _ => hb.block k hk, fun _ h => .inl h, fun k h => Nat.lt_of_lt_of_le (hS k h) hb.size⟩
theorem Turns.newer (hS : ∀ k, S k → k < W.heap.size) (hb : Below W.heap.size W W') : Turns S (fun k => S k ∨ (W.heap.size ≤ k ∧ k < W'.heap.size)) W W' :=
  ⟨hb.os, hb.tape, hb.output, hb.size, fun k hk _ => hb.block k hk, fun _ h => h.elim .inl (fun h => .inr h.1), fun k h => h.elim (fun h => Nat.lt_of_lt_of_le (hS k h) hb.size) (fun h => h.2)⟩
theorem Turns.setCell (hS : ∀ k, S k → k < W.heap.size) {p : Addr} (h : S p.block) (v : Value) : Turns S S W (W.setCell p v) :=
  ⟨rfl, rfl, rfl, by simp [World.setCell], fun k _ hn => Below.heap_setCell W p v k (fun e => hn (e ▸ h)), fun _ h => .inl h, fun k h => by have := hS k h; simpa [World.setCell] using this⟩
theorem Spares.trans (h : Spares S W W') (k : Spares S W' W'') : Spares S W W'' := ⟨Nat.le_trans h.size k.size, fun i hi => (k.same i hi).trans (h.same i hi)⟩
theorem Spares.below (hS : ∀ k, S k → k < W.heap.size) (hb : Below W.heap.size W W') : Spares S W W' := ⟨hb.size, fun k h => hb.block k (hS k h)⟩
theorem Spares.setCell {p : Addr} (h : ¬ S p.block) (v : Value) : Spares S W (W.setCell p v) :=
  ⟨by simp [World.setCell], fun k hk => Below.heap_setCell W p v k (fun e => h (e ▸ hk))⟩
theorem Spares.sub (h : Spares T W W') (hs : ∀ k, S k → T k) : Spares S W W' := ⟨h.size, fun k hk => h.same k (hs k hk)⟩
theorem Spares.cell (h : Spares S W W') {p : Addr} (hp : S p.block) : W'.cell? p = W.cell? p := World.cell?_of_block (h.same _ hp)
theorem Spares.grown {row : Option Nat} (hg : W.grownBy W' row) (hS : ∀ k, S k → k < W.heap.size) (hr : ∀ k, row = some k → ¬ S k) : Spares S W W' :=
  ⟨hg.size, fun k hk => hg.block k (hS k hk) (fun e => hr k e.symm hk)⟩
end
/-- How a round may be left. -/
def roundEnds {α : Type} (I Ix : (Nat → Prop) → List α → World → Prop) (S : Nat → Prop) (xs : List α) (W : World) : Exit → Act → World → Prop
  | .normal, _, W' => Spares S W W' ∧ I S xs W'
  | .ret, _, W' => Spares S W W' ∧ Ix S xs W'
  | _, _, _ => False
theorem wpIn_deals {α : Type} {P : Program} {g : Operand} {p : Tmp} {assign body : Code} {Q : Exit → Act → World → Prop} {a : Act} {w : World} {gf : Nat} {lb : Array Value}
    (hg : a.eval g = .func (.func gf) #[] lb) (eg : ∀ args w, (callFunc gf args).run P w = .ok (.enter gf args) w)
    {enc : α → Value} {xs : List α} {S0 : Nat → Prop} (hS0 : ∀ k, S0 k → k < w.heap.size) (hseq : ∀ W, Below w.heap.size w W → Deals P gf lb enc xs S0 W)
    (I Ix : (Nat → Prop) → List α → World → Prop) (hI : Stays I) (hIx : Stays Ix) (h0 : I S0 [] w) (a₁ : α → Act)
    (hassign : ∀ (l : Nat) (x : α) (W : World) (K : Act → World → Prop), K (a₁ x) W →
      assign.wpIn (Fence.wide.inRound l) 0 P (Exit.then K (fun _ _ _ => False)) { tmps := a.tmps.setIfInBounds p (enc x), defers := [] } W)
    (hbody : ∀ (l : Nat) (S : Nat → Prop) (pre : List α) (x : α) (post : List α) (W : World), xs = pre ++ x :: post → (∀ k, S k → k < W.heap.size) → I S pre W →
      body.wpIn (Fence.wide.inRound l) 0 P (roundEnds I Ix S (pre ++ [x]) W) (a₁ x) W)
    (hdone : ∀ (D : Nat) (S : Nat → Prop) (W : World), (∀ k, S k → k < W.heap.size) → S D → I S xs W → W.heap[D]? = some (.deferred (some [])) →
      Q .normal { a with defers := { target := .collected D, args := #[] } :: a.defers } W)
    (hstop : ∀ (D : Nat) (S : Nat → Prop) (pre : List α) (W : World), (∀ k, S k → k < W.heap.size) → S D → Ix S pre W → W.heap[D]? = some (.deferred (some [])) →
      Code.ret.wpIn Fence.wide 0 P Q { a with defers := { target := .collected D, args := #[] } :: a.defers } W) :
    (Code.rangeFunc g #[p] assign body).wpIn Fence.wide 0 P Q a w := by
  refine wpIn_rangeFunc fun fn _ => ?_
  obtain ⟨r, hr⟩ : ∃ r : LoopState → Option Code → Loop, r = fun st pe => { state := st, pending := pe, fn, tmps := a.tmps, params := #[p], assign, body, defers := w.heap.size } := ⟨_, rfl⟩
  obtain ⟨D, hD⟩ : ∃ D, w.heap.size = D := ⟨_, rfl⟩
  obtain ⟨L, hL⟩ : ∃ L, D + 1 = L := ⟨_, rfl⟩
  obtain ⟨V, hV⟩ : ∃ V, (w.alloc (.deferred (some []))).alloc (.loop (r .ready none)) = V := ⟨_, rfl⟩
  have hbV : Below w.heap.size w V := by
    rw [← hV]
    exact ((Below.refl _ w).alloc (Nat.le_refl _) _).alloc (by simp) _
  have hsV : V.heap.size = L + 1 := by rw [← hV, World.size_alloc, World.size_alloc, hD, hL]
  have hVL : V.heap[L]? = some (.loop (r .ready none)) := by
    have := World.alloc_heap_new (w.alloc (.deferred (some []))) (.loop (r .ready none))
    rwa [World.size_alloc, hD, hL, hV] at this
  have hVD : V.heap[D]? = some (.deferred (some [])) := by
    rw [← hV, Below.heap_alloc _ _ _ (by rw [World.size_alloc, hD]; omega), ← hD]
    exact World.alloc_heap_new w _
  have hrs : ∀ st pe, (r st pe).params = #[p] ∧ (r st pe).state = st ∧ (r st pe).fn = fn ∧ (r st pe).tmps = a.tmps ∧ (r st pe).assign = assign ∧ (r st pe).body = body := fun st pe => by rw [hr]; exact ⟨rfl, rfl, rfl, rfl, rfl, rfl⟩
  refine ⟨L, [{ target := .collected D, args := #[] }], V, { target := .fn (.func gf) lb, args := #[.func (.yield L) #[] #[]] }, V, gf, #[.func (.yield L) #[] #[]] ++ lb, V, ?_, ?_, fun _ _ => trivial, ?_, (fun h => absurd h (by decide)), ?_⟩
  · rw [← hV, ← hL, ← hD, hr]
    exact run_enterLoop_outer _ _ _ _ _
  · simp only [resolve, hg]
    simp [go_sem]
  · simp [invoke, go_sem, eg]
  · have own : ∀ {S T : Nat → Prop} {A B : World}, Turns S T A B → D < A.heap.size → L < A.heap.size → Turns (fun k => S k ∨ k = D ∨ k = L) (fun k => T k ∨ k = D ∨ k = L) A B := fun h h1 h2 =>
      ⟨h.os, h.tape, h.output, h.size, fun k hk hn => h.same k hk (fun hs => hn (.inl hs)), fun k hk => hk.elim (fun ht => (h.more k ht).elim (fun x => .inl (.inl x)) .inr) (fun e => .inl (.inr e)),
       fun k hk => hk.elim (h.lt k) (fun e => e.elim (fun e => e ▸ Nat.lt_of_lt_of_le h1 h.size) (fun e => e ▸ Nat.lt_of_lt_of_le h2 h.size))⟩
    have book : ∀ (R : Loop) (M : (Nat → Prop) → List α → World → Prop), Stays M → Stays (fun S s W => M (fun k => S k ∨ k = D ∨ k = L) s W ∧ W.heap[L]? = some (.loop R) ∧ W.heap[D]? = some (.deferred (some [])) ∧ ¬ S L ∧ ¬ S D ∧ ∀ k, S k → k < W.heap.size) := fun R M hM S T s A B h ht => by
      obtain ⟨h1, h2, h3, h4, h5, _⟩ := h
      have l1 := (Array.getElem?_eq_some_iff.1 h2).1
      have l2 := (Array.getElem?_eq_some_iff.1 h3).1
      exact ⟨hM _ _ _ _ _ h1 (own ht l2 l1), (ht.same L l1 h4).trans h2, (ht.same D l2 h5).trans h3, fun hT => (ht.more L hT).elim h4 (fun hge => absurd l1 (Nat.not_lt.2 hge)), fun hT => (ht.more D hT).elim h5 (fun hge => absurd l2 (Nat.not_lt.2 hge)), ht.lt⟩
    refine (hseq V hbV L _ _ (book (r .ready none) I hI) (book (r .done (some .ret)) Ix hIx) ?_ ⟨?_, hVL, hVD, fun h => absurd (hS0 _ h) (by omega), fun h => absurd (hS0 _ h) (by omega), fun k h => Nat.lt_of_lt_of_le (hS0 k h) hbV.size⟩).mono ?_
    · rintro S pre x post W hx ⟨hi, hl, hd, hnl, hnd, hlt⟩
      have lL := (Array.getElem?_eq_some_iff.1 hl).1
      have lD := (Array.getElem?_eq_some_iff.1 hd).1
      have hy := run_yield (P := P) (args := #[enc x]) hl (by rw [(hrs _ _).1]; rfl)
      have hbr := run_beginRound (P := P) hl (hrs _ _).2.1
      obtain ⟨q1, _, q3, q4, q5, q6⟩ := hrs .ready none
      rw [q1, q3, q4, q5, q6] at hy
      have hz : ((#[p] : Array Tmp).zip #[enc x]).foldl (fun tmps (t, a) => tmps.setIfInBounds t a) a.tmps = a.tmps.setIfInBounds p (enc x) := by simp
      rw [hz] at hy
      have hall : ∀ k, (S k ∨ k = D ∨ k = L) → k < W.heap.size := fun k h => h.elim (hlt k) (fun e => e.elim (fun e => e ▸ lD) (fun e => e ▸ lL))
      refine ⟨fn, _, assign, body, hy, roundIn_of_wpIn trivial ?_⟩
      refine hassign _ x W _ ?_
      refine ⟨_, hbr, ?_⟩
      obtain ⟨A, hA⟩ : ∃ A, W.putObj L (.loop { r .ready none with state := .busy }) = A := ⟨_, rfl⟩
      have hAL : A.heap[L]? = some (.loop { r .ready none with state := .busy }) := by rw [← hA]; exact World.putObj_heap_same lL
      have hAD : A.heap[D]? = some (.deferred (some [])) := by rw [← hA]; exact (World.putObj_heap_other (by omega)).trans hd
      have hAs : A.heap.size = W.heap.size := by rw [← hA]; exact World.putObj_size
      have hAi : I (fun k => S k ∨ k = D ∨ k = L) pre A := hI _ _ _ _ _ hi (by rw [← hA]; exact Turns.putObj hall (.inr (.inr rfl)) _)
      have hAo : ∀ k, k ≠ L → A.heap[k]? = W.heap[k]? := fun k hk => by rw [← hA]; exact World.putObj_heap_other hk
      rw [hA]
      refine wpIn_mono (hbody L _ pre x post A hx (fun k h => by rw [hAs]; exact hall k h) hAi) ?_
      have fin : ∀ (jump : Option Code) (B : World), Spares (fun k => S k ∨ k = D ∨ k = L) A B → (Instr.endRound L jump).run P B = .ok (.bool jump.isNone) (B.putObj L (.loop (r (if jump.isNone then .ready else .done) jump))) ∧ Spares S W (B.putObj L (.loop (r (if jump.isNone then .ready else .done) jump))) ∧ Turns (fun k => S k ∨ k = D ∨ k = L) (fun k => S k ∨ k = D ∨ k = L) B (B.putObj L (.loop (r (if jump.isNone then .ready else .done) jump))) ∧ (B.putObj L (.loop (r (if jump.isNone then .ready else .done) jump))).heap[L]? = some (.loop (r (if jump.isNone then .ready else .done) jump)) ∧ (B.putObj L (.loop (r (if jump.isNone then .ready else .done) jump))).heap[D]? = some (.deferred (some [])) ∧ W.heap.size ≤ (B.putObj L (.loop (r (if jump.isNone then .ready else .done) jump))).heap.size := fun jump B hk => by
        have hBL := (hk.same L (.inr (.inr rfl))).trans hAL
        have hBD := (hk.same D (.inr (.inl rfl))).trans hAD
        have e := run_endRound (P := P) jump hBL
        have hsz : W.heap.size ≤ B.heap.size := hAs ▸ hk.size
        refine ⟨?_, ⟨?_, fun k h => ?_⟩, Turns.putObj (fun k h => Nat.lt_of_lt_of_le (hall k h) hsz) (.inr (.inr rfl)) _, World.putObj_heap_same (Array.getElem?_eq_some_iff.1 hBL).1, (World.putObj_heap_other (by omega)).trans hBD, ?_⟩
        · rw [e, hr]
        · rw [World.putObj_size]; exact hsz
        · have hkL : k ≠ L := fun e => hnl (e ▸ h)
          exact ((World.putObj_heap_other hkL).trans (hk.same k (.inl h))).trans (hAo k hkL)
        · rw [World.putObj_size]; exact hsz
      rintro e b B hp
      cases e with
      | normal =>
        obtain ⟨hk, hi2⟩ := hp
        obtain ⟨f1, f2, f3, f4, f5, f6⟩ := fin none B hk
        exact ⟨_, _, f1, f2, .inl ⟨rfl, hI _ _ _ _ _ hi2 f3, f4, f5, hnl, hnd, fun k h => Nat.lt_of_lt_of_le (hlt k h) f6⟩⟩
      | ret =>
        obtain ⟨hk, hi2⟩ := hp
        obtain ⟨f1, f2, f3, f4, f5, f6⟩ := fin (some .ret) B hk
        exact ⟨_, _, f1, f2, .inr ⟨rfl, hIx _ _ _ _ _ hi2 f3, f4, f5, hnl, hnd, fun k h => Nat.lt_of_lt_of_le (hlt k h) f6⟩⟩
      | exit id => exact hp.elim
      | goto t => exact hp.elim
      | panic ch => exact hp.elim
      | outgrown => exact hp.elim
    · refine hI S0 _ [] w V h0 ⟨hbV.os, hbV.tape, hbV.output, hbV.size, fun k hk _ => hbV.block k hk, fun k h => h.elim .inl (fun e => .inr (by omega)), fun k h => h.elim (fun h => Nat.lt_of_lt_of_le (hS0 k h) hbV.size) (fun e => by omega)⟩
    · rintro e B ⟨⟨v, rfl⟩, S, ⟨hi, hl, hd, _, _, hlt⟩ | ⟨pre, hi, hl, hd, _, _, hlt⟩⟩
      · have lL := (Array.getElem?_eq_some_iff.1 hl).1
        have lD := (Array.getElem?_eq_some_iff.1 hd).1
        have hall : ∀ k, (S k ∨ k = D ∨ k = L) → k < B.heap.size := fun k h => h.elim (hlt k) (fun e => e.elim (fun e => e ▸ lD) (fun e => e ▸ lL))
        have e := run_endLoop (P := P) hl (by rw [(hrs _ _).2.1]; intro h; cases h)
        rw [hr] at e
        refine ⟨none, _, e, hdone D _ _ (fun k h => by rw [World.putObj_size]; exact hall k h) (.inr (.inl rfl)) (hI _ _ _ _ _ hi (Turns.putObj hall (.inr (.inr rfl)) _)) ((World.putObj_heap_other (by omega)).trans hd)⟩
      · have lL := (Array.getElem?_eq_some_iff.1 hl).1
        have lD := (Array.getElem?_eq_some_iff.1 hd).1
        have hall : ∀ k, (S k ∨ k = D ∨ k = L) → k < B.heap.size := fun k h => h.elim (hlt k) (fun e => e.elim (fun e => e ▸ lD) (fun e => e ▸ lL))
        have e := run_endLoop (P := P) hl (by rw [(hrs _ _).2.1]; intro h; cases h)
        rw [hr] at e
        refine ⟨some .ret, _, e, hstop D _ pre _ (fun k h => by rw [World.putObj_size]; exact hall k h) (.inr (.inl rfl)) (hIx _ _ _ _ _ hi (Turns.putObj hall (.inr (.inr rfl)) _)) ((World.putObj_heap_other (by omega)).trans hd)⟩
end Go.Proofs.YthnogakjaaopkaaGreatDoor
/- Loops over an iterator that deals pairs (a place and what stands there); see VaItr. Plain theorems. -/
namespace Go.Proofs.YthnogakjaaopkaaGreatDoor
open Go.RowKit

/-- The value deals xs out, one by one, unless a round says no. -/
def Deals2 {α : Type} (P : Program) (g : Nat) (lb : Array Value) (enc1 enc2 : α → Value) (xs : List α) (S0 : Nat → Prop) (F : World → Prop) (W : World) : Prop :=
  ∀ (l : Nat) (J Jx : (Nat → Prop) → List α → World → Prop), Stays J → Stays Jx → (∀ S s V, J S s V → F V) →
    (∀ S pre x post W1, xs = pre ++ x :: post → J S pre W1 → YieldAt Fence.wide 0 P l #[enc1 x, enc2 x] W1 fun e W' =>
      Spares S W1 W' ∧ ((e = .returned (.bool true) ∧ J S (pre ++ [x]) W') ∨ (e = .returned (.bool false) ∧ Jx S (pre ++ [x]) W'))) →
    J S0 [] W → CallsIn Fence.wide 0 P g (#[.func (.yield l) #[] #[]] ++ lb) W fun e W' => (∃ v, e = .returned v) ∧ ∃ S, J S xs W' ∨ ∃ pre, Jx S pre W'
theorem wpIn_deals2 {α : Type} {P : Program} {g : Operand} {p q : Tmp} {assign body : Code} {Q : Exit → Act → World → Prop} {a : Act} {w : World} {gf : Nat} {lb : Array Value}
    (hg : a.eval g = .func (.func gf) #[] lb) (eg : ∀ args w, (callFunc gf args).run P w = .ok (.enter gf args) w)
    {enc1 enc2 : α → Value} {xs : List α} {S0 : Nat → Prop} {F : World → Prop} (hS0 : ∀ k, S0 k → k < w.heap.size) (hseq : ∀ W, Below w.heap.size w W → Deals2 P gf lb enc1 enc2 xs S0 F W)
    (I Ix : (Nat → Prop) → List α → World → Prop) (hI : Stays I) (hIx : Stays Ix) (hIF : ∀ S s V, I S s V → F V) (h0 : I S0 [] w) (a₁ : α → Act)
    (hassign : ∀ (l : Nat) (x : α) (W : World) (K : Act → World → Prop), K (a₁ x) W →
      assign.wpIn (Fence.wide.inRound l) 0 P (Exit.then K (fun _ _ _ => False)) { tmps := (a.tmps.setIfInBounds p (enc1 x)).setIfInBounds q (enc2 x), defers := [] } W)
    (hbody : ∀ (l : Nat) (S : Nat → Prop) (pre : List α) (x : α) (post : List α) (W : World), xs = pre ++ x :: post → (∀ k, S k → k < W.heap.size) → I S pre W →
      body.wpIn (Fence.wide.inRound l) 0 P (roundEnds I Ix S (pre ++ [x]) W) (a₁ x) W)
    (hdone : ∀ (D : Nat) (S : Nat → Prop) (W : World), (∀ k, S k → k < W.heap.size) → S D → I S xs W → W.heap[D]? = some (.deferred (some [])) →
      Q .normal { a with defers := { target := .collected D, args := #[] } :: a.defers } W)
    (hstop : ∀ (D : Nat) (S : Nat → Prop) (pre : List α) (W : World), (∀ k, S k → k < W.heap.size) → S D → Ix S pre W → W.heap[D]? = some (.deferred (some [])) →
      Code.ret.wpIn Fence.wide 0 P Q { a with defers := { target := .collected D, args := #[] } :: a.defers } W) :
    (Code.rangeFunc g #[p, q] assign body).wpIn Fence.wide 0 P Q a w := by
  refine wpIn_rangeFunc fun fn _ => ?_
  obtain ⟨r, hr⟩ : ∃ r : LoopState → Option Code → Loop, r = fun st pe => { state := st, pending := pe, fn, tmps := a.tmps, params := #[p, q], assign, body, defers := w.heap.size } := ⟨_, rfl⟩
  obtain ⟨D, hD⟩ : ∃ D, w.heap.size = D := ⟨_, rfl⟩
  obtain ⟨L, hL⟩ : ∃ L, D + 1 = L := ⟨_, rfl⟩
  obtain ⟨V, hV⟩ : ∃ V, (w.alloc (.deferred (some []))).alloc (.loop (r .ready none)) = V := ⟨_, rfl⟩
  have hbV : Below w.heap.size w V := by
    rw [← hV]
    exact ((Below.refl _ w).alloc (Nat.le_refl _) _).alloc (by simp) _
  have hsV : V.heap.size = L + 1 := by rw [← hV, World.size_alloc, World.size_alloc, hD, hL]
  have hVL : V.heap[L]? = some (.loop (r .ready none)) := by
    have := World.alloc_heap_new (w.alloc (.deferred (some []))) (.loop (r .ready none))
    rwa [World.size_alloc, hD, hL, hV] at this
  have hVD : V.heap[D]? = some (.deferred (some [])) := by
    rw [← hV, Below.heap_alloc _ _ _ (by rw [World.size_alloc, hD]; omega), ← hD]
    exact World.alloc_heap_new w _
  have hrs : ∀ st pe, (r st pe).params = #[p, q] ∧ (r st pe).state = st ∧ (r st pe).fn = fn ∧ (r st pe).tmps = a.tmps ∧ (r st pe).assign = assign ∧ (r st pe).body = body := fun st pe => by rw [hr]; exact ⟨rfl, rfl, rfl, rfl, rfl, rfl⟩
  refine ⟨L, [{ target := .collected D, args := #[] }], V, { target := .fn (.func gf) lb, args := #[.func (.yield L) #[] #[]] }, V, gf, #[.func (.yield L) #[] #[]] ++ lb, V, ?_, ?_, fun _ _ => trivial, ?_, (fun h => absurd h (by decide)), ?_⟩
  · rw [← hV, ← hL, ← hD, hr]
    exact run_enterLoop_outer _ _ _ _ _
  · simp only [resolve, hg]
    simp [go_sem]
  · simp [invoke, go_sem, eg]
  · have own : ∀ {S T : Nat → Prop} {A B : World}, Turns S T A B → D < A.heap.size → L < A.heap.size → Turns (fun k => S k ∨ k = D ∨ k = L) (fun k => T k ∨ k = D ∨ k = L) A B := fun h h1 h2 =>
      ⟨h.os, h.tape, h.output, h.size, fun k hk hn => h.same k hk (fun hs => hn (.inl hs)), fun k hk => hk.elim (fun ht => (h.more k ht).elim (fun x => .inl (.inl x)) .inr) (fun e => .inl (.inr e)),
       fun k hk => hk.elim (h.lt k) (fun e => e.elim (fun e => e ▸ Nat.lt_of_lt_of_le h1 h.size) (fun e => e ▸ Nat.lt_of_lt_of_le h2 h.size))⟩
    have book : ∀ (R : Loop) (M : (Nat → Prop) → List α → World → Prop), Stays M → Stays (fun S s W => M (fun k => S k ∨ k = D ∨ k = L) s W ∧ W.heap[L]? = some (.loop R) ∧ W.heap[D]? = some (.deferred (some [])) ∧ ¬ S L ∧ ¬ S D ∧ ∀ k, S k → k < W.heap.size) := fun R M hM S T s A B h ht => by
      obtain ⟨h1, h2, h3, h4, h5, _⟩ := h
      have l1 := (Array.getElem?_eq_some_iff.1 h2).1
      have l2 := (Array.getElem?_eq_some_iff.1 h3).1
      exact ⟨hM _ _ _ _ _ h1 (own ht l2 l1), (ht.same L l1 h4).trans h2, (ht.same D l2 h5).trans h3, fun hT => (ht.more L hT).elim h4 (fun hge => absurd l1 (Nat.not_lt.2 hge)), fun hT => (ht.more D hT).elim h5 (fun hge => absurd l2 (Nat.not_lt.2 hge)), ht.lt⟩
    refine (hseq V hbV L _ _ (book (r .ready none) I hI) (book (r .done (some .ret)) Ix hIx) (fun S s V h => hIF _ _ _ h.1) ?_ ⟨?_, hVL, hVD, fun h => absurd (hS0 _ h) (by omega), fun h => absurd (hS0 _ h) (by omega), fun k h => Nat.lt_of_lt_of_le (hS0 k h) hbV.size⟩).mono ?_
    · rintro S pre x post W hx ⟨hi, hl, hd, hnl, hnd, hlt⟩
      have lL := (Array.getElem?_eq_some_iff.1 hl).1
      have lD := (Array.getElem?_eq_some_iff.1 hd).1
      have hy := run_yield (P := P) (args := #[enc1 x, enc2 x]) hl (by rw [(hrs _ _).1]; rfl)
      have hbr := run_beginRound (P := P) hl (hrs _ _).2.1
      obtain ⟨q1, _, q3, q4, q5, q6⟩ := hrs .ready none
      rw [q1, q3, q4, q5, q6] at hy
      have hz : ((#[p, q] : Array Tmp).zip #[enc1 x, enc2 x]).foldl (fun tmps (t, a) => tmps.setIfInBounds t a) a.tmps = (a.tmps.setIfInBounds p (enc1 x)).setIfInBounds q (enc2 x) := by simp
      rw [hz] at hy
      have hall : ∀ k, (S k ∨ k = D ∨ k = L) → k < W.heap.size := fun k h => h.elim (hlt k) (fun e => e.elim (fun e => e ▸ lD) (fun e => e ▸ lL))
      refine ⟨fn, _, assign, body, hy, roundIn_of_wpIn trivial ?_⟩
      refine hassign _ x W _ ?_
      refine ⟨_, hbr, ?_⟩
      obtain ⟨A, hA⟩ : ∃ A, W.putObj L (.loop { r .ready none with state := .busy }) = A := ⟨_, rfl⟩
      have hAL : A.heap[L]? = some (.loop { r .ready none with state := .busy }) := by rw [← hA]; exact World.putObj_heap_same lL
      have hAD : A.heap[D]? = some (.deferred (some [])) := by rw [← hA]; exact (World.putObj_heap_other (by omega)).trans hd
      have hAs : A.heap.size = W.heap.size := by rw [← hA]; exact World.putObj_size
      have hAi : I (fun k => S k ∨ k = D ∨ k = L) pre A := hI _ _ _ _ _ hi (by rw [← hA]; exact Turns.putObj hall (.inr (.inr rfl)) _)
      have hAo : ∀ k, k ≠ L → A.heap[k]? = W.heap[k]? := fun k hk => by rw [← hA]; exact World.putObj_heap_other hk
      rw [hA]
      refine wpIn_mono (hbody L _ pre x post A hx (fun k h => by rw [hAs]; exact hall k h) hAi) ?_
      have fin : ∀ (jump : Option Code) (B : World), Spares (fun k => S k ∨ k = D ∨ k = L) A B → (Instr.endRound L jump).run P B = .ok (.bool jump.isNone) (B.putObj L (.loop (r (if jump.isNone then .ready else .done) jump))) ∧ Spares S W (B.putObj L (.loop (r (if jump.isNone then .ready else .done) jump))) ∧ Turns (fun k => S k ∨ k = D ∨ k = L) (fun k => S k ∨ k = D ∨ k = L) B (B.putObj L (.loop (r (if jump.isNone then .ready else .done) jump))) ∧ (B.putObj L (.loop (r (if jump.isNone then .ready else .done) jump))).heap[L]? = some (.loop (r (if jump.isNone then .ready else .done) jump)) ∧ (B.putObj L (.loop (r (if jump.isNone then .ready else .done) jump))).heap[D]? = some (.deferred (some [])) ∧ W.heap.size ≤ (B.putObj L (.loop (r (if jump.isNone then .ready else .done) jump))).heap.size := fun jump B hk => by
        have hBL := (hk.same L (.inr (.inr rfl))).trans hAL
        have hBD := (hk.same D (.inr (.inl rfl))).trans hAD
        have e := run_endRound (P := P) jump hBL
        have hsz : W.heap.size ≤ B.heap.size := hAs ▸ hk.size
        refine ⟨?_, ⟨?_, fun k h => ?_⟩, Turns.putObj (fun k h => Nat.lt_of_lt_of_le (hall k h) hsz) (.inr (.inr rfl)) _, World.putObj_heap_same (Array.getElem?_eq_some_iff.1 hBL).1, (World.putObj_heap_other (by omega)).trans hBD, ?_⟩
        · rw [e, hr]
        · rw [World.putObj_size]; exact hsz
        · have hkL : k ≠ L := fun e => hnl (e ▸ h)
          exact ((World.putObj_heap_other hkL).trans (hk.same k (.inl h))).trans (hAo k hkL)
        · rw [World.putObj_size]; exact hsz
      rintro e b B hp
      cases e with
      | normal =>
        obtain ⟨hk, hi2⟩ := hp
        obtain ⟨f1, f2, f3, f4, f5, f6⟩ := fin none B hk
        exact ⟨_, _, f1, f2, .inl ⟨rfl, hI _ _ _ _ _ hi2 f3, f4, f5, hnl, hnd, fun k h => Nat.lt_of_lt_of_le (hlt k h) f6⟩⟩
      | ret =>
        obtain ⟨hk, hi2⟩ := hp
        obtain ⟨f1, f2, f3, f4, f5, f6⟩ := fin (some .ret) B hk
        exact ⟨_, _, f1, f2, .inr ⟨rfl, hIx _ _ _ _ _ hi2 f3, f4, f5, hnl, hnd, fun k h => Nat.lt_of_lt_of_le (hlt k h) f6⟩⟩
      | exit id => exact hp.elim
      | goto t => exact hp.elim
      | panic ch => exact hp.elim
      | outgrown => exact hp.elim
    · refine hI S0 _ [] w V h0 ⟨hbV.os, hbV.tape, hbV.output, hbV.size, fun k hk _ => hbV.block k hk, fun k h => h.elim .inl (fun e => .inr (by omega)), fun k h => h.elim (fun h => Nat.lt_of_lt_of_le (hS0 k h) hbV.size) (fun e => by omega)⟩
    · rintro e B ⟨⟨v, rfl⟩, S, ⟨hi, hl, hd, _, _, hlt⟩ | ⟨pre, hi, hl, hd, _, _, hlt⟩⟩
      · have lL := (Array.getElem?_eq_some_iff.1 hl).1
        have lD := (Array.getElem?_eq_some_iff.1 hd).1
        have hall : ∀ k, (S k ∨ k = D ∨ k = L) → k < B.heap.size := fun k h => h.elim (hlt k) (fun e => e.elim (fun e => e ▸ lD) (fun e => e ▸ lL))
        have e := run_endLoop (P := P) hl (by rw [(hrs _ _).2.1]; intro h; cases h)
        rw [hr] at e
        refine ⟨none, _, e, hdone D _ _ (fun k h => by rw [World.putObj_size]; exact hall k h) (.inr (.inl rfl)) (hI _ _ _ _ _ hi (Turns.putObj hall (.inr (.inr rfl)) _)) ((World.putObj_heap_other (by omega)).trans hd)⟩
      · have lL := (Array.getElem?_eq_some_iff.1 hl).1
        have lD := (Array.getElem?_eq_some_iff.1 hd).1
        have hall : ∀ k, (S k ∨ k = D ∨ k = L) → k < B.heap.size := fun k h => h.elim (hlt k) (fun e => e.elim (fun e => e ▸ lD) (fun e => e ▸ lL))
        have e := run_endLoop (P := P) hl (by rw [(hrs _ _).2.1]; intro h; cases h)
        rw [hr] at e
        refine ⟨some .ret, _, e, hstop D _ pre _ (fun k h => by rw [World.putObj_size]; exact hall k h) (.inr (.inl rfl)) (hIx _ _ _ _ _ hi (Turns.putObj hall (.inr (.inr rfl)) _)) ((World.putObj_heap_other (by omega)).trans hd)⟩
/-- The same, where the variable of the loop is a block that each round makes. -/
theorem wpIn_deals3 {α : Type} {P : Program} {g : Operand} {p q : Tmp} {assign body : Code} {Q : Exit → Act → World → Prop} {a : Act} {w : World} {gf : Nat} {lb : Array Value}
    (hg : a.eval g = .func (.func gf) #[] lb) (eg : ∀ args w, (callFunc gf args).run P w = .ok (.enter gf args) w)
    {enc1 enc2 : α → Value} {xs : List α} {S0 : Nat → Prop} {F : World → Prop} (hS0 : ∀ k, S0 k → k < w.heap.size) (hseq : ∀ W, Below w.heap.size w W → Deals2 P gf lb enc1 enc2 xs S0 F W)
    (I Ix : (Nat → Prop) → List α → World → Prop) (hI : Stays I) (hIx : Stays Ix) (hIF : ∀ S s V, I S s V → F V) (h0 : I S0 [] w) (fr : α → Nat → Act) (cs : α → Array Value) (ct : TypeId)
    (hassign : ∀ (l : Nat) (x : α) (W : World) (K : Act → World → Prop), K (fr x W.heap.size) (W.alloc (.cells (cs x) ct)) →
      assign.wpIn (Fence.wide.inRound l) 0 P (Exit.then K (fun _ _ _ => False)) { tmps := (a.tmps.setIfInBounds p (enc1 x)).setIfInBounds q (enc2 x), defers := [] } W)
    (hbody : ∀ (l : Nat) (S : Nat → Prop) (pre : List α) (x : α) (post : List α) (W : World) (p9 : Nat), xs = pre ++ x :: post → (∀ k, S k → k < W.heap.size) → I S pre W → W.heap[p9]? = some (.cells (cs x) ct (0, 0)) → ¬ S p9 → (∃ m, (∀ k, S k → k < m) ∧ m ≤ p9 ∧ ∃ W9, W9.heap.size = p9 ∧ I S pre W9) →
      body.wpIn (Fence.wide.inRound l) 0 P (roundEnds I Ix S (pre ++ [x]) W) (fr x p9) W)
    (hdone : ∀ (D : Nat) (S : Nat → Prop) (W : World), (∀ k, S k → k < W.heap.size) → S D → I S xs W → W.heap[D]? = some (.deferred (some [])) →
      Q .normal { a with defers := { target := .collected D, args := #[] } :: a.defers } W)
    (hstop : ∀ (D : Nat) (S : Nat → Prop) (pre : List α) (W : World), (∀ k, S k → k < W.heap.size) → S D → Ix S pre W → W.heap[D]? = some (.deferred (some [])) →
      Code.ret.wpIn Fence.wide 0 P Q { a with defers := { target := .collected D, args := #[] } :: a.defers } W) :
    (Code.rangeFunc g #[p, q] assign body).wpIn Fence.wide 0 P Q a w := by
  refine wpIn_rangeFunc fun fn _ => ?_
  obtain ⟨r, hr⟩ : ∃ r : LoopState → Option Code → Loop, r = fun st pe => { state := st, pending := pe, fn, tmps := a.tmps, params := #[p, q], assign, body, defers := w.heap.size } := ⟨_, rfl⟩
  obtain ⟨D, hD⟩ : ∃ D, w.heap.size = D := ⟨_, rfl⟩
  obtain ⟨L, hL⟩ : ∃ L, D + 1 = L := ⟨_, rfl⟩
  obtain ⟨V, hV⟩ : ∃ V, (w.alloc (.deferred (some []))).alloc (.loop (r .ready none)) = V := ⟨_, rfl⟩
  have hbV : Below w.heap.size w V := by
    rw [← hV]
    exact ((Below.refl _ w).alloc (Nat.le_refl _) _).alloc (by simp) _
  have hsV : V.heap.size = L + 1 := by rw [← hV, World.size_alloc, World.size_alloc, hD, hL]
  have hVL : V.heap[L]? = some (.loop (r .ready none)) := by
    have := World.alloc_heap_new (w.alloc (.deferred (some []))) (.loop (r .ready none))
    rwa [World.size_alloc, hD, hL, hV] at this
  have hVD : V.heap[D]? = some (.deferred (some [])) := by
    rw [← hV, Below.heap_alloc _ _ _ (by rw [World.size_alloc, hD]; omega), ← hD]
    exact World.alloc_heap_new w _
  have hrs : ∀ st pe, (r st pe).params = #[p, q] ∧ (r st pe).state = st ∧ (r st pe).fn = fn ∧ (r st pe).tmps = a.tmps ∧ (r st pe).assign = assign ∧ (r st pe).body = body := fun st pe => by rw [hr]; exact ⟨rfl, rfl, rfl, rfl, rfl, rfl⟩
  refine ⟨L, [{ target := .collected D, args := #[] }], V, { target := .fn (.func gf) lb, args := #[.func (.yield L) #[] #[]] }, V, gf, #[.func (.yield L) #[] #[]] ++ lb, V, ?_, ?_, fun _ _ => trivial, ?_, (fun h => absurd h (by decide)), ?_⟩
  · rw [← hV, ← hL, ← hD, hr]
    exact run_enterLoop_outer _ _ _ _ _
  · simp only [resolve, hg]
    simp [go_sem]
  · simp [invoke, go_sem, eg]
  · have own : ∀ {S T : Nat → Prop} {A B : World}, Turns S T A B → D < A.heap.size → L < A.heap.size → Turns (fun k => S k ∨ k = D ∨ k = L) (fun k => T k ∨ k = D ∨ k = L) A B := fun h h1 h2 =>
      ⟨h.os, h.tape, h.output, h.size, fun k hk hn => h.same k hk (fun hs => hn (.inl hs)), fun k hk => hk.elim (fun ht => (h.more k ht).elim (fun x => .inl (.inl x)) .inr) (fun e => .inl (.inr e)),
       fun k hk => hk.elim (h.lt k) (fun e => e.elim (fun e => e ▸ Nat.lt_of_lt_of_le h1 h.size) (fun e => e ▸ Nat.lt_of_lt_of_le h2 h.size))⟩
    have book : ∀ (R : Loop) (M : (Nat → Prop) → List α → World → Prop), Stays M → Stays (fun S s W => M (fun k => S k ∨ k = D ∨ k = L) s W ∧ W.heap[L]? = some (.loop R) ∧ W.heap[D]? = some (.deferred (some [])) ∧ ¬ S L ∧ ¬ S D ∧ ∀ k, S k → k < W.heap.size) := fun R M hM S T s A B h ht => by
      obtain ⟨h1, h2, h3, h4, h5, _⟩ := h
      have l1 := (Array.getElem?_eq_some_iff.1 h2).1
      have l2 := (Array.getElem?_eq_some_iff.1 h3).1
      exact ⟨hM _ _ _ _ _ h1 (own ht l2 l1), (ht.same L l1 h4).trans h2, (ht.same D l2 h5).trans h3, fun hT => (ht.more L hT).elim h4 (fun hge => absurd l1 (Nat.not_lt.2 hge)), fun hT => (ht.more D hT).elim h5 (fun hge => absurd l2 (Nat.not_lt.2 hge)), ht.lt⟩
    refine (hseq V hbV L _ _ (book (r .ready none) I hI) (book (r .done (some .ret)) Ix hIx) (fun S s V h => hIF _ _ _ h.1) ?_ ⟨?_, hVL, hVD, fun h => absurd (hS0 _ h) (by omega), fun h => absurd (hS0 _ h) (by omega), fun k h => Nat.lt_of_lt_of_le (hS0 k h) hbV.size⟩).mono ?_
    · rintro S pre x post W hx ⟨hi, hl, hd, hnl, hnd, hlt⟩
      have lL := (Array.getElem?_eq_some_iff.1 hl).1
      have lD := (Array.getElem?_eq_some_iff.1 hd).1
      have hy := run_yield (P := P) (args := #[enc1 x, enc2 x]) hl (by rw [(hrs _ _).1]; rfl)
      obtain ⟨q1, _, q3, q4, q5, q6⟩ := hrs .ready none
      rw [q1, q3, q4, q5, q6] at hy
      have hz : ((#[p, q] : Array Tmp).zip #[enc1 x, enc2 x]).foldl (fun tmps (t, a) => tmps.setIfInBounds t a) a.tmps = (a.tmps.setIfInBounds p (enc1 x)).setIfInBounds q (enc2 x) := by simp
      rw [hz] at hy
      have hall : ∀ k, (S k ∨ k = D ∨ k = L) → k < W.heap.size := fun k h => h.elim (hlt k) (fun e => e.elim (fun e => e ▸ lD) (fun e => e ▸ lL))
      refine ⟨fn, _, assign, body, hy, roundIn_of_wpIn trivial ?_⟩
      refine hassign _ x W _ ?_
      obtain ⟨W1, hW1⟩ : ∃ W1, W.alloc (.cells (cs x) ct) = W1 := ⟨_, rfl⟩
      rw [hW1]
      have hb1 : Below W.heap.size W W1 := by rw [← hW1]; exact (Below.refl _ _).alloc (Nat.le_refl _) _
      have hz1 : W1.heap.size = W.heap.size + 1 := by rw [← hW1]; simp
      have hp1 : W1.heap[W.heap.size]? = some (.cells (cs x) ct (0, 0)) := by rw [← hW1]; exact World.alloc_heap_new W _
      have hl1 := (hb1.block L lL).trans hl
      have hd1 := (hb1.block D lD).trans hd
      have hbr := run_beginRound (P := P) hl1 (hrs _ _).2.1
      have hall1 : ∀ k, (S k ∨ k = D ∨ k = L) → k < W1.heap.size := fun k h => Nat.lt_of_lt_of_le (hall k h) hb1.size
      have hi1 : I (fun k => S k ∨ k = D ∨ k = L) pre W1 := hI _ _ _ _ _ hi (Turns.below hall hb1)
      refine ⟨_, hbr, ?_⟩
      obtain ⟨A, hA⟩ : ∃ A, W1.putObj L (.loop { r .ready none with state := .busy }) = A := ⟨_, rfl⟩
      have hAL : A.heap[L]? = some (.loop { r .ready none with state := .busy }) := by rw [← hA]; exact World.putObj_heap_same (by omega)
      have hAD : A.heap[D]? = some (.deferred (some [])) := by rw [← hA]; exact (World.putObj_heap_other (by omega)).trans hd1
      have hAs : A.heap.size = W1.heap.size := by rw [← hA]; exact World.putObj_size
      have hAi : I (fun k => S k ∨ k = D ∨ k = L) pre A := hI _ _ _ _ _ hi1 (by rw [← hA]; exact Turns.putObj hall1 (.inr (.inr rfl)) _)
      have hAo : ∀ k, k ≠ L → A.heap[k]? = W1.heap[k]? := fun k hk => by rw [← hA]; exact World.putObj_heap_other hk
      rw [hA]
      refine wpIn_mono (hbody L _ pre x post A W.heap.size hx (fun k h => by rw [hAs]; exact hall1 k h) hAi ((hAo _ (by omega)).trans hp1) (fun h => by have := hall _ h; omega) ⟨W.heap.size, hall, Nat.le_refl _, W, rfl, hi⟩) ?_
      have fin : ∀ (jump : Option Code) (B : World), Spares (fun k => S k ∨ k = D ∨ k = L) A B → (Instr.endRound L jump).run P B = .ok (.bool jump.isNone) (B.putObj L (.loop (r (if jump.isNone then .ready else .done) jump))) ∧ Spares S W (B.putObj L (.loop (r (if jump.isNone then .ready else .done) jump))) ∧ Turns (fun k => S k ∨ k = D ∨ k = L) (fun k => S k ∨ k = D ∨ k = L) B (B.putObj L (.loop (r (if jump.isNone then .ready else .done) jump))) ∧ (B.putObj L (.loop (r (if jump.isNone then .ready else .done) jump))).heap[L]? = some (.loop (r (if jump.isNone then .ready else .done) jump)) ∧ (B.putObj L (.loop (r (if jump.isNone then .ready else .done) jump))).heap[D]? = some (.deferred (some [])) ∧ W.heap.size ≤ (B.putObj L (.loop (r (if jump.isNone then .ready else .done) jump))).heap.size := fun jump B hk => by
        have hBL := (hk.same L (.inr (.inr rfl))).trans hAL
        have hBD := (hk.same D (.inr (.inl rfl))).trans hAD
        have e := run_endRound (P := P) jump hBL
        have hsz : W.heap.size ≤ B.heap.size := by have := hk.size; omega
        refine ⟨?_, ⟨?_, fun k h => ?_⟩, Turns.putObj (fun k h => Nat.lt_of_lt_of_le (hall k h) hsz) (.inr (.inr rfl)) _, World.putObj_heap_same (Array.getElem?_eq_some_iff.1 hBL).1, (World.putObj_heap_other (by omega)).trans hBD, ?_⟩
        · rw [e, hr]
        · rw [World.putObj_size]; exact hsz
        · have hkL : k ≠ L := fun e => hnl (e ▸ h)
          exact (((World.putObj_heap_other hkL).trans (hk.same k (.inl h))).trans (hAo k hkL)).trans (hb1.block k (hlt k h))
        · rw [World.putObj_size]; exact hsz
      rintro e b B hp
      cases e with
      | normal =>
        obtain ⟨hk, hi2⟩ := hp
        obtain ⟨f1, f2, f3, f4, f5, f6⟩ := fin none B hk
        exact ⟨_, _, f1, f2, .inl ⟨rfl, hI _ _ _ _ _ hi2 f3, f4, f5, hnl, hnd, fun k h => Nat.lt_of_lt_of_le (hlt k h) f6⟩⟩
      | ret =>
        obtain ⟨hk, hi2⟩ := hp
        obtain ⟨f1, f2, f3, f4, f5, f6⟩ := fin (some .ret) B hk
        exact ⟨_, _, f1, f2, .inr ⟨rfl, hIx _ _ _ _ _ hi2 f3, f4, f5, hnl, hnd, fun k h => Nat.lt_of_lt_of_le (hlt k h) f6⟩⟩
      | exit id => exact hp.elim
      | goto t => exact hp.elim
      | panic ch => exact hp.elim
      | outgrown => exact hp.elim
    · refine hI S0 _ [] w V h0 ⟨hbV.os, hbV.tape, hbV.output, hbV.size, fun k hk _ => hbV.block k hk, fun k h => h.elim .inl (fun e => .inr (by omega)), fun k h => h.elim (fun h => Nat.lt_of_lt_of_le (hS0 k h) hbV.size) (fun e => by omega)⟩
    · rintro e B ⟨⟨v, rfl⟩, S, ⟨hi, hl, hd, _, _, hlt⟩ | ⟨pre, hi, hl, hd, _, _, hlt⟩⟩
      · have lL := (Array.getElem?_eq_some_iff.1 hl).1
        have lD := (Array.getElem?_eq_some_iff.1 hd).1
        have hall : ∀ k, (S k ∨ k = D ∨ k = L) → k < B.heap.size := fun k h => h.elim (hlt k) (fun e => e.elim (fun e => e ▸ lD) (fun e => e ▸ lL))
        have e := run_endLoop (P := P) hl (by rw [(hrs _ _).2.1]; intro h; cases h)
        rw [hr] at e
        refine ⟨none, _, e, hdone D _ _ (fun k h => by rw [World.putObj_size]; exact hall k h) (.inr (.inl rfl)) (hI _ _ _ _ _ hi (Turns.putObj hall (.inr (.inr rfl)) _)) ((World.putObj_heap_other (by omega)).trans hd)⟩
      · have lL := (Array.getElem?_eq_some_iff.1 hl).1
        have lD := (Array.getElem?_eq_some_iff.1 hd).1
        have hall : ∀ k, (S k ∨ k = D ∨ k = L) → k < B.heap.size := fun k h => h.elim (hlt k) (fun e => e.elim (fun e => e ▸ lD) (fun e => e ▸ lL))
        have e := run_endLoop (P := P) hl (by rw [(hrs _ _).2.1]; intro h; cases h)
        rw [hr] at e
        refine ⟨some .ret, _, e, hstop D _ pre _ (fun k h => by rw [World.putObj_size]; exact hall k h) (.inr (.inl rfl)) (hIx _ _ _ _ _ hi (Turns.putObj hall (.inr (.inr rfl)) _)) ((World.putObj_heap_other (by omega)).trans hd)⟩
end Go.Proofs.YthnogakjaaopkaaGreatDoor
/- The library's SplitSeq, at a comma: its value deals out the parts. -/
namespace Go.Proofs.YthnogakjaaopkaaGreatDoor
open Go.RowKit Go.Shelf
attribute [local go_sem] Oper.semAt_some

theorem idx_cut : ∀ l : Tx, (Lib.indexByte l 44 = -1 ∧ 44 ∉ l) ∨ ∃ a b, l = a ++ 44 :: b ∧ 44 ∉ a ∧ Lib.indexByte l 44 = (a.length : Int)
  | [] => .inl ⟨rfl, by simp⟩
  | x :: l => by
    by_cases h : x = 44
    · subst h
      exact .inr ⟨[], l, rfl, by simp, rfl⟩
    · have hx : (x == 44) = false := beq_eq_false_iff_ne.2 h
      rcases idx_cut l with ⟨h1, h2⟩ | ⟨a, b, e, h1, h2⟩
      · exact .inl ⟨by rw [Lib.indexByte, hx, h1]; rfl, by simp [h2, Ne.symm h]⟩
      · refine .inr ⟨x :: a, b, by rw [e]; rfl, by simp [h1, Ne.symm h], ?_⟩
        rw [Lib.indexByte, hx, h2]
        simp only [Bool.false_eq_true, if_false, List.length_cons]
        rw [if_neg (by simp)]
        omega
/-- A block with one variable. -/
def Bx (W : World) (B : Nat) (t : TypeId) (v : Value) : Prop := W.heap[B]? = some (.cells #[v] t (0, 0))
section
variable {W W' : World} {B : Nat} {t : TypeId} {v : Value}
theorem Bx.lt (h : Bx W B t v) : B < W.heap.size := (Array.getElem?_eq_some_iff.1 h).1
theorem Bx.cell (h : Bx W B t v) : W.cell? ⟨B, 0, none⟩ = some v := by simp [World.cell?, show W.heap[B]? = _ from h]
theorem Bx.frozen (h : Bx W B t v) : W.frozen? ⟨B, 0, none⟩ = false := by simp [World.frozen?, show W.heap[B]? = _ from h]
theorem Bx.new (W : World) (t : TypeId) (v : Value) : Bx (W.alloc (.cells #[v] t)) W.heap.size t v := World.alloc_heap_new W _
theorem Bx.below (h : Bx W B t v) (hb : Below W.heap.size W W') : Bx W' B t v := (hb.block B h.lt).trans h
theorem Bx.alloc (h : Bx W B t v) (o : Obj) : Bx (W.alloc o) B t v := (Below.heap_alloc W o B h.lt).trans h
theorem Bx.spared (h : Bx W B t v) {S : Nat → Prop} (hs : Spares S W W') (hB : S B) : Bx W' B t v := (hs.same B hB).trans h
theorem Bx.turned (h : Bx W B t v) {S T : Nat → Prop} (ht : Turns S T W W') (hB : ¬ S B) : Bx W' B t v := (ht.same B h.lt hB).trans h
theorem Bx.other (h : Bx W B t v) {p : Addr} (hp : p.block ≠ B) (u : Value) : Bx (W.setCell p u) B t v := (Below.heap_setCell W p u B (fun e => hp e.symm)).trans h
theorem Bx.set (h : Bx W B t v) (u : Value) : Bx (W.setCell ⟨B, 0, none⟩ u) B t u := by
  unfold Bx World.setCell
  obtain ⟨hl, he⟩ := Array.getElem?_eq_some_iff.1 h
  rw [Array.getElem?_modify, if_pos rfl, h]
  rfl
end
def strIn (W : World) (B : Nat) : Nat := match W.cell? ⟨B, 0, none⟩ with
  | some (.string s) => s.size
  | _ => 0
theorem strIn_eq {W : World} {B : Nat} {t : TypeId} {s : ByteArray} (h : Bx W B t (.string s)) : strIn W B = s.size := by unfold strIn; rw [h.cell]
set_option maxRecDepth 100000 in
set_option maxHeartbeats 2000000 in
theorem splitSeq1_deals (l : Tx) (hl : l.length ≤ 1000000) (b1 b2 b3 : Nat) (h12 : b1 ≠ b2) (h32 : b3 ≠ b2) (S0 : Nat → Prop) (hs1 : S0 b1) (hs2 : S0 b2) (hs3 : S0 b3) (W : World) (hS0 : ∀ k, S0 k → k < W.heap.size)
    (hb1 : Bx W b1 9 (.string (str [44]))) (hb2 : Bx W b2 9 (.string (str l))) (hb3 : Bx W b3 3 (.int .i64 0)) :
    Deals Tryz.prog 131 #[.pointer (some ⟨b1, 0, none⟩), .pointer (some ⟨b2, 0, none⟩), .pointer (some ⟨b3, 0, none⟩)] txC (cutAt 44 l) S0 W := by
  intro L J Jx hJ hJx hY h0
  refine callsIn_of_wp Tryz.func131 rfl trivial ?_ rfl
  simp only [Tryz.ntmps131, List.size_toArray, List.length_cons, List.length_nil, Nat.reduceAdd, Nat.reduceSub, Array.replicate_succ, Array.replicate_zero, List.push_toArray, List.append_toArray, List.nil_append, List.cons_append]
  have HB := Lib.hid (And.intro hb1 (And.intro hb2 (And.intro hb3 (And.intro h0 hS0))))
  have k1 := hb1.cell
  have HY := Lib.hid hY
  clear hb1 hb2 hb3 h0 hY hS0
  have k0 : (str [44]).size = 1 := rfl
  gi_wp2
  gi_loopw [7, 8] (fun _ _ wr => ∃ (S : Nat → Prop) (pre : List Tx) (r : Tx), cutAt 44 l = pre ++ cutAt 44 r ∧ r.length ≤ l.length ∧ S b1 ∧ S b2 ∧ S b3 ∧ (∀ k, S k → k < wr.heap.size) ∧ Bx wr b1 9 (.string (str [44])) ∧ Bx wr b2 9 (.string (str r)) ∧ Bx wr b3 3 (.int .i64 0) ∧ J S pre wr)
    (fun _ _ wr => strIn wr b2)
  case atStart => exact ⟨S0, [], l, rfl, Nat.le_refl _, hs1, hs2, hs3, HB.out.2.2.2.2, HB.out.1, HB.out.2.1, HB.out.2.2.1, HB.out.2.2.2.1⟩
  case round =>
    obtain ⟨S, pre, r, e1, e2, i1, i2, i3, hlt, x1, x2, x3, hj⟩ := hrel
    have HE := Lib.hid (And.intro e1 e2)
    have HS := Lib.hid (And.intro i1 (And.intro i2 (And.intro i3 hlt)))
    have HX := Lib.hid (And.intro x1 (And.intro x2 (And.intro x3 hj)))
    have k2 := x2.cell
    have k1' := x1.cell
    have k3 := x3.cell
    have hix := Lib.hid (fun w => index1_any r 44 _ rfl w)
    clear e1 e2 i1 i2 i3 hlt x1 x2 x3 hj k1
    rcases idx_cut r with ⟨h1, h2⟩ | ⟨a, b, rfl, h1, h2⟩
    · rw [h1] at hix
      have hcut := cut_no 44 r h2
      obtain ⟨fn, tmps, assign, body, hy, hR⟩ := HY.out S pre r [] wr (by rw [HE.out.1, hcut]) HX.out.2.2.2
      have HC := Lib.hid hcut
      unfold txC at hy
      have HR := Lib.hid hR
      generalize str r = D at *
      generalize str [44] = C at *
      clear hcut h1 h2 hR
      gi_wp2_with fail
      refine ⟨trivial, rfl, (callsIn_wide.2 (hix.out _)).mono ?_⟩
      rintro e w' ⟨rfl, rfl⟩
      gi_wp2_with fail
      refine ⟨rfl, HR.out.mono ?_⟩
      rintro e w' ⟨hsp, ⟨rfl, hj⟩ | ⟨rfl, hj⟩⟩
      · have HJ := Lib.hid hj
        clear hj hsp
        gi_wp2_with fail
        go_end0
        exact ⟨⟨_, rfl⟩, S, .inl (by rw [HE.out.1, HC.out]; exact HJ.out)⟩
      · have HJ := Lib.hid hj
        clear hj hsp
        gi_wp2_with fail
        go_end0
        exact ⟨⟨_, rfl⟩, S, .inr ⟨_, HJ.out⟩⟩
    · rw [h2] at hix
      have hcut := cut_of_no 44 a b h1
      obtain ⟨fn, tmps, assign, body, hy, hR⟩ := HY.out S pre a (cutAt 44 b) wr (by rw [HE.out.1, hcut]) HX.out.2.2.2
      have HC := Lib.hid hcut
      unfold txC at hy
      have HR := Lib.hid hR
      obtain ⟨n, hn⟩ : ∃ n, a.length = n := ⟨_, rfl⟩
      have hsz : (str (a ++ 44 :: b)).size = n + 1 + b.length := by rw [str_size, List.length_append, List.length_cons, hn]; omega
      have hbig : n + 1 + b.length ≤ 1000000 := by
        have h3 := HE.out.2
        rw [List.length_append, List.length_cons, hn] at h3
        omega
      have hx1 : (str (a ++ 44 :: b)).extract 0 n = str a := by rw [str_cut, ← hn]; simp
      have hx2 : (str (a ++ 44 :: b)).extract (n + 1) (n + 1 + b.length) = str b := by
        rw [str_cut, ← hn]
        have e3 : (a ++ 44 :: b).drop (a.length + 1) = b := by rw [List.drop_append]; simp
        rw [e3, List.take_of_length_le (by omega)]
      rw [hn] at hix
      have HL : Hid (b.length ≤ l.length) := Nat.le_trans (by rw [List.length_append, List.length_cons]; omega) HE.out.2
      obtain ⟨m, hm⟩ : ∃ m, b.length = m := ⟨_, rfl⟩
      rw [hm] at hsz hbig hx2
      have HM : Hid ((str b).size = m) := hm
      have HXX := Lib.hid (And.intro hx1 hx2)
      generalize str (a ++ 44 :: b) = D at *
      obtain ⟨A, hA⟩ : ∃ A, str a = A := ⟨_, rfl⟩
      obtain ⟨B, hB⟩ : ∃ B, str b = B := ⟨_, rfl⟩
      have HBB := Lib.hid hB
      rw [hA] at hx1 hy
      rw [hB] at hx2 HM
      generalize str [44] = C at *
      clear hcut h1 h2 hR hA hB hn hm
      have q0 : (0 : Int) ≤ n := by omega
      have q1 : (n : Int) + 1 + m ≤ 1000000 := by omega
      gi_wp2_with fail
      refine ⟨trivial, rfl, (callsIn_wide.2 (hix.out _)).mono ?_⟩
      rintro e w' ⟨rfl, rfl⟩
      gi_wp2_with fail
      refine ⟨rfl, HR.out.mono ?_⟩
      rintro e w' ⟨hsp, ⟨rfl, hj⟩ | ⟨rfl, hj⟩⟩
      · have X1 := HX.out.1.spared hsp HS.out.1
        have X2 := HX.out.2.1.spared hsp HS.out.2.1
        have X3 := HX.out.2.2.1.spared hsp HS.out.2.2.1
        have hlt' : ∀ k, S k → k < w'.heap.size := fun k hk => Nat.lt_of_lt_of_le (HS.out.2.2.2 k hk) hsp.size
        have HJ := Lib.hid (And.intro X1 (And.intro X2 (And.intro X3 (And.intro hj hlt'))))
        have c1 := X1.cell
        have c2 := X2.cell
        have c2f := X2.frozen
        clear hj hsp X1 X2 X3 hlt' k1' k2 k3 hy
        gi_wp2_with fail
        refine ⟨⟨S, pre ++ [a], b, by rw [HE.out.1, HC.out, List.append_assoc]; rfl, HL.out, HS.out.1, HS.out.2.1, HS.out.2.2.1, fun k hk => by have := HJ.out.2.2.2.2 k hk; simpa [World.setCell] using this, HJ.out.1.other (fun e => h12 e.symm) _, ?_, HJ.out.2.2.1.other (fun e => h32 e.symm) _, hJ _ _ _ _ _ HJ.out.2.2.2.1 (Turns.setCell HJ.out.2.2.2.2 HS.out.2.1 _)⟩, ?_⟩
        · rw [HBB.out]
          exact HJ.out.2.1.set _
        · rw [strIn_eq (HJ.out.2.1.set _), strIn_eq HX.out.2.1, HM.out, hsz]
          omega
      · have HJ := Lib.hid hj
        clear hj hsp
        gi_wp2_with fail
        refine bodyPost_ret (results_none rfl _ _ _) rfl ?_
        exact ⟨⟨_, rfl⟩, S, .inr ⟨_, HJ.out⟩⟩
set_option maxRecDepth 100000 in
theorem splitSeq_any (l : Tx) (sep : ByteArray) (hsep : sep = str [44]) (w : World) :
    Calls Tryz.prog 104 #[.string (str l), .string sep] w fun e w' => e = .returned (.func (.func 131) #[] #[.pointer (some ⟨w.heap.size + 1, 0, none⟩), .pointer (some ⟨w.heap.size, 0, none⟩), .pointer (some ⟨w.heap.size + 2, 0, none⟩)]) ∧
      Below w.heap.size w w' ∧ w'.heap.size = w.heap.size + 3 ∧ Bx w' w.heap.size 9 (.string (str l)) ∧ Bx w' (w.heap.size + 1) 9 (.string (str [44])) ∧ Bx w' (w.heap.size + 2) 3 (.int .i64 0) := by
  obtain ⟨S, hS⟩ : ∃ S, str l = S := ⟨_, rfl⟩
  rw [hS, ← hsep]
  clear hS hsep
  have HI : Hid (∀ W : World, Calls Tryz.prog 123 #[.string S, .string sep, .int .i64 0] W fun e w' => e = .returned (.func (.func 131) #[] #[.pointer (some ⟨W.heap.size + 1, 0, none⟩), .pointer (some ⟨W.heap.size, 0, none⟩), .pointer (some ⟨W.heap.size + 2, 0, none⟩)]) ∧
      w' = ((W.alloc (.cells #[.string S] 9)).alloc (.cells #[.string sep] 9)).alloc (.cells #[.int .i64 0] 3)) := fun W => by
    go_enter Tryz.func123, Tryz.ntmps123
    go_wp2_with fail
    go_ret
    exact ⟨rfl, rfl⟩
  go_enter Tryz.func104, Tryz.ntmps104
  go_wp2_with fail
  refine (HI.out _).mono ?_
  rintro e w' ⟨rfl, hw⟩
  have hb : Below w.heap.size w w' := by rw [hw]; exact (((Below.refl _ w).alloc (Nat.le_refl _) _).alloc (by simp) _).alloc (by simp; omega) _
  have hs : w'.heap.size = w.heap.size + 3 := by rw [hw]; simp
  have x1 : Bx w' w.heap.size 9 (.string S) := by rw [hw]; exact ((Bx.new w _ _).alloc _).alloc _
  have x2 : Bx w' (w.heap.size + 1) 9 (.string sep) := by
    have h := (Bx.new (w.alloc (.cells #[.string S] 9)) 9 (.string sep)).alloc (.cells #[.int .i64 0] 3)
    rw [World.size_alloc] at h
    rw [hw]
    exact h
  have x3 : Bx w' (w.heap.size + 2) 3 (.int .i64 0) := by
    have h := Bx.new ((w.alloc (.cells #[.string S] 9)).alloc (.cells #[.string sep] 9)) 3 (.int .i64 0)
    rw [World.size_alloc, World.size_alloc] at h
    rw [hw]
    exact h
  have HW := Lib.hid (And.intro hb (And.intro hs (And.intro x1 (And.intro x2 x3))))
  clear hw hb hs x1 x2 x3
  go_wp2_with fail
  go_ret
  exact ⟨rfl, HW.out⟩
end Go.Proofs.YthnogakjaaopkaaGreatDoor
/- Contract: value's Joined. -/
namespace Go.Proofs.YthnogakjaaopkaaGreatDoor
open Go.RowKit

set_option maxRecDepth 100000 in
theorem trim_any (l : Tx) (w : World) (hl : l.length ≤ 1000000) : Calls Tryz.prog 84 #[.string (str l)] w fun e w' => e = .returned (.string (str (trw l))) ∧ Below w.heap.size w w' := by
  have HT := Lib.hid (fun W cs hc => libTrim_any l cs W hc hl)
  generalize str l = S at *
  go_enter Tryz.func84, Tryz.ntmps84
  go_wp2_with fail
  refine (HT.out _ _ rfl).mono ?_
  rintro e w' ⟨rfl, hb⟩
  have HB := Lib.hid hb
  clear hb
  go_wp2_with fail
  go_ret
  exact ⟨rfl, HB.out⟩
theorem ret_boolB {a b : Bool} {w w' : World} (h : a = b) (hb : Below w.heap.size w w') : Ending.returned (.bool a) = .returned (.bool b) ∧ Below w.heap.size w w' := ⟨by rw [h], hb⟩
/-- How Joined ends. -/
def JoE (R : Tx × Nat) (w : World) (e : Ending) (w' : World) : Prop := e = .returned (.tuple #[.string (str R.1), errE R.2]) ∧ Below w.heap.size w w'
theorem joE_of {R : Tx × Nat} {w w' : World} {t : Tx} {S : ByteArray} {ev : Value} {k : Nat} (hR : (t, k) = R) (hs : str t = S) (he : errE k = ev) (hb : Below w.heap.size w w') : JoE R w (.returned (.tuple #[.string S, ev])) w' := by
  subst hR
  subst hs
  subst he
  exact ⟨rfl, hb⟩
end Go.Proofs.YthnogakjaaopkaaGreatDoor
/- Contracts: value's trim, parts; parts deals out a list's parts. -/
namespace Go.Proofs.YthnogakjaaopkaaGreatDoor
open Go.RowKit Go.Shelf
attribute [local go_sem] Oper.semAt_some

theorem cut_le : ∀ (l : Tx) (p : Tx), p ∈ cutAt 44 l → p.length ≤ l.length
  | [], p, h => by
    rw [cutAt] at h
    rw [List.mem_singleton.1 h]
    exact Nat.le_refl _
  | b :: l, p, h => by
    by_cases e : b = 44
    · subst e
      rw [cutAt_self] at h
      rcases List.mem_cons.1 h with rfl | h
      · exact Nat.zero_le _
      · have := cut_le l p h
        simp only [List.length_cons]
        omega
    · obtain ⟨q, ps, e1, e2⟩ := cutAt_cons 44 b l e
      rw [e2] at h
      rcases List.mem_cons.1 h with rfl | h
      · have := cut_le l q (by rw [e1]; simp)
        simp only [List.length_cons]
        omega
      · have := cut_le l p (by rw [e1]; simp [h])
        simp only [List.length_cons]
        omega
set_option maxRecDepth 100000 in
theorem parts_any (l : Tx) (w : World) : Calls Tryz.prog 85 #[.string (str l)] w fun e w' => e = .returned (.func (.func 103) #[] #[.pointer (some ⟨w.heap.size, 0, none⟩)]) ∧ Below w.heap.size w w' ∧ w'.heap.size = w.heap.size + 1 ∧ Bx w' w.heap.size 9 (.string (str l)) := by
  obtain ⟨S, hS⟩ : ∃ S, str l = S := ⟨_, rfl⟩
  rw [hS]
  clear hS
  go_enter Tryz.func85, Tryz.ntmps85
  go_wp2_with fail
  go_ret
  exact ⟨rfl, (Below.refl _ w).alloc (Nat.le_refl _) _, by simp, Bx.new w _ _⟩
set_option maxRecDepth 100000 in
set_option maxHeartbeats 2000000 in
theorem parts1_deals (l : Tx) (hl : l.length ≤ 1000000) (B : Nat) (S0 : Nat → Prop) (_ : S0 B) (W : World) (hS0 : ∀ k, S0 k → k < W.heap.size) (hB : Bx W B 9 (.string (str l))) :
    Deals Tryz.prog 103 #[.pointer (some ⟨B, 0, none⟩)] txC (partsT l) S0 W := by
  intro L J Jx hJ hJx hY h0
  refine callsIn_of_wp_marks Tryz.func103 rfl trivial ?_ rfl
  simp only [Tryz.ntmps103, List.size_toArray, List.length_cons, List.length_nil, Nat.reduceAdd, Nat.reduceSub, Array.replicate_succ, Array.replicate_zero, List.push_toArray, List.append_toArray, List.nil_append, List.cons_append]
  have HS := Lib.hid (fun sep hsep w => splitSeq_any l sep hsep w)
  have HDl := Lib.hid (fun b1 b2 b3 h12 h32 T h1 h2 h3 V hT x1 x2 x3 => splitSeq1_deals l hl b1 b2 b3 h12 h32 T h1 h2 h3 V hT x1 x2 x3)
  have HP : Hid (∀ pre x post, cutAt 44 l = pre ++ x :: post → partsT l = pre.map trw ++ trw x :: post.map trw ∧ x.length ≤ 1000000) := fun pre x post h => by
    refine ⟨by rw [partsT, h, List.map_append, List.map_cons], ?_⟩
    have := cut_le l x (by rw [h]; simp)
    omega
  have HE : Hid (partsT l = (cutAt 44 l).map trw) := rfl
  obtain ⟨V1, hV1⟩ : ∃ V1, W.alloc (.cells #[.func (.yield L) #[] #[]] 93) = V1 := ⟨_, rfl⟩
  have hb1 : Below W.heap.size W V1 := by rw [← hV1]; exact (Below.refl _ _).alloc (Nat.le_refl _) _
  have hz1 : V1.heap.size = W.heap.size + 1 := by rw [← hV1]; simp
  have hy1 : Bx V1 W.heap.size 93 (.func (.yield L) #[] #[]) := by rw [← hV1]; exact Bx.new W _ _
  have kB := (hB.below hb1).cell
  have HY := Lib.hid hY
  have HH := Lib.hid (And.intro hb1 (And.intro hz1 (And.intro hy1 (And.intro h0 (And.intro hS0 hB)))))
  generalize cutAt 44 l = xs at *
  generalize partsT l = ys at *
  generalize str l = D at *
  clear hb1 hz1 hy1 hY h0 hS0 hB hl
  gi_wp2_with fail
  refine ⟨trivial, rfl, (callsIn_wide.2 (HS.out _ rfl _)).mono ?_⟩
  rintro e V2 ⟨rfl, hb2, hz2, x1, x2, x3⟩
  have hT : ∀ k, (V1.heap.size ≤ k ∧ k < V1.heap.size + 3) → k < V2.heap.size := fun k h => by omega
  have hbW : Below W.heap.size W V2 := HH.out.1.trans (hb2.mono HH.out.1.size)
  have hy2 : Bx V2 W.heap.size 93 (.func (.yield L) #[] #[]) := HH.out.2.2.1.below hb2
  have hsq : ∀ V, Below V2.heap.size V2 V → Deals Tryz.prog 131 #[.pointer (some ⟨V1.heap.size + 1, 0, none⟩), .pointer (some ⟨V1.heap.size, 0, none⟩), .pointer (some ⟨V1.heap.size + 2, 0, none⟩)] txC xs (fun k => V1.heap.size ≤ k ∧ k < V1.heap.size + 3) V := fun V hb =>
    HDl.out _ _ _ (by omega) (by omega) _ (by omega) (by omega) (by omega) V (fun k h => Nat.lt_of_lt_of_le (hT k h) hb.size) (x2.below hb) (x1.below hb) (x3.below hb)
  have hj2 : J (fun k => (V1.heap.size ≤ k ∧ k < V1.heap.size + 3) ∨ S0 k ∨ k = W.heap.size) [] V2 := by
    have h1 := HH.out.2.1
    refine hJ S0 _ [] W V2 HH.out.2.2.2.1 ⟨hbW.os, hbW.tape, hbW.output, hbW.size, fun k hk _ => hbW.block k hk, fun k h => ?_, fun k h => ?_⟩
    · rcases h with h | h | h
      · exact .inr (by omega)
      · exact .inl h
      · exact .inr (by omega)
    · rcases h with h | h | h
      · exact hT k h
      · exact Nat.lt_of_lt_of_le (HH.out.2.2.2.2.1 k h) hbW.size
      · omega
  have HK := Lib.hid (And.intro hT (And.intro hbW (And.intro hy2 (And.intro hsq hj2))))
  clear hT hbW hy2 hsq hj2 x1 x2 x3 hb2
  gi_wp2_with fail
  refine wpIn_deals (gf := 131) rfl (enters_of Tryz.func131 (by kernel_rfl) rfl) (enc := txC) (xs := xs) (S0 := fun k => V1.heap.size ≤ k ∧ k < V1.heap.size + 3) HK.out.1 HK.out.2.2.2.1
    (fun S pre V => J (fun k => S k ∨ S0 k ∨ k = W.heap.size) (pre.map trw) V ∧ Bx V W.heap.size 93 (.func (.yield L) #[] #[]) ∧ ¬ S W.heap.size ∧ W.heap.size ≤ V.heap.size)
    (fun S pre V => Jx (fun k => S k ∨ S0 k ∨ k = W.heap.size) (pre.map trw) V ∧ W.heap.size < V.heap.size)
    ?stI ?stX ?start (fun x => { tmps := #[.func (.yield L) #[] #[], .pointer (some ⟨B, 0, none⟩), .pointer (some ⟨W.heap.size, 0, none⟩), .string (str x), .string D,
      .func (.func 131) #[] #[.pointer (some ⟨V1.heap.size + 1, 0, none⟩), .pointer (some ⟨V1.heap.size, 0, none⟩), .pointer (some ⟨V1.heap.size + 2, 0, none⟩)], .string (str x), undef, undef, undef, undef, undef], defers := [] }) ?assign ?body ?done ?stop
  case stI =>
    rintro S T pre V V' ⟨h1, h2, h3, h4⟩ ht
    have hyl := h2.lt
    refine ⟨hJ _ _ _ _ _ h1 ⟨ht.os, ht.tape, ht.output, ht.size, fun k hk hn => ht.same k hk (fun hs => hn (.inl hs)), fun k hk => ?_, fun k hk => ?_⟩, h2.turned ht h3, fun hT => (ht.more _ hT).elim h3 (fun h => by omega), Nat.le_trans h4 ht.size⟩
    · rcases hk with hk | hk
      · exact (ht.more k hk).elim (fun h => .inl (.inl h)) .inr
      · exact .inl (.inr hk)
    · rcases hk with hk | hk | hk
      · exact ht.lt k hk
      · exact Nat.lt_of_lt_of_le (HH.out.2.2.2.2.1 k hk) (Nat.le_trans h4 ht.size)
      · exact hk ▸ Nat.lt_of_lt_of_le hyl ht.size
  case stX =>
    rintro S T pre V V' ⟨h1, h4⟩ ht
    refine ⟨hJx _ _ _ _ _ h1 ⟨ht.os, ht.tape, ht.output, ht.size, fun k hk hn => ht.same k hk (fun hs => hn (.inl hs)), fun k hk => ?_, fun k hk => ?_⟩, Nat.lt_of_lt_of_le h4 ht.size⟩
    · rcases hk with hk | hk
      · exact (ht.more k hk).elim (fun h => .inl (.inl h)) .inr
      · exact .inl (.inr hk)
    · rcases hk with hk | hk | hk
      · exact ht.lt k hk
      · exact Nat.lt_of_lt_of_le (HH.out.2.2.2.2.1 k hk) (Nat.le_trans (Nat.le_of_lt h4) ht.size)
      · exact hk ▸ Nat.lt_of_lt_of_le h4 ht.size
  case start =>
    have h1 := HH.out.2.1
    exact ⟨HK.out.2.2.2.2, HK.out.2.2.1, fun h => absurd h.1 (by omega), HK.out.2.1.size⟩
  case assign =>
    intro l2 x V K hK
    gi_wp2_with fail
    exact hK
  case done =>
    rintro D2 S V hlt hD ⟨h1, h2, h3, h4⟩ hd
    have HZ := Lib.hid (And.intro h1 (And.intro hD hd))
    have hls : ∀ k, (S k ∨ S0 k ∨ k = W.heap.size) → k < V.heap.size := fun k hk => by
      have h5 := h2.lt
      rcases hk with hk | hk | hk
      · exact hlt k hk
      · exact Nat.lt_of_lt_of_le (HH.out.2.2.2.2.1 k hk) h4
      · omega
    have HL := Lib.hid hls
    clear h1 h2 h3 h4 hd hD hlt hls
    gi_wp2_with fail
    refine ⟨by simp, .inl ⟨_, _, rfl, run_takeDeferred HZ.out.2.2, ?_⟩⟩
    refine ⟨_, results_none rfl _ _ _, ⟨_, rfl⟩, _, .inl (hJ _ _ _ _ _ (HE.out.symm ▸ HZ.out.1) (Turns.putObj HL.out (.inl HZ.out.2.1) _))⟩
  case stop =>
    rintro D2 S pre V hlt hD ⟨h1, h4⟩ hd
    have HZ := Lib.hid (And.intro h1 (And.intro hD hd))
    have hls : ∀ k, (S k ∨ S0 k ∨ k = W.heap.size) → k < V.heap.size := fun k hk => by
      rcases hk with hk | hk | hk
      · exact hlt k hk
      · exact Nat.lt_of_lt_of_le (HH.out.2.2.2.2.1 k hk) (Nat.le_of_lt h4)
      · omega
    have HL := Lib.hid hls
    clear h1 h4 hd hD hlt hls
    gi_wp2_with fail
    refine ⟨by simp, .inl ⟨_, _, rfl, run_takeDeferred HZ.out.2.2, ?_⟩⟩
    refine ⟨_, results_none rfl _ _ _, ⟨_, rfl⟩, _, .inr ⟨_, hJx _ _ _ _ _ HZ.out.1 (Turns.putObj HL.out (.inl HZ.out.2.1) _)⟩⟩
  case body =>
    rintro l2 S pre x post V hx hlt ⟨h1, h2, h3, h4⟩
    have ky := h2.cell
    have hyl := h2.lt
    obtain ⟨hxs, hxl⟩ := HP.out pre x post hx
    have hall : ∀ k, (S k ∨ S0 k ∨ k = W.heap.size) → k < V.heap.size := fun k hk => by
      rcases hk with hk | hk | hk
      · exact hlt k hk
      · exact Nat.lt_of_lt_of_le (HH.out.2.2.2.2.1 k hk) h4
      · exact hk ▸ hyl
    have HT := Lib.hid (fun w => trim_any x w hxl)
    have HYV : Hid (∀ V2, Below V.heap.size V.drew V2 → YieldAt (Fence.wide.inRound l2) 0 Tryz.prog L #[.string (str (trw x))] V2 fun e V3 => ∃ b : Bool, e = .returned (.bool b) ∧ Spares S V V3 ∧
        ((b = true → (J (fun k => S k ∨ S0 k ∨ k = W.heap.size) ((pre ++ [x]).map trw) V3 ∧ Bx V3 W.heap.size 93 (.func (.yield L) #[] #[]) ∧ ¬ S W.heap.size ∧ W.heap.size ≤ V3.heap.size)) ∧
         (b = false → (Jx (fun k => S k ∨ S0 k ∨ k = W.heap.size) ((pre ++ [x]).map trw) V3 ∧ W.heap.size < V3.heap.size)))) := fun V2 hb => by
      have hbV : Below V.heap.size V V2 := ⟨hb.os, hb.tape, hb.output, hb.size, hb.block⟩
      obtain ⟨fn, tmps, assign, body, hy, hR⟩ := HY.out _ _ _ _ V2 hxs (hJ _ _ _ _ _ h1 (Turns.below hall hbV))
      refine ⟨fn, tmps, assign, body, hy, (show RoundIn (Fence.wide.inRound l2) 0 Tryz.prog L fn tmps assign body V2 _ from hR).mono ?_⟩
      rintro e V3 ⟨hsp, hq⟩
      have e1 : (pre ++ [x]).map trw = pre.map trw ++ [trw x] := by rw [List.map_append]; rfl
      have hsz : W.heap.size < V3.heap.size := Nat.lt_of_lt_of_le hyl (Nat.le_trans hbV.size hsp.size)
      have hsp' := (Spares.below hlt hbV).trans (hsp.sub (S := S) fun k hk => .inl hk)
      rcases hq with ⟨rfl, hj⟩ | ⟨rfl, hj⟩
      · exact ⟨true, rfl, hsp', fun _ => ⟨e1 ▸ hj, (h2.below hbV).spared hsp (.inr (.inr rfl)), h3, Nat.le_of_lt hsz⟩, fun h => by cases h⟩
      · exact ⟨false, rfl, hsp', (fun h => by cases h), fun _ => ⟨e1 ▸ hj, hsz⟩⟩
    have HB2 := Lib.hid h2
    clear hlt h1 h2 h3 h4 hxl hall hyl
    generalize str x = X at *
    obtain ⟨T, hT⟩ : ∃ T, str (trw x) = T := ⟨_, rfl⟩
    rw [hT] at HT HYV
    clear hT
    have kyd : V.drew.cell? ⟨W.heap.size, 0, none⟩ = some (.func (.yield L) #[] #[]) := ky
    have hmx : Tryz.prog.follows .mixedOrders = true := by kernel_rfl
    gi_wp2_with fail
    gi_region_with_o (first
      | (refine ⟨trivial, rfl, ?_⟩
         gi_at_call 84
         refine (CallsIn.inRound l2 (callsIn_wide.2 (HT.out _))).mono ?_
         rintro e V2 ⟨rfl, hb⟩
         have hbV : Below V.heap.size V V2 := ⟨hb.os, hb.tape, hb.output, hb.size, hb.block⟩
         have ky2 := (HB2.out.below hbV).cell
         obtain ⟨fn, tmps, assign, body, hy, hR⟩ := HYV.out V2 hb
         have HR := Lib.hid hR
         clear hR hb hbV)
      | (refine ⟨rfl, HR.out.mono ?_⟩
         rintro e V3 ⟨b, rfl, hq⟩
         have HQ := Lib.hid hq
         clear hq))
    all_goals cases b
    all_goals gi_wp2_with fail
    all_goals first
      | exact ⟨HQ.out.1, HQ.out.2.1 (by simp)⟩
      | exact ⟨HQ.out.1, HQ.out.2.2 (by simp)⟩
end Go.Proofs.YthnogakjaaopkaaGreatDoor
/- Contract: value's List. -/
namespace Go.Proofs.YthnogakjaaopkaaGreatDoor
open Go.RowKit Go.Shelf
attribute [local go_sem] Oper.semAt_some

theorem results_cells2 {P : Program} {fn : Func} {p q : Tmp} {ty uy : TypeId} (h : fn.results = #[.cell p ty, .cell q uy]) (tmps : Array Value) (w : World) (g g' : Nat) (v v' : Value)
    (hp : tmps[p]?.getD undef = .pointer (some ⟨g, 0, none⟩)) (hq : tmps[q]?.getD undef = .pointer (some ⟨g', 0, none⟩)) (hg : w.cell? ⟨g, 0, none⟩ = some v) (hg' : w.cell? ⟨g', 0, none⟩ = some v')
    (ha : ∀ w, (isAgg ty).run P w = .ok false w) (hb : ∀ w, (isAgg uy).run P w = .ok false w) :
    (results fn tmps).run P w = .ok (.tuple #[v, v']) w := by
  simp only [results, h]
  simp [Sem.run_bind, Result.andThen, hp, hq, asAddr, loadVar, ha, hb, hg, hg']
theorem own_same {w w' : World} {base k n : Nat} {e : TypeId} {v : Value} {xs : List Value} (h : w.ownsRow base e k v n xs) (hb : ∀ g, v.ownBlock = some g → w'.heap[g]? = w.heap[g]?) : w'.ownsRow base e k v n xs := by
  obtain ⟨h1, h2⟩ := h
  refine ⟨h1, h2.imp id ?_⟩
  rintro ⟨g, cap, cur, rfl, hb', hh, rest⟩
  exact ⟨g, cap, cur, rfl, hb', (hb g rfl).trans hh, rest⟩
/-- The block in which a slice of one's own lies is none of S. -/
def Off (S : Nat → Prop) (v : Value) : Prop := ∀ g, v.ownBlock = some g → ¬ S g
theorem ownsRow_one {W : World} {base k : Nat} {e : TypeId} {v : Value} {xs : List Value} (h : W.ownsRow base e 1 v (k + 1) xs) : ∃ g cap, v = .slice (some ⟨g, 0, none⟩) (k + 1) cap := by
  rcases h.2 with ⟨_, h0⟩ | ⟨g, cap, _, rfl, _⟩
  · cases h0
  · exact ⟨g, cap, rfl⟩
theorem Bx.grownB {W W' : World} {B : Nat} {t : TypeId} {v : Value} {row : Option Nat} (h : Bx W B t v) (hg : W.grownBy W' row) (hne : row ≠ some B) : Bx W' B t v := (hg.block B h.lt (fun e => hne e.symm)).trans h
theorem wpListIn_appS {F : Fence} {nF : Nat} {w : World} {ops : Array Oper} {rest : List Oper} {o : Oper} {a : Go.Act} {Q : Exit → Go.Act → World → Prop} (hgd : o.guard = none) (s x : Operand)
    (ho : o.op = .call { callee := .builtin .append, args := #[s, x], argTypes := #[71, 71] })
    (base : Nat) (v : Value) (n : Nat) (us : List Value) (hs : a.eval s = v) (hown : w.ownsRow base 9 1 v n us) (g : Nat) (Y : ByteArray) (hx : a.eval x = .slice (some ⟨g, 0, none⟩) 1 1)
    (hc : Bx w g 9 (.string Y)) (hn : n ≤ 2000000) (hbase : base ≤ w.heap.size)
    (h : ∀ v' w', w'.ownsRow base 9 1 v' (n + 1) (us ++ [.string Y]) → w.grownBy w' v.ownBlock → (v'.ownBlock = v.ownBlock ∨ v'.ownBlock = some w.heap.size) → wpListIn F nF Tryz.prog ops Q rest (a.put o.dst v') w') :
    wpListIn F nF Tryz.prog ops Q (o :: rest) a w := by
  obtain ⟨i, hi, hz, hsz, hby⟩ := info_parts elStr.info
  refine wpListIn_append_own_at w hgd s x _ ho base _ i _ 1 16 elStr.ht hi hz hsz hby elStr.one (by decide) v n us hs hown ⟨g, 0, none⟩ 1 1 [.string Y] hx rfl (fun j u hu => ?_) (fun u hu => by rw [List.mem_singleton.1 hu]; rfl) (by unfold maxLen; omega) (by omega) hbase fun v' w' h1 h2 _ h3 => h v' w' h1 h2 h3
  rcases j with _ | j
  · have hu' := Option.some.inj hu
    subst hu'
    unfold Addr.add
    rw [if_pos rfl]
    exact hc.cell
  · cases hu
/-- Where the results, the list so far and the rest lie, between two rounds. -/
structure LsI (w : World) (r1 r2 b4 : Nat) (S : Nat → Prop) (pre : List Tx) (V : World) : Prop where
  x1 : Bx V r1 71 (.slice none 0 0)
  x2 : Bx V r2 31 .nilIface
  s1 : ¬ S r1
  s2 : ¬ S r2
  s4 : ¬ S b4
  low : ∀ k, S k → w.heap.size ≤ k
  below : Below w.heap.size w V
  ne : ∀ p ∈ pre, p ≠ []
  own : ∃ v, Bx V b4 71 v ∧ V.ownsRow w.heap.size 9 1 v pre.length (pre.map txC) ∧ Off S v ∧ v.ownBlock ≠ some r1 ∧ v.ownBlock ≠ some r2 ∧ v.ownBlock ≠ some b4
structure LsX (w : World) (r1 r2 : Nat) (S : Nat → Prop) (V : World) : Prop where
  x1 : Bx V r1 71 (.slice none 0 0)
  x2 : Bx V r2 31 (errK 3)
  s1 : ¬ S r1
  s2 : ¬ S r2
  low : ∀ k, S k → w.heap.size ≤ k
  below : Below w.heap.size w V
theorem Turns.belowT {S T : Nat → Prop} {V V' : World} {n : Nat} (h : Turns S T V V') (hl : ∀ k, S k → n ≤ k) (hn : n ≤ V.heap.size) : Below n V V' :=
  ⟨h.os, h.tape, h.output, h.size, fun k hk => h.same k (Nat.lt_of_lt_of_le hk hn) fun hs => absurd (hl k hs) (Nat.not_le.2 hk)⟩
theorem Turns.not {S T : Nat → Prop} {V V' : World} (h : Turns S T V V') {k : Nat} (hk : k < V.heap.size) (hs : ¬ S k) : ¬ T k := fun ht => (h.more k ht).elim hs (fun hge => absurd hk (Nat.not_lt.2 hge))
theorem LsI.stays {w : World} {r1 r2 b4 : Nat} : Stays (LsI w r1 r2 b4) := fun S T pre V V' h ht => by
  obtain ⟨v, o1, o2, o3, o4⟩ := h.own
  have hb := ht.belowT h.low h.below.size
  refine ⟨h.x1.turned ht h.s1, h.x2.turned ht h.s2, ht.not h.x1.lt h.s1, ht.not h.x2.lt h.s2, ht.not o1.lt h.s4, fun k hk => (ht.more k hk).elim (h.low k) (fun hge => Nat.le_trans h.below.size hge), h.below.trans hb, h.ne, v, o1.turned ht h.s4, own_same o2 (fun g hg => ht.same g (o2.lt g hg).2 (o3 g hg)), fun g hg => ht.not (o2.lt g hg).2 (o3 g hg), o4⟩
theorem LsX.stays {w : World} {r1 r2 : Nat} (p : Prop) : Stays (α := Tx) (fun S _ V => LsX w r1 r2 S V ∧ p) := fun S T pre V V' h ht => by
  obtain ⟨h, hp⟩ := h
  have hb := ht.belowT h.low h.below.size
  exact ⟨⟨h.x1.turned ht h.s1, h.x2.turned ht h.s2, ht.not h.x1.lt h.s1, ht.not h.x2.lt h.s2, fun k hk => (ht.more k hk).elim (h.low k) (fun hge => Nat.le_trans h.below.size hge), h.below.trans hb⟩, hp⟩
/-- How List ends. -/
def LsE (R : List Tx × Nat) (w : World) (e : Ending) (w' : World) : Prop := ∃ v, e = .returned (.tuple #[v, errE R.2]) ∧ RowS w' v R.1 ∧ Below w.heap.size w w'
theorem RowS.nil (w : World) : RowS w (.slice Option.none 0 0) [] := ⟨Option.none, 0, rfl, Nat.le_refl _, Nat.zero_le _, Rd.nil⟩
theorem lsE_of {R : List Tx × Nat} {w w' : World} {v ev : Value} {L : List Tx} {k : Nat} (hR : (L, k) = R) (he : ev = errE k) (hv : RowS w' v L) (hb : Below w.heap.size w w') : LsE R w (.returned (.tuple #[v, ev])) w' := by
  subst hR
  subst he
  exact ⟨v, rfl, hv, hb⟩
theorem aggS (w : World) : (isAgg 71).run Tryz.prog w = .ok false w := run_isAgg_plain Tryz.underlying71 rfl w
theorem aggE (w : World) : (isAgg 31).run Tryz.prog w = .ok false w := run_isAgg_plain Tryz.underlying31 rfl w
/-- The world in which the two results lie, behind the mark. -/
theorem ls_end {w V : World} {r1 r2 D : Nat} {a b v e : Value} {t u : TypeId} (h12 : r1 ≠ r2) (hd1 : D ≠ r1) (hd2 : D ≠ r2) (h1 : w.heap.size ≤ r1) (h2 : w.heap.size ≤ r2) (hd : w.heap.size ≤ D) (Y1 : Bx V r1 t a) (Y2 : Bx V r2 u b) (hD : V.heap[D]? = some (.deferred (some []))) (hb : Below w.heap.size w V) :
    ((V.setCell ⟨r1, 0, none⟩ v).setCell ⟨r2, 0, none⟩ e).heap[D]? = some (.deferred (some [])) ∧ Bx (((V.setCell ⟨r1, 0, none⟩ v).setCell ⟨r2, 0, none⟩ e).putObj D (.deferred none)) r1 t v ∧ Bx (((V.setCell ⟨r1, 0, none⟩ v).setCell ⟨r2, 0, none⟩ e).putObj D (.deferred none)) r2 u e ∧
      Below w.heap.size w (((V.setCell ⟨r1, 0, none⟩ v).setCell ⟨r2, 0, none⟩ e).putObj D (.deferred none)) ∧ ∀ k, k ≠ r1 → k ≠ r2 → k ≠ D → (((V.setCell ⟨r1, 0, none⟩ v).setCell ⟨r2, 0, none⟩ e).putObj D (.deferred none)).heap[k]? = V.heap[k]? := by
  have hk : ∀ k, k ≠ r1 → k ≠ r2 → ((V.setCell ⟨r1, 0, none⟩ v).setCell ⟨r2, 0, none⟩ e).heap[k]? = V.heap[k]? := fun k q1 q2 => (Below.heap_setCell _ _ _ k q2).trans (Below.heap_setCell _ _ _ k q1)
  have hp : ∀ k, k ≠ D → (((V.setCell ⟨r1, 0, none⟩ v).setCell ⟨r2, 0, none⟩ e).putObj D (.deferred none)).heap[k]? = ((V.setCell ⟨r1, 0, none⟩ v).setCell ⟨r2, 0, none⟩ e).heap[k]? := fun k q => World.putObj_heap_other q
  have hbU := (hb.setCell (p := ⟨r1, 0, none⟩) h1 v).setCell (p := ⟨r2, 0, none⟩) h2 e
  refine ⟨(hk D hd1 hd2).trans hD, (hp r1 (Ne.symm hd1)).trans ((Y1.set v).other (p := ⟨r2, 0, none⟩) (Ne.symm h12) e), (hp r2 (Ne.symm hd2)).trans ((Y2.other (p := ⟨r1, 0, none⟩) h12 v).set e), ⟨hbU.os, hbU.tape, hbU.output, by rw [World.putObj_size]; exact hbU.size, fun k hk' => (hp k (by omega)).trans (hbU.block k hk')⟩, fun k q1 q2 q3 => (hp k q3).trans (hk k q1 q2)⟩
set_option maxRecDepth 100000 in
set_option maxHeartbeats 2000000 in
theorem list_any (l : Tx) (w : World) (hl : l.length ≤ 900000) : Calls Tryz.prog 66 #[.string (str l)] w (LsE (listT l) w) := by
  refine (callsIn_wide (n := 0)).1 ?_
  refine callsIn_of_wp_marks Tryz.func66 rfl trivial ?_ rfl
  simp only [Tryz.ntmps66, List.size_toArray, List.length_cons, List.length_nil, Nat.reduceAdd, Nat.reduceSub, Array.replicate_succ, Array.replicate_zero, List.push_toArray, List.append_toArray, List.nil_append, List.cons_append]
  obtain ⟨R, hR⟩ : ∃ R, listT l = R := ⟨_, rfl⟩
  rw [hR]
  have HT := Lib.hid (fun w => trim_any l w (by omega))
  have HP := Lib.hid (fun w => parts_any l w)
  have HD := Lib.hid (fun B S0 hs W h0 hB => parts1_deals l (by omega) B S0 hs W h0 hB)
  obtain ⟨V1, hV1⟩ : ∃ V1, (w.alloc (.cells #[.slice none 0 0] 71)).alloc (.cells #[.nilIface] 31) = V1 := ⟨_, rfl⟩
  have hb1 : Below w.heap.size w V1 := by rw [← hV1]; exact ((Below.refl _ _).alloc (Nat.le_refl _) _).alloc (by simp) _
  have hz1 : V1.heap.size = w.heap.size + 2 := by rw [← hV1]; simp
  have x1 : Bx V1 w.heap.size 71 (.slice none 0 0) := by rw [← hV1]; exact (Bx.new w _ _).alloc _
  have x2 : Bx V1 (w.heap.size + 1) 31 .nilIface := by
    have h := Bx.new (w.alloc (.cells #[.slice none 0 0] 71)) 31 .nilIface
    rw [World.size_alloc, hV1] at h
    exact h
  have HV := Lib.hid (And.intro hb1 (And.intro hz1 (And.intro x1 x2)))
  clear hb1 hz1 x1 x2
  by_cases ht : trw l = []
  · rw [ht] at HT
    have hRR : ([], 13) = R := by rw [← hR, listT, if_pos ht]
    have HR := Lib.hid hRR
    have t0 : str ([] : Tx) = { data := #[] } := rfl
    rw [t0] at HT
    generalize str l = D at *
    clear hRR hR t0 ht hl
    gi_wp2_with fail
    refine ⟨trivial, rfl, (callsIn_wide.2 (HT.out _)).mono ?_⟩
    rintro e V2 ⟨rfl, hb2⟩
    have X1 := HV.out.2.2.1.below hb2
    have X2 := HV.out.2.2.2.below hb2
    have c1 := X1.cell
    have c2 := X2.cell
    have f1 := X1.frozen
    have f2 := X2.frozen
    have HB := Lib.hid (And.intro X1 (And.intro X2 (HV.out.1.trans (hb2.mono HV.out.1.size))))
    clear X1 X2 hb2
    gi_wp2_with fail
    refine ⟨_, results_cells2 rfl _ _ _ _ _ _ rfl rfl ((HB.out.1.set _).other (by simp) _).cell ((HB.out.2.1.other (by simp) _).set _).cell aggS aggE, lsE_of HR.out rfl (RowS.nil _) ((HB.out.2.2.setCell (by simp) _).setCell (by simp) _)⟩
  · have t1 : (str (trw l)).toList.isEmpty = false := by rw [str_toList]; simpa using ht
    have hRR : (if chkT (partsT l) ≠ 0 then ([], chkT (partsT l)) else (partsT l, 0)) = R := by rw [← hR, listT, if_neg ht]
    have hxl : ∀ x ∈ partsT l, x.length ≤ 1000000 := fun x hx => by
      obtain ⟨p, hp, rfl⟩ := List.mem_map.1 hx
      have h1 := trw_len p
      have h2 := cut_le l p hp
      omega
    have hpl : (partsT l).length ≤ 1000000 := by
      rw [partsT, List.length_map, cutAt_length]
      have := List.count_le_length (a := (44 : UInt8)) (l := l)
      omega
    have HR := Lib.hid (And.intro hRR (And.intro hxl hpl))
    generalize str (trw l) = T at *
    generalize partsT l = xs at *
    generalize str l = D at *
    clear hRR hR ht hl hxl hpl
    gi_wp2_with fail
    refine ⟨trivial, rfl, (callsIn_wide.2 (HT.out _)).mono ?_⟩
    rintro e V2 ⟨rfl, hb2⟩
    obtain ⟨V3, hV3⟩ : ∃ V3, V2.alloc (.cells #[.slice none 0 0] 71) = V3 := ⟨_, rfl⟩
    have hb3 : Below V2.heap.size V2 V3 := by rw [← hV3]; exact (Below.refl _ _).alloc (Nat.le_refl _) _
    have hz3 : V3.heap.size = V2.heap.size + 1 := by rw [← hV3]; simp
    have x3 : Bx V3 V2.heap.size 71 (.slice none 0 0) := by rw [← hV3]; exact Bx.new _ _ _
    have HB := Lib.hid (And.intro hb2 (And.intro hb3 (And.intro hz3 x3)))
    clear hb2 hb3 hz3 x3
    gi_wp2_with fail
    refine ⟨trivial, rfl, (callsIn_wide.2 (HP.out _)).mono ?_⟩
    rintro e V4 ⟨rfl, hb4, hz4, x4⟩
    have hS0 : ∀ k, k = V3.heap.size → k < V4.heap.size := fun k h => by omega
    have hseq : ∀ V, Below V4.heap.size V4 V → Deals Tryz.prog 103 #[.pointer (some ⟨V3.heap.size, 0, none⟩)] txC xs (fun k => k = V3.heap.size) V := fun V hb => HD.out _ (fun k => k = V3.heap.size) rfl V (fun k h => Nat.lt_of_lt_of_le (hS0 k h) hb.size) (x4.below hb)
    have hbb : Below V1.heap.size V1 V4 := HB.out.1.trans ((HB.out.2.1.mono HB.out.1.size).trans (hb4.mono (Nat.le_trans HB.out.1.size HB.out.2.1.size)))
    have h0 : LsI w w.heap.size (w.heap.size + 1) V2.heap.size (fun k => k = V3.heap.size) [] V4 := by
      have h1 := HV.out.2.1
      have h2 := HB.out.1.size
      have h3 := HB.out.2.2.1
      have h4 := hbb.mono (B' := w.heap.size) (by omega)
      refine ⟨HV.out.2.2.1.below hbb, HV.out.2.2.2.below hbb, by omega, by omega, by omega, fun k h => by omega, HV.out.1.trans h4, (fun p hp => by cases hp), .slice none 0 0, HB.out.2.2.2.below hb4, World.ownsRow_nil _ _ _ _, (fun g hg => by cases hg), by simp [Value.ownBlock], by simp [Value.ownBlock], by simp [Value.ownBlock]⟩
    have hn12 : w.heap.size + 1 < V2.heap.size := by
      have h1 := HV.out.2.1
      have h2 := HB.out.1.size
      omega
    have HK := Lib.hid (And.intro hS0 (And.intro hseq (And.intro h0 hn12)))
    clear hS0 hseq hbb h0 hb4 hz4 x4 hn12
    gi_wp2_with fail
    refine wpIn_deals (gf := 103) rfl (enters_of Tryz.func103 (by kernel_rfl) rfl) (enc := txC) (xs := xs) (S0 := fun k => k = V3.heap.size) HK.out.1 HK.out.2.1
      (LsI w w.heap.size (w.heap.size + 1) V2.heap.size) (fun S _ V => LsX w w.heap.size (w.heap.size + 1) S V ∧ xs.any List.isEmpty = true) LsI.stays (LsX.stays _) HK.out.2.2.1
      (fun x => { tmps := #[.string D, undef, .pointer (some ⟨w.heap.size, 0, none⟩), .pointer (some ⟨w.heap.size + 1, 0, none⟩), .pointer (some ⟨V2.heap.size, 0, none⟩), .string (str x), undef, .string D, .string T, .bool false, undef, .string D,
        .func (.func 103) #[] #[.pointer (some ⟨V3.heap.size, 0, none⟩)], .string (str x), undef, undef, undef, undef, undef, undef, undef, undef, undef, undef, undef, undef, undef], defers := [] }) ?assign ?body ?done ?stop
    case assign =>
      intro l2 x V K hK
      gi_wp2_with fail
      exact hK
    case body =>
      rintro l2 S pre x post V hx hlt h
      have hn12 := HK.out.2.2.2
      have y1 := h.x1.cell
      have y2 := h.x2.cell
      have g1 := h.x1.frozen
      have g2 := h.x2.frozen
      have hbs := h.below.size
      rcases x with _ | ⟨c, x⟩
      · have t0 : str ([] : Tx) = { data := #[] } := rfl
        rw [t0]
        have HH := Lib.hid h
        have HX := Lib.hid hx
        clear h hx t0 hbs
        gi_wp2_with fail
        refine ⟨(Spares.setCell HH.out.s1 _).trans (Spares.setCell HH.out.s2 _), ⟨(HH.out.x1.set _).other (by simp) _, (HH.out.x2.other (by simp) _).set _, HH.out.s1, HH.out.s2, HH.out.low, (HH.out.below.setCell (by simp) _).setCell (by simp) _⟩, ?_⟩
        rw [HX.out]
        simp
      · have t2 : (str (c :: x)).toList.isEmpty = false := by rw [str_toList]; rfl
        obtain ⟨v, o1, o2, o3, o4, o5, o6⟩ := h.own
        have HT2 : Hid (Value.string (str (c :: x)) = txC (c :: x)) := rfl
        have hNE : (c :: x) ≠ [] := by simp
        obtain ⟨X, hX⟩ : ∃ X, c :: x = X := ⟨_, rfl⟩
        rw [hX] at HT2 t2 hNE hx ⊢
        clear hX
        obtain ⟨n, hn⟩ : ∃ n, pre.length = n := ⟨_, rfl⟩
        have hbig : n ≤ 1000000 := by
          have h1 := HR.out.2.2
          have h2 := congrArg List.length hx
          rw [List.length_append, List.length_cons] at h2
          omega
        rw [hn] at o2
        have z1 := o1.cell
        have zf := o1.frozen
        have HH := Lib.hid (And.intro h (And.intro o1 (And.intro o2 (And.intro o3 (And.intro o4 (And.intro o5 o6))))))
        have HN := Lib.hid (And.intro hn hNE)
        obtain ⟨A, hA⟩ : ∃ A, V.alloc (.cells #[.string (str X)] 9) = A := ⟨_, rfl⟩
        have hbA : Below V.heap.size V A := by rw [← hA]; exact (Below.refl _ _).alloc (Nat.le_refl _) _
        have hzA : A.heap.size = V.heap.size + 1 := by rw [← hA]; simp
        have hcA : Bx A V.heap.size 9 (.string (str X)) := by rw [← hA]; exact Bx.new _ _ _
        have HA := Lib.hid (And.intro hbA (And.intro hzA hcA))
        generalize str X = Y at *
        clear h hx o1 o2 o3 o4 o5 o6 hn hNE hbA hzA hcA hbs
        gi_wp2_with
          (gi_at_builtin
           refine wpListIn_appS rfl _ _ rfl w.heap.size v n (pre.map txC) rfl (own_same HH.out.2.2.1 (fun g hg => HA.out.1.block g (HH.out.2.2.1.lt g hg).2)) V.heap.size Y rfl HA.out.2.2 (by omega) (by have h1 := HH.out.1.below.size; have h2 := HA.out.2.1; omega) ?_
           intro v' w1 hown hg hob
           obtain ⟨g', cap', rfl⟩ := ownsRow_one hown
           have HG := Lib.hid (And.intro hown (And.intro hg hob))
           have q1 := ((HH.out.2.1.below HA.out.1).grownB hg HH.out.2.2.2.2.2.2).cell
           have q2 := ((HH.out.2.1.below HA.out.1).grownB hg HH.out.2.2.2.2.2.2).frozen
           clear hown hg hob)
        obtain ⟨e1, e2, e3⟩ := HG.out
        have hH := HH.out.1
        have hob4 := HH.out.2.2.2.2.2.2
        have hbs := hH.below.size
        have hl4 := HH.out.2.1.lt
        have hs2 := hH.x2.lt
        have hs1 := hH.x1.lt
        have hzA := HA.out.2.1
        have hnew : ∀ k, k < V.heap.size → v.ownBlock ≠ some k → (Value.slice (some ⟨g', 0, none⟩) (n + 1) cap').ownBlock ≠ some k := fun k hk hne => by
          rcases e3 with e3 | e3
          · rw [e3]; exact hne
          · rw [e3, hzA]
            intro h
            injection h with h
            omega
        have hlow : ∀ k, v.ownBlock = some k → w.heap.size ≤ k := fun k hk => (HH.out.2.2.1.lt k hk).1
        have hA1 : Bx A w.heap.size 71 (.slice none 0 0) := hH.x1.below HA.out.1
        have hA2 : Bx A (w.heap.size + 1) 31 .nilIface := hH.x2.below HA.out.1
        have hA4 : Bx A V2.heap.size 71 v := HH.out.2.1.below HA.out.1
        have hn12 := HK.out.2.2.2
        refine ⟨((Spares.below hlt HA.out.1).trans (Spares.grown e2 (fun k hk => Nat.lt_of_lt_of_le (hlt k hk) HA.out.1.size) (fun k hk => HH.out.2.2.2.1 k hk))).trans (Spares.setCell hH.s4 _), ?_⟩
        refine ⟨(hA1.grownB e2 HH.out.2.2.2.2.1).other (by simp; omega) _, (hA2.grownB e2 HH.out.2.2.2.2.2.1).other (by simp; omega) _, hH.s1, hH.s2, hH.s4, hH.low,
          ((hH.below.trans (HA.out.1.mono hbs)).grown e2 (by omega) hlow).setCell (by simp; omega) _, fun p hp => ?_, .slice (some ⟨g', 0, none⟩) (n + 1) cap', (hA4.grownB e2 hob4).set _, ?_, ?_, hnew _ hs1 HH.out.2.2.2.2.1, hnew _ hs2 HH.out.2.2.2.2.2.1, hnew _ hl4 hob4⟩
        · rcases List.mem_append.1 hp with hp | hp
          · exact hH.ne p hp
          · rw [List.mem_singleton.1 hp]; exact HN.out.2
        · have hlen : (pre ++ [X]).length = n + 1 := by rw [List.length_append, HN.out.1]; rfl
          rw [hlen, List.map_append, List.map_singleton, ← HT2.out]
          refine own_same e1 fun g hg => Below.heap_setCell w1 _ _ g ?_
          rintro rfl
          exact hnew _ hl4 hob4 hg
        · intro g hg hS
          rcases e3 with e3 | e3
          · rw [e3] at hg
            exact HH.out.2.2.2.1 g hg hS
          · rw [e3, hzA] at hg
            injection hg with hg
            have := hlt g hS
            omega
    case done =>
      rintro D2 S V hlt hD h hd
      obtain ⟨v, o1, o2, o3, o4, o5, o6⟩ := h.own
      obtain ⟨A, c, rfl, hc1, hc2, hln, hrd, hbl⟩ := owns_form o2
      obtain ⟨n, hn⟩ : ∃ n, xs.length = n := ⟨_, rfl⟩
      have hbig : n ≤ 1000000 := by have := HR.out.2.2; omega
      have hCt := Lib.hid (count_any A n c xs V hn hbig HR.out.2.1 hrd)
      have hno : xs.any List.isEmpty = false := by
        rw [List.any_eq_false]
        intro p hp he
        exact h.ne p hp (List.isEmpty_iff.1 he)
      have hck : chkT xs = cntT xs := by rw [chkT, hno, if_neg (by simp)]; rfl
      have z1 := o1.cell
      have y1 := h.x1.cell
      have y2 := h.x2.cell
      have g1 := h.x1.frozen
      have g2 := h.x2.frozen
      have hRd : n ≤ c ∧ c ≤ maxLen ∧ RdS V A xs ∧ ∀ p, A = some p → p.block ≠ w.heap.size ∧ p.block ≠ w.heap.size + 1 ∧ p.block ≠ D2 := ⟨hn ▸ hc1, hc2, hrd, fun p hp => by
        subst hp
        exact ⟨fun e => o4 (by rw [← e]; rfl), fun e => o5 (by rw [← e]; rfl), fun e => o3 p.block rfl (e ▸ hD)⟩⟩
      rw [hn] at hc1 o1 z1
      have HH := Lib.hid (And.intro h (And.intro o1 (And.intro hRd (And.intro hD (And.intro hd (And.intro hlt hln))))))
      have hRk := HR.out.1
      rw [hck] at hRk
      obtain ⟨k, hk⟩ : ∃ k, cntT xs = k := ⟨_, rfl⟩
      rw [hk] at hRk hCt
      have HRk := Lib.hid hRk
      have hn12 := HK.out.2.2.2
      have HN5 := Lib.hid hn
      clear h o1 o2 o3 o4 o5 o6 hln hrd hbl hRd hD hd hlt hno hck hRk hk hn
      gi_wp2_with fail
      refine ⟨trivial, rfl, (callsIn_wide.2 hCt.out).mono ?_⟩
      rintro e V5 ⟨rfl, hb5⟩
      have Y1 := HH.out.1.x1.below hb5
      have Y2 := HH.out.1.x2.below hb5
      have Y4 := HH.out.2.1.below hb5
      have y1 := Y1.cell
      have y2 := Y2.cell
      have z1 := Y4.cell
      have g1 := Y1.frozen
      have g2 := Y2.frozen
      have hD5 : V5.heap[D2]? = some (.deferred (some [])) := (hb5.block D2 (Array.getElem?_eq_some_iff.1 HH.out.2.2.2.2.1).1).trans HH.out.2.2.2.2.1
      have HQ := Lib.hid (And.intro Y1 (And.intro Y2 (And.intro (HH.out.1.below.trans (hb5.mono HH.out.1.below.size)) (And.intro hD5 (Rd.below HH.out.2.2.1.2.2.1 hb5)))))
      have hnD : D2 ≠ w.heap.size ∧ D2 ≠ w.heap.size + 1 := ⟨fun e => HH.out.1.s1 (e ▸ HH.out.2.2.2.1), fun e => HH.out.1.s2 (e ▸ HH.out.2.2.2.1)⟩
      have HND := Lib.hid hnD
      have hbs5 := Lib.hid hb5.size
      clear Y1 Y2 Y4 hD5 hb5 hnD
      by_cases hk0 : k = 0
      · subst hk0
        have HRk0 : Hid ((xs, 0) = R) := HRk.out
        rw [errE_zero]
        clear HRk
        gi_wp2_with fail
        obtain ⟨q1, q2, q3, q4, q5⟩ := ls_end (w := w) (v := .slice A n c) (e := .nilIface) (by omega) HND.out.1 HND.out.2 (Nat.le_refl _) (by omega) (HH.out.1.low _ HH.out.2.2.2.1) HQ.out.1 HQ.out.2.1 HQ.out.2.2.2.1 HQ.out.2.2.1
        refine ⟨by simp, .inl ⟨_, _, rfl, run_takeDeferred q1, _, results_cells2 rfl _ _ _ _ _ _ rfl rfl q2.cell q3.cell aggS aggE, lsE_of HRk0.out errE_zero.symm ⟨A, c, ?_, ?_, HH.out.2.2.1.2.1, ?_⟩ q4⟩⟩
        · rw [HN5.out]
        · rw [HN5.out]; exact HH.out.2.2.1.1
        · refine Rd.keep HQ.out.2.2.2.2 fun p hp _ => ?_
          obtain ⟨b1, b2, b3⟩ := HH.out.2.2.1.2.2.2 p hp.symm
          exact q5 _ b1 b2 b3
      · have HRk0 : Hid (([], k) = R) := by have h1 := HRk.out; rw [if_pos hk0] at h1; exact h1
        have hE : errE k = errK k := if_neg hk0
        rw [hE]
        have HE := Lib.hid hE
        unfold errK
        have HK0 := Lib.hid hk0
        clear HRk hE hk0
        gi_wp2_with fail
        obtain ⟨q1, q2, q3, q4, _⟩ := ls_end (w := w) (v := .slice none 0 0) (e := .iface 27 (.int .i64 (k : Int))) (by omega) HND.out.1 HND.out.2 (Nat.le_refl _) (by omega) (HH.out.1.low _ HH.out.2.2.2.1) HQ.out.1 HQ.out.2.1 HQ.out.2.2.2.1 HQ.out.2.2.1
        refine ⟨by simp, .inl ⟨_, _, rfl, run_takeDeferred q1, _, results_cells2 rfl _ _ _ _ _ _ rfl rfl q2.cell q3.cell aggS aggE, lsE_of HRk0.out HE.out.symm (RowS.nil _) q4⟩⟩
    case stop =>
      rintro D2 S pre V hlt hD ⟨h, hany⟩ hd
      have hRR : ([], 3) = R := by
        rw [← HR.out.1]
        have : chkT xs = 3 := by rw [chkT, if_pos hany]
        rw [this]
        rfl
      have HH := Lib.hid (And.intro h (And.intro hD (And.intro hd hRR)))
      clear h hD hd hany hRR
      gi_wp2_with fail
      refine ⟨by simp, .inl ⟨_, _, rfl, run_takeDeferred HH.out.2.2.1, ?_⟩⟩
      have ht : Turns S S V (V.putObj D2 (.deferred none)) := Turns.putObj hlt HH.out.2.1 _
      refine ⟨_, results_cells2 rfl _ _ _ _ _ _ rfl rfl (HH.out.1.x1.turned ht HH.out.1.s1).cell (HH.out.1.x2.turned ht HH.out.1.s2).cell aggS aggE, lsE_of HH.out.2.2.2 rfl (RowS.nil _) (HH.out.1.below.trans (ht.belowT HH.out.1.low HH.out.1.below.size))⟩
end Go.Proofs.YthnogakjaaopkaaGreatDoor

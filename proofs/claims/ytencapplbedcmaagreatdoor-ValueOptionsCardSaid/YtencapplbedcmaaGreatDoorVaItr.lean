/- Loops over an iterator that keeps blocks of its own (a variable that it has captured and writes; the record of a loop within it). The iterator's own blocks are a set S that grows; a round leaves them as they lay, the iterator leaves all others. Plain theorems; no statement of the seat is proved here. -/
import Derived.RangeFuncRecord
import Derived.RangeFuncSeq
import Derived.ControlIn
import Derived.Test.YtencapplbedcmaaGreatDoorBase
namespace Go.Proofs.YtencapplbedcmaaGreatDoor
open Go.RowKit

/-- From W to W' only blocks of S were written; T are the iterator's blocks behind that. -/
structure Turns (S T : Nat → Prop) (W W' : World) : Prop where
  os : W'.os = W.os
  tape : W'.tape = W.tape
  output : W'.output = W.output
  size : W.heap.size ≤ W'.heap.size
  same : ∀ k, k < W.heap.size → ¬ S k → W'.heap[k]? = W.heap[k]?
  more : ∀ k, T k → S k ∨ W.heap.size ≤ k
  lt : ∀ k, T k → k < W'.heap.size
/-- What the iterator's steps leave true. -/
def Stays {α : Type} (J : (Nat → Prop) → List α → World → Prop) : Prop := ∀ S T s W W', J S s W → Turns S T W W' → J T s W'
/-- A round's word to the iterator. -/
structure Spares (S : Nat → Prop) (W W' : World) : Prop where
  size : W.heap.size ≤ W'.heap.size
  same : ∀ k, S k → W'.heap[k]? = W.heap[k]?
/-- The value deals xs out, one by one, unless a round says no. -/
def Deals {α : Type} (P : Program) (g : Nat) (lb : Array Value) (enc : α → Value) (xs : List α) (S0 : Nat → Prop) (W : World) : Prop :=
  ∀ (l : Nat) (J Jx : (Nat → Prop) → List α → World → Prop), Stays J → Stays Jx →
    (∀ S pre x post W1, xs = pre ++ x :: post → J S pre W1 → YieldAt Fence.wide 0 P l #[enc x] W1 fun e W' =>
      Spares S W1 W' ∧ ((e = .returned (.bool true) ∧ J S (pre ++ [x]) W') ∨ (e = .returned (.bool false) ∧ Jx S (pre ++ [x]) W'))) →
    J S0 [] W → CallsIn Fence.wide 0 P g (#[.func (.yield l) #[] #[]] ++ lb) W fun e W' => (∃ v, e = .returned v) ∧ ∃ S, J S xs W' ∨ ∃ pre, Jx S pre W'
section
variable {S T U : Nat → Prop} {W W' W'' : World}
theorem Turns.trans (h : Turns S T W W') (k : Turns T U W' W'') : Turns S U W W'' :=
  ⟨k.os.trans h.os, k.tape.trans h.tape, k.output.trans h.output, Nat.le_trans h.size k.size, fun i hi hs => (k.same i (Nat.lt_of_lt_of_le hi h.size) (fun ht => (h.more i ht).elim hs (fun hge => absurd hi (Nat.not_lt.2 hge)))).trans (h.same i hi hs),
   fun i hu => (k.more i hu).elim (h.more i) (fun hge => .inr (Nat.le_trans h.size hge)), k.lt⟩
theorem Turns.putObj (hS : ∀ k, S k → k < W.heap.size) {l : Nat} (h : S l) (o : Obj) : Turns S S W (W.putObj l o) :=
  ⟨rfl, rfl, rfl, by simp, fun _ _ hn => World.putObj_heap_other (fun e => hn (e ▸ h)), fun _ h => .inl h, fun k h => by rw [World.putObj_size]; exact hS k h⟩
theorem Turns.below (hS : ∀ k, S k → k < W.heap.size) (hb : Below W.heap.size W W') : Turns S S W W' :=
  ⟨hb.os, hb.tape, hb.output, hb.size, fun k hk _ => hb.block k hk, fun _ h => .inl h, fun k h => Nat.lt_of_lt_of_le (hS k h) hb.size⟩
theorem Turns.newer (hS : ∀ k, S k → k < W.heap.size) (hb : Below W.heap.size W W') : Turns S (fun k => S k ∨ (W.heap.size ≤ k ∧ k < W'.heap.size)) W W' :=
  ⟨hb.os, hb.tape, hb.output, hb.size, fun k hk _ => hb.block k hk, fun _ h => h.elim .inl (fun h => .inr h.1), fun k h => h.elim (fun h => Nat.lt_of_lt_of_le (hS k h) hb.size) (fun h => h.2)⟩
theorem Turns.setCell (hS : ∀ k, S k → k < W.heap.size) {p : Addr} (h : S p.block) (v : Value) : Turns S S W (W.setCell p v) :=
  ⟨rfl, rfl, rfl, by simp [World.setCell], fun k _ hn => Below.heap_setCell W p v k (fun e => hn (e ▸ h)), fun _ h => .inl h, fun k h => by have := hS k h; simpa [World.setCell] using this⟩
theorem Spares.trans (h : Spares S W W') (k : Spares S W' W'') : Spares S W W'' := ⟨Nat.le_trans h.size k.size, fun i hi => (k.same i hi).trans (h.same i hi)⟩
theorem Spares.below (hS : ∀ k, S k → k < W.heap.size) (hb : Below W.heap.size W W') : Spares S W W' := ⟨hb.size, fun k h => hb.block k (hS k h)⟩
theorem Spares.setCell {p : Addr} (h : ¬ S p.block) (v : Value) : Spares S W (W.setCell p v) :=
  ⟨by simp [World.setCell], fun k hk => Below.heap_setCell W p v k (fun e => h (e ▸ hk))⟩
theorem Spares.sub (h : Spares T W W') (hs : ∀ k, S k → T k) : Spares S W W' := ⟨h.size, fun k hk => h.same k (hs k hk)⟩
theorem Spares.cell (h : Spares S W W') {p : Addr} (hp : S p.block) : W'.cell? p = W.cell? p := World.cell?_of_block (h.same _ hp)
theorem Spares.grown {row : Option Nat} (hg : W.grownBy W' row) (hS : ∀ k, S k → k < W.heap.size) (hr : ∀ k, row = some k → ¬ S k) : Spares S W W' :=
  ⟨hg.size, fun k hk => hg.block k (hS k hk) (fun e => hr k e.symm hk)⟩
end
/-- How a round may be left. -/
def roundEnds {α : Type} (I Ix : (Nat → Prop) → List α → World → Prop) (S : Nat → Prop) (xs : List α) (W : World) : Exit → Act → World → Prop
  | .normal, _, W' => Spares S W W' ∧ I S xs W'
  | .ret, _, W' => Spares S W W' ∧ Ix S xs W'
  | _, _, _ => False
theorem wpIn_deals {α : Type} {P : Program} {g : Operand} {p : Tmp} {assign body : Code} {Q : Exit → Act → World → Prop} {a : Act} {w : World} {gf : Nat} {lb : Array Value}
    (hg : a.eval g = .func (.func gf) #[] lb) (eg : ∀ args w, (callFunc gf args).run P w = .ok (.enter gf args) w)
    {enc : α → Value} {xs : List α} {S0 : Nat → Prop} (hS0 : ∀ k, S0 k → k < w.heap.size) (hseq : ∀ W, Below w.heap.size w W → Deals P gf lb enc xs S0 W)
    (I Ix : (Nat → Prop) → List α → World → Prop) (hI : Stays I) (hIx : Stays Ix) (h0 : I S0 [] w) (a₁ : α → Act)
    (hassign : ∀ (l : Nat) (x : α) (W : World) (K : Act → World → Prop), K (a₁ x) W →
      assign.wpIn (Fence.wide.inRound l) 0 P (Exit.then K (fun _ _ _ => False)) { tmps := a.tmps.setIfInBounds p (enc x), defers := [] } W)
    (hbody : ∀ (l : Nat) (S : Nat → Prop) (pre : List α) (x : α) (post : List α) (W : World), xs = pre ++ x :: post → (∀ k, S k → k < W.heap.size) → I S pre W →
      body.wpIn (Fence.wide.inRound l) 0 P (roundEnds I Ix S (pre ++ [x]) W) (a₁ x) W)
    (hdone : ∀ (D : Nat) (S : Nat → Prop) (W : World), (∀ k, S k → k < W.heap.size) → S D → I S xs W → W.heap[D]? = some (.deferred (some [])) →
      Q .normal { a with defers := { target := .collected D, args := #[] } :: a.defers } W)
    (hstop : ∀ (D : Nat) (S : Nat → Prop) (pre : List α) (W : World), (∀ k, S k → k < W.heap.size) → S D → Ix S pre W → W.heap[D]? = some (.deferred (some [])) →
      Code.ret.wpIn Fence.wide 0 P Q { a with defers := { target := .collected D, args := #[] } :: a.defers } W) :
    (Code.rangeFunc g #[p] assign body).wpIn Fence.wide 0 P Q a w := by
  refine wpIn_rangeFunc fun fn _ => ?_
  obtain ⟨r, hr⟩ : ∃ r : LoopState → Option Code → Loop, r = fun st pe => { state := st, pending := pe, fn, tmps := a.tmps, params := #[p], assign, body, defers := w.heap.size } := ⟨_, rfl⟩
  obtain ⟨D, hD⟩ : ∃ D, w.heap.size = D := ⟨_, rfl⟩
  obtain ⟨L, hL⟩ : ∃ L, D + 1 = L := ⟨_, rfl⟩
  obtain ⟨V, hV⟩ : ∃ V, (w.alloc (.deferred (some []))).alloc (.loop (r .ready none)) = V := ⟨_, rfl⟩
  have hbV : Below w.heap.size w V := by
    rw [← hV]
    exact ((Below.refl _ w).alloc (Nat.le_refl _) _).alloc (by simp) _
  have hsV : V.heap.size = L + 1 := by rw [← hV, World.size_alloc, World.size_alloc, hD, hL]
  have hVL : V.heap[L]? = some (.loop (r .ready none)) := by
    have := World.alloc_heap_new (w.alloc (.deferred (some []))) (.loop (r .ready none))
    rwa [World.size_alloc, hD, hL, hV] at this
  have hVD : V.heap[D]? = some (.deferred (some [])) := by
    rw [← hV, Below.heap_alloc _ _ _ (by rw [World.size_alloc, hD]; omega), ← hD]
    exact World.alloc_heap_new w _
  have hrs : ∀ st pe, (r st pe).params = #[p] ∧ (r st pe).state = st ∧ (r st pe).fn = fn ∧ (r st pe).tmps = a.tmps ∧ (r st pe).assign = assign ∧ (r st pe).body = body := fun st pe => by rw [hr]; exact ⟨rfl, rfl, rfl, rfl, rfl, rfl⟩
  refine ⟨L, [{ target := .collected D, args := #[] }], V, { target := .fn (.func gf) lb, args := #[.func (.yield L) #[] #[]] }, V, gf, #[.func (.yield L) #[] #[]] ++ lb, V, ?_, ?_, fun _ _ => trivial, ?_, (fun h => absurd h (by decide)), ?_⟩
  · rw [← hV, ← hL, ← hD, hr]
    exact run_enterLoop_outer _ _ _ _ _
  · simp only [resolve, hg]
    simp [go_sem]
  · simp [invoke, go_sem, eg]
  · have own : ∀ {S T : Nat → Prop} {A B : World}, Turns S T A B → D < A.heap.size → L < A.heap.size → Turns (fun k => S k ∨ k = D ∨ k = L) (fun k => T k ∨ k = D ∨ k = L) A B := fun h h1 h2 =>
      ⟨h.os, h.tape, h.output, h.size, fun k hk hn => h.same k hk (fun hs => hn (.inl hs)), fun k hk => hk.elim (fun ht => (h.more k ht).elim (fun x => .inl (.inl x)) .inr) (fun e => .inl (.inr e)),
       fun k hk => hk.elim (h.lt k) (fun e => e.elim (fun e => e ▸ Nat.lt_of_lt_of_le h1 h.size) (fun e => e ▸ Nat.lt_of_lt_of_le h2 h.size))⟩
    have book : ∀ (R : Loop) (M : (Nat → Prop) → List α → World → Prop), Stays M → Stays (fun S s W => M (fun k => S k ∨ k = D ∨ k = L) s W ∧ W.heap[L]? = some (.loop R) ∧ W.heap[D]? = some (.deferred (some [])) ∧ ¬ S L ∧ ¬ S D ∧ ∀ k, S k → k < W.heap.size) := fun R M hM S T s A B h ht => by
      obtain ⟨h1, h2, h3, h4, h5, _⟩ := h
      have l1 := (Array.getElem?_eq_some_iff.1 h2).1
      have l2 := (Array.getElem?_eq_some_iff.1 h3).1
      exact ⟨hM _ _ _ _ _ h1 (own ht l2 l1), (ht.same L l1 h4).trans h2, (ht.same D l2 h5).trans h3, fun hT => (ht.more L hT).elim h4 (fun hge => absurd l1 (Nat.not_lt.2 hge)), fun hT => (ht.more D hT).elim h5 (fun hge => absurd l2 (Nat.not_lt.2 hge)), ht.lt⟩
    refine (hseq V hbV L _ _ (book (r .ready none) I hI) (book (r .done (some .ret)) Ix hIx) ?_ ⟨?_, hVL, hVD, fun h => absurd (hS0 _ h) (by omega), fun h => absurd (hS0 _ h) (by omega), fun k h => Nat.lt_of_lt_of_le (hS0 k h) hbV.size⟩).mono ?_
    · rintro S pre x post W hx ⟨hi, hl, hd, hnl, hnd, hlt⟩
      have lL := (Array.getElem?_eq_some_iff.1 hl).1
      have lD := (Array.getElem?_eq_some_iff.1 hd).1
      have hy := run_yield (P := P) (args := #[enc x]) hl (by rw [(hrs _ _).1]; rfl)
      have hbr := run_beginRound (P := P) hl (hrs _ _).2.1
      obtain ⟨q1, _, q3, q4, q5, q6⟩ := hrs .ready none
      rw [q1, q3, q4, q5, q6] at hy
      have hz : ((#[p] : Array Tmp).zip #[enc x]).foldl (fun tmps (t, a) => tmps.setIfInBounds t a) a.tmps = a.tmps.setIfInBounds p (enc x) := by simp
      rw [hz] at hy
      have hall : ∀ k, (S k ∨ k = D ∨ k = L) → k < W.heap.size := fun k h => h.elim (hlt k) (fun e => e.elim (fun e => e ▸ lD) (fun e => e ▸ lL))
      refine ⟨fn, _, assign, body, hy, roundIn_of_wpIn trivial ?_⟩
      refine hassign _ x W _ ?_
      refine ⟨_, hbr, ?_⟩
      obtain ⟨A, hA⟩ : ∃ A, W.putObj L (.loop { r .ready none with state := .busy }) = A := ⟨_, rfl⟩
      have hAL : A.heap[L]? = some (.loop { r .ready none with state := .busy }) := by rw [← hA]; exact World.putObj_heap_same lL
      have hAD : A.heap[D]? = some (.deferred (some [])) := by rw [← hA]; exact (World.putObj_heap_other (by omega)).trans hd
      have hAs : A.heap.size = W.heap.size := by rw [← hA]; exact World.putObj_size
      have hAi : I (fun k => S k ∨ k = D ∨ k = L) pre A := hI _ _ _ _ _ hi (by rw [← hA]; exact Turns.putObj hall (.inr (.inr rfl)) _)
      have hAo : ∀ k, k ≠ L → A.heap[k]? = W.heap[k]? := fun k hk => by rw [← hA]; exact World.putObj_heap_other hk
      rw [hA]
      refine wpIn_mono (hbody L _ pre x post A hx (fun k h => by rw [hAs]; exact hall k h) hAi) ?_
      have fin : ∀ (jump : Option Code) (B : World), Spares (fun k => S k ∨ k = D ∨ k = L) A B → (Instr.endRound L jump).run P B = .ok (.bool jump.isNone) (B.putObj L (.loop (r (if jump.isNone then .ready else .done) jump))) ∧ Spares S W (B.putObj L (.loop (r (if jump.isNone then .ready else .done) jump))) ∧ Turns (fun k => S k ∨ k = D ∨ k = L) (fun k => S k ∨ k = D ∨ k = L) B (B.putObj L (.loop (r (if jump.isNone then .ready else .done) jump))) ∧ (B.putObj L (.loop (r (if jump.isNone then .ready else .done) jump))).heap[L]? = some (.loop (r (if jump.isNone then .ready else .done) jump)) ∧ (B.putObj L (.loop (r (if jump.isNone then .ready else .done) jump))).heap[D]? = some (.deferred (some [])) ∧ W.heap.size ≤ (B.putObj L (.loop (r (if jump.isNone then .ready else .done) jump))).heap.size := fun jump B hk => by
        have hBL := (hk.same L (.inr (.inr rfl))).trans hAL
        have hBD := (hk.same D (.inr (.inl rfl))).trans hAD
        have e := run_endRound (P := P) jump hBL
        have hsz : W.heap.size ≤ B.heap.size := hAs ▸ hk.size
        refine ⟨?_, ⟨?_, fun k h => ?_⟩, Turns.putObj (fun k h => Nat.lt_of_lt_of_le (hall k h) hsz) (.inr (.inr rfl)) _, World.putObj_heap_same (Array.getElem?_eq_some_iff.1 hBL).1, (World.putObj_heap_other (by omega)).trans hBD, ?_⟩
        · rw [e, hr]
        · rw [World.putObj_size]; exact hsz
        · have hkL : k ≠ L := fun e => hnl (e ▸ h)
          exact ((World.putObj_heap_other hkL).trans (hk.same k (.inl h))).trans (hAo k hkL)
        · rw [World.putObj_size]; exact hsz
      rintro e b B hp
      cases e with
      | normal =>
        obtain ⟨hk, hi2⟩ := hp
        obtain ⟨f1, f2, f3, f4, f5, f6⟩ := fin none B hk
        exact ⟨_, _, f1, f2, .inl ⟨rfl, hI _ _ _ _ _ hi2 f3, f4, f5, hnl, hnd, fun k h => Nat.lt_of_lt_of_le (hlt k h) f6⟩⟩
      | ret =>
        obtain ⟨hk, hi2⟩ := hp
        obtain ⟨f1, f2, f3, f4, f5, f6⟩ := fin (some .ret) B hk
        exact ⟨_, _, f1, f2, .inr ⟨rfl, hIx _ _ _ _ _ hi2 f3, f4, f5, hnl, hnd, fun k h => Nat.lt_of_lt_of_le (hlt k h) f6⟩⟩
      | exit id => exact hp.elim
      | goto t => exact hp.elim
      | panic ch => exact hp.elim
      | outgrown => exact hp.elim
    · refine hI S0 _ [] w V h0 ⟨hbV.os, hbV.tape, hbV.output, hbV.size, fun k hk _ => hbV.block k hk, fun k h => h.elim .inl (fun e => .inr (by omega)), fun k h => h.elim (fun h => Nat.lt_of_lt_of_le (hS0 k h) hbV.size) (fun e => by omega)⟩
    · rintro e B ⟨⟨v, rfl⟩, S, ⟨hi, hl, hd, _, _, hlt⟩ | ⟨pre, hi, hl, hd, _, _, hlt⟩⟩
      · have lL := (Array.getElem?_eq_some_iff.1 hl).1
        have lD := (Array.getElem?_eq_some_iff.1 hd).1
        have hall : ∀ k, (S k ∨ k = D ∨ k = L) → k < B.heap.size := fun k h => h.elim (hlt k) (fun e => e.elim (fun e => e ▸ lD) (fun e => e ▸ lL))
        have e := run_endLoop (P := P) hl (by rw [(hrs _ _).2.1]; intro h; cases h)
        rw [hr] at e
        refine ⟨none, _, e, hdone D _ _ (fun k h => by rw [World.putObj_size]; exact hall k h) (.inr (.inl rfl)) (hI _ _ _ _ _ hi (Turns.putObj hall (.inr (.inr rfl)) _)) ((World.putObj_heap_other (by omega)).trans hd)⟩
      · have lL := (Array.getElem?_eq_some_iff.1 hl).1
        have lD := (Array.getElem?_eq_some_iff.1 hd).1
        have hall : ∀ k, (S k ∨ k = D ∨ k = L) → k < B.heap.size := fun k h => h.elim (hlt k) (fun e => e.elim (fun e => e ▸ lD) (fun e => e ▸ lL))
        have e := run_endLoop (P := P) hl (by rw [(hrs _ _).2.1]; intro h; cases h)
        rw [hr] at e
        refine ⟨some .ret, _, e, hstop D _ pre _ (fun k h => by rw [World.putObj_size]; exact hall k h) (.inr (.inl rfl)) (hIx _ _ _ _ _ hi (Turns.putObj hall (.inr (.inr rfl)) _)) ((World.putObj_heap_other (by omega)).trans hd)⟩
end Go.Proofs.YtencapplbedcmaaGreatDoor

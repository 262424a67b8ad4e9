/- VaIt3, IhVl, IhCo, IhSt, in one text. -/
import Derived.Test.YthnogakjaaopkaaGreatDoorVaPt
import Derived.Test.YthnogakjaaopkaaGreatDoorIhCB
import Derived.Test.YthnogakjaaopkaaGreatDoorShelfI
import Derived.Sort.Walk0
/- Loops over an iterator whose order nobody knows (a map's); see VaItr. Plain theorems. -/
namespace Go.Proofs.YthnogakjaaopkaaGreatDoor
open Go.RowKit

/-- The value deals out lists that may be, one by one; behind the last one the list is full, unless a round says no. -/
def DealsM {α : Type} (P : Program) (g : Nat) (lb : Array Value) (enc : α → Value) (OK Full : List α → Prop) (S0 : Nat → Prop) (F : World → Prop) (W : World) : Prop :=
  ∀ (l : Nat) (J Jx : (Nat → Prop) → List α → World → Prop), Stays J → Stays Jx → (∀ S s V, J S s V → F V) →
    (∀ S pre x W1, OK (pre ++ [x]) → J S pre W1 → YieldAt Fence.wide 0 P l #[enc x] W1 fun e W' =>
      Spares S W1 W' ∧ ((e = .returned (.bool true) ∧ J S (pre ++ [x]) W') ∨ (e = .returned (.bool false) ∧ Jx S (pre ++ [x]) W'))) →
    J S0 [] W → CallsIn Fence.wide 0 P g (#[.func (.yield l) #[] #[]] ++ lb) W fun e W' => (∃ v, e = .returned v) ∧ ∃ S, (∃ xs, Full xs ∧ J S xs W') ∨ ∃ pre, Jx S pre W'
theorem wpIn_dealsM {α : Type} {P : Program} {g : Operand} {p : Tmp} {assign body : Code} {Q : Exit → Act → World → Prop} {a : Act} {w : World} {gf : Nat} {lb : Array Value}
    (hg : a.eval g = .func (.func gf) #[] lb) (eg : ∀ args w, (callFunc gf args).run P w = .ok (.enter gf args) w)
    {enc : α → Value} {OK Full : List α → Prop} {S0 : Nat → Prop} {F : World → Prop} (hS0 : ∀ k, S0 k → k < w.heap.size) (hseq : ∀ W, Below w.heap.size w W → DealsM P gf lb enc OK Full S0 F W)
    (I Ix : (Nat → Prop) → List α → World → Prop) (hI : Stays I) (hIx : Stays Ix) (hIF : ∀ S s V, I S s V → F V) (h0 : I S0 [] w) (fr : α → Nat → Act) (cs : α → Array Value) (ct : TypeId)
    (hassign : ∀ (l : Nat) (x : α) (W : World) (K : Act → World → Prop), K (fr x W.heap.size) (W.alloc (.cells (cs x) ct)) →
      assign.wpIn (Fence.wide.inRound l) 0 P (Exit.then K (fun _ _ _ => False)) { tmps := a.tmps.setIfInBounds p (enc x), defers := [] } W)
    (hbody : ∀ (l : Nat) (S : Nat → Prop) (pre : List α) (x : α) (W : World) (p9 : Nat), OK (pre ++ [x]) → (∀ k, S k → k < W.heap.size) → I S pre W → W.heap[p9]? = some (.cells (cs x) ct (0, 0)) → ¬ S p9 → (∃ m, (∀ k, S k → k < m) ∧ m ≤ p9 ∧ ∃ W9, W9.heap.size = p9 ∧ I S pre W9) →
      body.wpIn (Fence.wide.inRound l) 0 P (roundEnds I Ix S (pre ++ [x]) W) (fr x p9) W)
    (hdone : ∀ (D : Nat) (S : Nat → Prop) (xs : List α) (W : World), (∀ k, S k → k < W.heap.size) → S D → Full xs → I S xs W → W.heap[D]? = some (.deferred (some [])) →
      Q .normal { a with defers := { target := .collected D, args := #[] } :: a.defers } W)
    (hstop : ∀ (D : Nat) (S : Nat → Prop) (pre : List α) (W : World), (∀ k, S k → k < W.heap.size) → S D → Ix S pre W → W.heap[D]? = some (.deferred (some [])) →
      Code.ret.wpIn Fence.wide 0 P Q { a with defers := { target := .collected D, args := #[] } :: a.defers } W) :
    (Code.rangeFunc g #[p] assign body).wpIn Fence.wide 0 P Q a w := by
  refine wpIn_rangeFunc fun fn _ => ?_
  obtain ⟨r, hr⟩ : ∃ r : LoopState → Option Code → Loop, r = fun st pe => { state := st, pending := pe, fn, tmps := a.tmps, params := #[p], assign, body, defers := w.heap.size } := ⟨_, rfl⟩
  obtain ⟨D, hD⟩ : ∃ D, w.heap.size = D := ⟨_, rfl⟩
  obtain ⟨L, hL⟩ : ∃ L, D + 1 = L := ⟨_, rfl⟩
  obtain ⟨V, hV⟩ : ∃ V, (w.alloc (.deferred (some []))).alloc (.loop (r .ready none)) = V := ⟨_, rfl⟩
  have hbV : Below w.heap.size w V := by
    rw [← hV]
    exact ((Below.refl _ w).alloc (Nat.le_refl _) _).alloc (by simp) _
  have hsV : V.heap.size = L + 1 := by rw [← hV, World.size_alloc, World.size_alloc, hD, hL]
  have hVL : V.heap[L]? = some (.loop (r .ready none)) := by
    have := World.alloc_heap_new (w.alloc (.deferred (some []))) (.loop (r .ready none))
    rwa [World.size_alloc, hD, hL, hV] at this
  have hVD : V.heap[D]? = some (.deferred (some [])) := by
    rw [← hV, Below.heap_alloc _ _ _ (by rw [World.size_alloc, hD]; omega), ← hD]
    exact World.alloc_heap_new w _
  have hrs : ∀ st pe, (r st pe).params = #[p] ∧ (r st pe).state = st ∧ (r st pe).fn = fn ∧ (r st pe).tmps = a.tmps ∧ (r st pe).assign = assign ∧ (r st pe).body = body := fun st pe => by rw [hr]; exact ⟨rfl, rfl, rfl, rfl, rfl, rfl⟩
  refine ⟨L, [{ target := .collected D, args := #[] }], V, { target := .fn (.func gf) lb, args := #[.func (.yield L) #[] #[]] }, V, gf, #[.func (.yield L) #[] #[]] ++ lb, V, ?_, ?_, fun _ _ => trivial, ?_, (fun h => absurd h (by decide)), ?_⟩
  · rw [← hV, ← hL, ← hD, hr]
    exact run_enterLoop_outer _ _ _ _ _
  · simp only [resolve, hg]
    simp [go_sem]
  · simp [invoke, go_sem, eg]
  · have own : ∀ {S T : Nat → Prop} {A B : World}, Turns S T A B → D < A.heap.size → L < A.heap.size → Turns (fun k => S k ∨ k = D ∨ k = L) (fun k => T k ∨ k = D ∨ k = L) A B := fun h h1 h2 =>
      ⟨h.os, h.tape, h.output, h.size, fun k hk hn => h.same k hk (fun hs => hn (.inl hs)), fun k hk => hk.elim (fun ht => (h.more k ht).elim (fun x => .inl (.inl x)) .inr) (fun e => .inl (.inr e)),
       fun k hk => hk.elim (h.lt k) (fun e => e.elim (fun e => e ▸ Nat.lt_of_lt_of_le h1 h.size) (fun e => e ▸ Nat.lt_of_lt_of_le h2 h.size))⟩
    have book : ∀ (R : Loop) (M : (Nat → Prop) → List α → World → Prop), Stays M → Stays (fun S s W => M (fun k => S k ∨ k = D ∨ k = L) s W ∧ W.heap[L]? = some (.loop R) ∧ W.heap[D]? = some (.deferred (some [])) ∧ ¬ S L ∧ ¬ S D ∧ ∀ k, S k → k < W.heap.size) := fun R M hM S T s A B h ht => by
      obtain ⟨h1, h2, h3, h4, h5, _⟩ := h
      have l1 := (Array.getElem?_eq_some_iff.1 h2).1
      have l2 := (Array.getElem?_eq_some_iff.1 h3).1
      exact ⟨hM _ _ _ _ _ h1 (own ht l2 l1), (ht.same L l1 h4).trans h2, (ht.same D l2 h5).trans h3, fun hT => (ht.more L hT).elim h4 (fun hge => absurd l1 (Nat.not_lt.2 hge)), fun hT => (ht.more D hT).elim h5 (fun hge => absurd l2 (Nat.not_lt.2 hge)), ht.lt⟩
    refine (hseq V hbV L _ _ (book (r .ready none) I hI) (book (r .done (some .ret)) Ix hIx) (fun S s V h => hIF _ _ _ h.1) ?_ ⟨?_, hVL, hVD, fun h => absurd (hS0 _ h) (by omega), fun h => absurd (hS0 _ h) (by omega), fun k h => Nat.lt_of_lt_of_le (hS0 k h) hbV.size⟩).mono ?_
    · rintro S pre x W hx ⟨hi, hl, hd, hnl, hnd, hlt⟩
      have lL := (Array.getElem?_eq_some_iff.1 hl).1
      have lD := (Array.getElem?_eq_some_iff.1 hd).1
      have hy := run_yield (P := P) (args := #[enc x]) hl (by rw [(hrs _ _).1]; rfl)
      obtain ⟨q1, _, q3, q4, q5, q6⟩ := hrs .ready none
      rw [q1, q3, q4, q5, q6] at hy
      have hz : ((#[p] : Array Tmp).zip #[enc x]).foldl (fun tmps (t, a) => tmps.setIfInBounds t a) a.tmps = a.tmps.setIfInBounds p (enc x) := by simp
      rw [hz] at hy
      have hall : ∀ k, (S k ∨ k = D ∨ k = L) → k < W.heap.size := fun k h => h.elim (hlt k) (fun e => e.elim (fun e => e ▸ lD) (fun e => e ▸ lL))
      refine ⟨fn, _, assign, body, hy, roundIn_of_wpIn trivial ?_⟩
      refine hassign _ x W _ ?_
      obtain ⟨W1, hW1⟩ : ∃ W1, W.alloc (.cells (cs x) ct) = W1 := ⟨_, rfl⟩
      rw [hW1]
      have hb1 : Below W.heap.size W W1 := by rw [← hW1]; exact (Below.refl _ _).alloc (Nat.le_refl _) _
      have hz1 : W1.heap.size = W.heap.size + 1 := by rw [← hW1]; simp
      have hp1 : W1.heap[W.heap.size]? = some (.cells (cs x) ct (0, 0)) := by rw [← hW1]; exact World.alloc_heap_new W _
      have hl1 := (hb1.block L lL).trans hl
      have hd1 := (hb1.block D lD).trans hd
      have hbr := run_beginRound (P := P) hl1 (hrs _ _).2.1
      have hall1 : ∀ k, (S k ∨ k = D ∨ k = L) → k < W1.heap.size := fun k h => Nat.lt_of_lt_of_le (hall k h) hb1.size
      have hi1 : I (fun k => S k ∨ k = D ∨ k = L) pre W1 := hI _ _ _ _ _ hi (Turns.below hall hb1)
      refine ⟨_, hbr, ?_⟩
      obtain ⟨A, hA⟩ : ∃ A, W1.putObj L (.loop { r .ready none with state := .busy }) = A := ⟨_, rfl⟩
      have hAL : A.heap[L]? = some (.loop { r .ready none with state := .busy }) := by rw [← hA]; exact World.putObj_heap_same (by omega)
      have hAD : A.heap[D]? = some (.deferred (some [])) := by rw [← hA]; exact (World.putObj_heap_other (by omega)).trans hd1
      have hAs : A.heap.size = W1.heap.size := by rw [← hA]; exact World.putObj_size
      have hAi : I (fun k => S k ∨ k = D ∨ k = L) pre A := hI _ _ _ _ _ hi1 (by rw [← hA]; exact Turns.putObj hall1 (.inr (.inr rfl)) _)
      have hAo : ∀ k, k ≠ L → A.heap[k]? = W1.heap[k]? := fun k hk => by rw [← hA]; exact World.putObj_heap_other hk
      rw [hA]
      refine wpIn_mono (hbody L _ pre x A W.heap.size hx (fun k h => by rw [hAs]; exact hall1 k h) hAi ((hAo _ (by omega)).trans hp1) (fun h => by have := hall _ h; omega) ⟨W.heap.size, hall, Nat.le_refl _, W, rfl, hi⟩) ?_
      have fin : ∀ (jump : Option Code) (B : World), Spares (fun k => S k ∨ k = D ∨ k = L) A B → (Instr.endRound L jump).run P B = .ok (.bool jump.isNone) (B.putObj L (.loop (r (if jump.isNone then .ready else .done) jump))) ∧ Spares S W (B.putObj L (.loop (r (if jump.isNone then .ready else .done) jump))) ∧ Turns (fun k => S k ∨ k = D ∨ k = L) (fun k => S k ∨ k = D ∨ k = L) B (B.putObj L (.loop (r (if jump.isNone then .ready else .done) jump))) ∧ (B.putObj L (.loop (r (if jump.isNone then .ready else .done) jump))).heap[L]? = some (.loop (r (if jump.isNone then .ready else .done) jump)) ∧ (B.putObj L (.loop (r (if jump.isNone then .ready else .done) jump))).heap[D]? = some (.deferred (some [])) ∧ W.heap.size ≤ (B.putObj L (.loop (r (if jump.isNone then .ready else .done) jump))).heap.size := fun jump B hk => by
        have hBL := (hk.same L (.inr (.inr rfl))).trans hAL
        have hBD := (hk.same D (.inr (.inl rfl))).trans hAD
        have e := run_endRound (P := P) jump hBL
        have hsz : W.heap.size ≤ B.heap.size := by have := hk.size; omega
        refine ⟨?_, ⟨?_, fun k h => ?_⟩, Turns.putObj (fun k h => Nat.lt_of_lt_of_le (hall k h) hsz) (.inr (.inr rfl)) _, World.putObj_heap_same (Array.getElem?_eq_some_iff.1 hBL).1, (World.putObj_heap_other (by omega)).trans hBD, ?_⟩
        · rw [e, hr]
        · rw [World.putObj_size]; exact hsz
        · have hkL : k ≠ L := fun e => hnl (e ▸ h)
          exact (((World.putObj_heap_other hkL).trans (hk.same k (.inl h))).trans (hAo k hkL)).trans (hb1.block k (hlt k h))
        · rw [World.putObj_size]; exact hsz
      rintro e b B hp
      cases e with
      | normal =>
        obtain ⟨hk, hi2⟩ := hp
        obtain ⟨f1, f2, f3, f4, f5, f6⟩ := fin none B hk
        exact ⟨_, _, f1, f2, .inl ⟨rfl, hI _ _ _ _ _ hi2 f3, f4, f5, hnl, hnd, fun k h => Nat.lt_of_lt_of_le (hlt k h) f6⟩⟩
      | ret =>
        obtain ⟨hk, hi2⟩ := hp
        obtain ⟨f1, f2, f3, f4, f5, f6⟩ := fin (some .ret) B hk
        exact ⟨_, _, f1, f2, .inr ⟨rfl, hIx _ _ _ _ _ hi2 f3, f4, f5, hnl, hnd, fun k h => Nat.lt_of_lt_of_le (hlt k h) f6⟩⟩
      | exit id => exact hp.elim
      | goto t => exact hp.elim
      | panic ch => exact hp.elim
      | outgrown => exact hp.elim
    · refine hI S0 _ [] w V h0 ⟨hbV.os, hbV.tape, hbV.output, hbV.size, fun k hk _ => hbV.block k hk, fun k h => h.elim .inl (fun e => .inr (by omega)), fun k h => h.elim (fun h => Nat.lt_of_lt_of_le (hS0 k h) hbV.size) (fun e => by omega)⟩
    · rintro e B ⟨⟨v, rfl⟩, S, ⟨xs, hfull, hi, hl, hd, _, _, hlt⟩ | ⟨pre, hi, hl, hd, _, _, hlt⟩⟩
      · have lL := (Array.getElem?_eq_some_iff.1 hl).1
        have lD := (Array.getElem?_eq_some_iff.1 hd).1
        have hall : ∀ k, (S k ∨ k = D ∨ k = L) → k < B.heap.size := fun k h => h.elim (hlt k) (fun e => e.elim (fun e => e ▸ lD) (fun e => e ▸ lL))
        have e := run_endLoop (P := P) hl (by rw [(hrs _ _).2.1]; intro h; cases h)
        rw [hr] at e
        refine ⟨none, _, e, hdone D _ xs _ (fun k h => by rw [World.putObj_size]; exact hall k h) (.inr (.inl rfl)) hfull (hI _ _ _ _ _ hi (Turns.putObj hall (.inr (.inr rfl)) _)) ((World.putObj_heap_other (by omega)).trans hd)⟩
      · have lL := (Array.getElem?_eq_some_iff.1 hl).1
        have lD := (Array.getElem?_eq_some_iff.1 hd).1
        have hall : ∀ k, (S k ∨ k = D ∨ k = L) → k < B.heap.size := fun k h => h.elim (hlt k) (fun e => e.elim (fun e => e ▸ lD) (fun e => e ▸ lL))
        have e := run_endLoop (P := P) hl (by rw [(hrs _ _).2.1]; intro h; cases h)
        rw [hr] at e
        refine ⟨some .ret, _, e, hstop D _ pre _ (fun k h => by rw [World.putObj_size]; exact hall k h) (.inr (.inl rfl)) (hIx _ _ _ _ _ hi (Turns.putObj hall (.inr (.inr rfl)) _)) ((World.putObj_heap_other (by omega)).trans hd)⟩
end Go.Proofs.YthnogakjaaopkaaGreatDoor
/- maps.Values of a table: what it deals. -/
namespace Go.Proofs.YthnogakjaaopkaaGreatDoor
open Go.RowKit
attribute [local go_sem] Oper.semAt_some

theorem TabR.block {w w' : World} {b r cnt : Nat} {fn : Tx → Option MF} {left : Tx → Bool} (h : TabR w b r fn left cnt) (hb : w'.heap[b]? = w.heap[b]?) (hr : w'.heap[r]? = w.heap[r]?) : TabR w' b r fn left cnt := by
  obtain ⟨D, n, lf, T, h1, h2, ⟨es, clock, since, seen, c0, e1, F, hs, hD, e2, rest⟩, h4, h5⟩ := h
  exact ⟨D, n, lf, T, h1, h2, ⟨es, clock, since, seen, c0, hb.trans e1, F, hs, hD, hr.trans e2, rest⟩, h4, h5⟩
set_option maxRecDepth 100000 in
theorem values_any (b : Nat) (w : World) : Calls Tryz.prog 33 #[.map (some b)] w fun e w' => e = .returned (.func (.func 58) #[] #[.pointer (some ⟨w.heap.size, 0, none⟩)]) ∧ Below w.heap.size w w' ∧ Bx w' w.heap.size 61 (.map (some b)) := by
  have h1 := (Below.refl w.heap.size w).alloc (Nat.le_refl _) (.cells #[.map (some b)] 61)
  have h2 := Bx.new w 61 (.map (some b))
  have HB := Lib.hid (And.intro h1 h2)
  clear h1 h2
  go_enter Tryz.func33, Tryz.ntmps33
  go_wp2_with fail
  go_ret
  exact ⟨rfl, HB.out⟩
/-- What is dealt out so far. -/
def OkV (fn : Tx → Option MF) (xs : List (Tx × MF)) : Prop := xs.Pairwise (fun p q => p.1 ≠ q.1) ∧ ∀ p ∈ xs, fn p.1 = some p.2
def FullV (fn : Tx → Option MF) (xs : List (Tx × MF)) : Prop := OkV fn xs ∧ ∀ k f, fn k = some f → (k, f) ∈ xs
def fE (p : Tx × MF) : Value := fV p.2
set_option maxRecDepth 100000 in
set_option maxHeartbeats 2000000 in
theorem vals_deals (b : Nat) (fn : Tx → Option MF) (B : Nat) (S0 : Nat → Prop) (hsB : S0 B) (X : Obj) (W : World) (_ : W.heap[b]? = some X) (hS0 : ∀ k, S0 k → k < W.heap.size) (hT : TabP W b fn) (hB : Bx W B 61 (.map (some b))) :
    DealsM Tryz.prog 58 #[.pointer (some ⟨B, 0, none⟩)] fE (OkV fn) (FullV fn) S0 (fun V => V.heap[b]? = some X) W := by
  intro L J Jx hJ hJx hF hY h0
  refine callsIn_of_wp Tryz.func58 rfl trivial ?_ rfl
  simp only [Tryz.ntmps58, List.size_toArray, List.length_cons, List.length_nil, Nat.reduceAdd, Nat.reduceSub, Array.replicate_succ, Array.replicate_zero, List.push_toArray, List.append_toArray, List.nil_append, List.cons_append]
  obtain ⟨w1, cnt, hrg, hR, hg1, hs1⟩ := hT.range
  have hb1 : Below W.heap.size W w1 := ⟨hg1.os, hg1.tape, hg1.output, hg1.size, fun k hk => hg1.block k hk (by simp)⟩
  have h1 := hJ _ _ _ _ _ h0 (Turns.newer hS0 hb1)
  have kB := hB.cell
  have HB := Lib.hid (And.intro hB (And.intro h1 (And.intro hS0 (And.intro hR (And.intro hb1 hs1)))))
  have HY := Lib.hid hY
  have HJ := Lib.hid hJ
  have HF := Lib.hid hF
  clear hB h0 hY hS0 hR hg1 hb1 hs1 h1 hT hJ hF
  gi_wp2_with fail
  gi_loopw [4] (fun _ wr => ∃ (left : Tx → Bool) (cnt : Nat) (S : Nat → Prop) (xs : List (Tx × MF)), TabR wr b W.heap.size fn left cnt ∧ S B ∧ S W.heap.size ∧ (∀ k, S k → k < wr.heap.size) ∧ J S xs wr ∧ OkV fn xs ∧ ∀ k, left k = ((fn k).isSome && !(xs.any fun p => p.1 == k))) (fun _ wr => wr.rangeLeft b W.heap.size)
  case atStart => exact ⟨_, _, _, [], HB.out.2.2.2.1, .inl hsB, .inr ⟨Nat.le_refl _, by have := HB.out.2.2.2.2.2; omega⟩, fun k hk => hk.elim (fun h => Nat.lt_of_lt_of_le (HB.out.2.2.1 k h) HB.out.2.2.2.2.1.size) (fun h => h.2), HB.out.2.1, ⟨List.Pairwise.nil, fun p hp => by cases hp⟩, fun k => by simp⟩
  case round =>
    obtain ⟨left, cnt, S, xs, hR, sB, sr, hlt, hj, hok, hleft⟩ := hrel
    have hle := hR.left_eq
    rcases hR.next 0 with ⟨_, hl, hnx⟩ | ⟨k, f, w3, cnt', hl, hf, hnx, hR3, hltc, hg3, hs3, hen⟩
    · have hfull : FullV fn xs := ⟨hok, fun k f hf => by
        have h1 := hleft k
        rw [hl k, hf] at h1
        simp only [Option.isSome_some, Bool.true_and] at h1
        have h2 : (xs.any fun p => p.1 == k) = true := by simpa using h1.symm
        obtain ⟨p, hp, hpk⟩ := List.any_eq_true.1 h2
        have hpk2 : p.1 = k := by simpa using hpk
        have h3 := hok.2 p hp
        rw [hpk2, hf] at h3
        injection h3 with h3
        have : p = (k, f) := by rw [h3, ← hpk2]
        rw [← this]
        exact hp⟩
      have HN := Lib.hid (And.intro hj hfull)
      clear hR hj hle hl hok hleft hfull hlt
      gi_wp2_with fail
      go_end0
      exact ⟨⟨_, rfl⟩, S, .inl ⟨xs, HN.out.2, HN.out.1⟩⟩
    · have hlk := hleft k
      rw [hl, hf] at hlk
      have hnk : ∀ p ∈ xs, p.1 ≠ k := fun p hp e => by
        have h2 : (xs.any fun p => p.1 == k) = true := List.any_eq_true.2 ⟨p, hp, by simpa using e⟩
        rw [h2] at hlk
        simp at hlk
      have hok3 : OkV fn (xs ++ [(k, f)]) := ⟨List.pairwise_append.2 ⟨hok.1, List.pairwise_singleton _ _, fun p hp q hq => by rw [List.mem_singleton.1 hq]; exact hnk p hp⟩, fun p hp => by
        rcases List.mem_append.1 hp with h | h
        · exact hok.2 p h
        · rw [List.mem_singleton.1 h]; exact hf⟩
      have hj3 : J S xs w3 := HJ.out _ _ _ _ _ hj ⟨hg3.os, hg3.tape, hg3.output, hg3.size, fun i hi hs => hg3.block i hi (fun e => by injection e with e; exact hs (e ▸ sr)), fun i hi => .inl hi, fun i hi => Nat.lt_of_lt_of_le (hlt i hi) hg3.size⟩
      have hlt3 : ∀ i, S i → i < w3.heap.size := fun i hi => Nat.lt_of_lt_of_le (hlt i hi) hg3.size
      have hleft3 : ∀ k', (left k' && !(k' == k)) = ((fn k').isSome && !((xs ++ [(k, f)]).any fun p => p.1 == k')) := fun k' => by
        rw [hleft k', List.any_append]
        have e : ((k, f) :: ([] : List (Tx × MF))).any (fun p => p.1 == k') = (k' == k) := by
          simp [Bool.beq_comm]
        rw [e]
        cases (fn k').isSome <;> cases (xs.any fun p => p.1 == k') <;> cases (k' == k) <;> rfl
      obtain ⟨V, hV⟩ : ∃ V, str f.2.2 = V := ⟨_, rfl⟩
      obtain ⟨N1, hN1⟩ : ∃ V, str f.2.1 = V := ⟨_, rfl⟩
      obtain ⟨K1, hK1⟩ : ∃ V, str k = V := ⟨_, rfl⟩
      obtain ⟨w4, hw4⟩ : ∃ x, w3.alloc (.cells #[.int .i64 f.1, .string N1, .string V] 45) = x := ⟨_, rfl⟩
      have hb4 : Below w3.heap.size w3 w4 := by rw [← hw4]; exact (Below.refl _ _).alloc (Nat.le_refl _) _
      have hp4 : w4.heap[w3.heap.size]? = some (.cells #[.int .i64 f.1, .string N1, .string V] 45 (0, 0)) := by rw [← hw4]; exact (MapKept.heap_alloc w3 _).1
      rw [hs3] at hp4
      have hj4 : J S xs w4 := HJ.out _ _ _ _ _ hj3 (Turns.below hlt3 hb4)
      have hlt4 : ∀ i, S i → i < w4.heap.size := fun i hi => Nat.lt_of_lt_of_le (hlt3 i hi) hb4.size
      have hR4 : TabR w4 b W.heap.size fn (fun x => left x && !(x == k)) cnt' := hR3.block (hb4.block b hR3.tab.lt) (hb4.block _ (hlt3 _ sr))
      have hX4 := HF.out _ _ _ hj4
      have hyy := HY.out S xs (k, f) w4 hok3 hj4
      unfold fE fV at hyy
      dsimp only at hyy
      rw [hV, hN1] at hyy
      obtain ⟨fx, tmps, assign, body, hy, hRd⟩ := hyy
      have HR := Lib.hid hRd
      unfold fV at hnx hen
      rw [hV, hN1, hK1] at hnx hen
      have a0 := cell9_blk hp4 0 rfl
      have a1 := cell9_blk hp4 1 rfl
      have a2 := cell9_blk hp4 2 rfl
      have HN := Lib.hid (And.intro hR4 (And.intro hlt4 (And.intro hok3 (And.intro hleft3 (And.intro hltc (And.intro hle hX4))))))
      clear hV hN1 hK1 hR hR3 hR4 hj hj3 hj4 hlt hlt3 hlt4 hok hok3 hleft hleft3 hltc hle hl hf hlk hnk hRd hg3 hb4 hp4 hX4
      gi_wp2_with fail
      refine ⟨rfl, HR.out.mono ?_⟩
      rintro e w' ⟨hsp, ⟨rfl, hj⟩ | ⟨rfl, hj⟩⟩
      · have hR5 := HN.out.1.block ((HF.out _ _ _ hj).trans HN.out.2.2.2.2.2.2.symm) (hsp.same _ sr)
        have HJ := Lib.hid (And.intro hj (And.intro hsp hR5))
        clear hj hsp hR5
        gi_wp2_with fail
        refine ⟨⟨_, cnt', S, xs ++ [(k, f)], HJ.out.2.2, sB, sr, fun i hi => Nat.lt_of_lt_of_le (HN.out.2.1 i hi) HJ.out.2.1.size, HJ.out.1, HN.out.2.2.1, HN.out.2.2.2.1⟩, ?_⟩
        rw [HJ.out.2.2.left_eq, HN.out.2.2.2.2.2.1]
        exact HN.out.2.2.2.2.1
      · have HJ := Lib.hid hj
        clear hj hsp
        gi_wp2_with fail
        refine bodyPost_ret (results_none rfl _ _ _) rfl ?_
        exact ⟨⟨_, rfl⟩, S, .inr ⟨_, HJ.out⟩⟩
end Go.Proofs.YthnogakjaaopkaaGreatDoor
/- Contracts: slices.AppendSeq and Collect of what a table's values deal. -/
namespace Go.Proofs.YthnogakjaaopkaaGreatDoor
open Go.RowKit
attribute [local go_sem] Oper.semAt_some

theorem infoFd9 : (Tryz.prog.info? 45).map (fun i => (i.zero, i.size, i.bytes)) = some (some (.agg #[.int .i64 0, .string .empty, .string .empty]), 3, 40) := by kernel_rfl
def vC (p : Tx × MF) : List Value := fdC p.2
theorem vC_len (xs : List (Tx × MF)) : (xs.flatMap vC).length = xs.length * 3 := flat_len vC 3 (fun _ => rfl) xs
/-- An append of one field to a row of one's own, in a round. -/
theorem wpListIn_appV {F : Fence} {nF : Nat} {w : World} {ops : Array Oper} {rest : List Oper} {o : Oper} {a : Go.Act} {Q : Exit → Go.Act → World → Prop} (hgd : o.guard = none) (s x : Operand)
    (ho : o.op = .call { callee := .builtin .append, args := #[s, x], argTypes := #[46, 46] })
    (base : Nat) (v : Value) (n : Nat) (us : List Value) (hs : a.eval s = v) (hown : w.ownsRow base 45 3 v n us) (g : Nat) (A : Int) (N V : ByteArray) (hx : a.eval x = .slice (some ⟨g, 0, none⟩) 1 1)
    (hc : w.heap[g]? = some (.cells #[.int .i64 A, .string N, .string V] 45 (0, 0))) (hn : n ≤ 2000000) (hbase : base ≤ w.heap.size)
    (h : ∀ v' w', w'.ownsRow base 45 3 v' (n + 1) (us ++ [.int .i64 A, .string N, .string V]) → w.grownBy w' v.ownBlock → (v'.ownBlock = v.ownBlock ∨ v'.ownBlock = some w.heap.size) → wpListIn F nF Tryz.prog ops Q rest (a.put o.dst v') w') :
    wpListIn F nF Tryz.prog ops Q (o :: rest) a w := by
  obtain ⟨i, hi, hz, hsz, hby⟩ := info_parts infoFd9
  refine wpListIn_append_own_at w hgd s x _ ho base _ i _ 3 40 Tryz.underlying46 hi hz hsz hby rfl (by decide) v n us hs hown ⟨g, 0, none⟩ 1 1 [.int .i64 A, .string N, .string V] hx rfl (fun j u hu => ?_) (fun u hu => ?_) (by unfold maxLen; omega) (by omega) hbase (fun v' w' h1 h2 _ h4 => h v' w' h1 h2 h4)
  · unfold Addr.add
    rcases j with _ | _ | _ | j
    · have hu' := Option.some.inj hu
      subst hu'
      exact cell9_blk hc 0 rfl
    · have hu' := Option.some.inj hu
      subst hu'
      exact cell9_blk hc 1 rfl
    · have hu' := Option.some.inj hu
      subst hu'
      exact cell9_blk hc 2 rfl
    · cases hu
  · simp only [List.mem_cons, List.not_mem_nil, or_false] at hu
    rcases hu with rfl | rfl | rfl <;> rfl
theorem ownsRow_oneK {W : World} {base k K : Nat} {e : TypeId} {v : Value} {xs : List Value} (h : W.ownsRow base e K v (k + 1) xs) : ∃ g cap, v = .slice (some ⟨g, 0, none⟩) (k + 1) cap := by
  rcases h.2 with ⟨_, h0⟩ | ⟨g, cap, _, rfl, _⟩
  · cases h0
  · exact ⟨g, cap, rfl⟩
/-- Where the list so far lies, between two rounds. -/
structure AsI (base g : Nat) (w : World) (S : Nat → Prop) (pre : List (Tx × MF)) (V : World) : Prop where
  sg : ¬ S g
  low : ∀ k, S k → base ≤ k
  below : Below base w V
  big : base ≤ V.heap.size
  own : ∃ v, Bx V g 46 v ∧ V.ownsRow base 45 3 v pre.length (pre.flatMap vC) ∧ Off S v ∧ v.ownBlock ≠ some g
theorem AsI.stays {base g : Nat} {w : World} : Stays (AsI base g w) := fun S T pre V V' h ht => by
  obtain ⟨v, o1, o2, o3, o4⟩ := h.own
  have hb := ht.belowT h.low h.big
  exact ⟨ht.not o1.lt h.sg, fun k hk => (ht.more k hk).elim (h.low k) (fun hge => Nat.le_trans h.big hge), h.below.trans hb, Nat.le_trans h.big ht.size, v, o1.turned ht h.sg, own_same o2 (fun g hg => ht.same g (o2.lt g hg).2 (o3 g hg)), fun g hg => ht.not (o2.lt g hg).2 (o3 g hg), o4⟩
set_option maxRecDepth 100000 in
set_option maxHeartbeats 2000000 in
theorem appendSeq_any (gf : Nat) (lb : Array Value) (eg : ∀ args w, (callFunc gf args).run Tryz.prog w = .ok (.enter gf args) w) (fn : Tx → Option MF) (b : Nat) (X : Obj) (S0 : Nat → Prop) (base : Nat) (w : World) (hbs : base ≤ w.heap.size) (hS0 : ∀ k, S0 k → k < w.heap.size) (hlow : ∀ k, S0 k → base ≤ k) (hb : b < base) (hX : w.heap[b]? = some X)
    (hlen : ∀ xs, OkV fn xs → xs.length ≤ 1000000) (hseq : ∀ W, Below w.heap.size w W → DealsM Tryz.prog gf lb fE (OkV fn) (FullV fn) S0 (fun V => V.heap[b]? = some X) W) :
    Calls Tryz.prog 75 #[.slice none 0 0, .func (.func gf) #[] lb] w fun e w' => ∃ v xs, e = .returned v ∧ FullV fn xs ∧ w'.ownsRow base 45 3 v xs.length (xs.flatMap vC) ∧ Below base w w' := by
  refine (callsIn_wide (n := 0)).1 ?_
  refine callsIn_of_wp_marks Tryz.func75 rfl trivial ?_ rfl
  simp only [Tryz.ntmps75, List.size_toArray, List.length_cons, List.length_nil, Nat.reduceAdd, Nat.reduceSub, Array.replicate_succ, Array.replicate_zero, List.push_toArray, List.append_toArray, List.nil_append, List.cons_append]
  obtain ⟨g, hg⟩ : ∃ g, w.heap.size = g := ⟨_, rfl⟩
  obtain ⟨V1, hV1⟩ : ∃ V1, w.alloc (.cells #[.slice none 0 0] 46) = V1 := ⟨_, rfl⟩
  have hb1 : Below w.heap.size w V1 := by rw [← hV1]; exact (Below.refl _ _).alloc (Nat.le_refl _) _
  have hz1 : V1.heap.size = g + 1 := by rw [← hV1]; simp [hg]
  have x1 : Bx V1 g 46 (.slice none 0 0) := by rw [← hV1, ← hg]; exact Bx.new _ _ _
  have h0 : AsI base g w S0 [] V1 := ⟨fun h => by have := hS0 g h; omega, hlow, hb1.mono hbs, by omega, .slice none 0 0, x1, World.ownsRow_nil _ _ _ _, (fun g hg => by cases hg), by simp [Value.ownBlock]⟩
  have HK := Lib.hid (And.intro h0 (And.intro (fun k h => Nat.lt_of_lt_of_le (hS0 k h) hb1.size) (And.intro (fun W (h : Below V1.heap.size V1 W) => hseq W (hb1.trans (h.mono hb1.size))) (And.intro hX hlen))))
  clear h0 hb1 x1 hS0 hlow hX hseq hlen
  gi_wp2_with fail
  refine wpIn_dealsM (gf := gf) rfl eg (enc := fE) (OK := OkV fn) (Full := FullV fn) (S0 := S0) (F := fun V => V.heap[b]? = some X) HK.out.2.1 HK.out.2.2.1
    (AsI base g w) (fun _ _ _ => False) AsI.stays (fun S T s V V' h ht => h) ?IF HK.out.1
    (fun x p => { tmps := #[.slice none 0 0, .func (.func gf) #[] lb, .pointer (some ⟨g, 0, none⟩), undef, .slice none 0 0, .pointer (some ⟨p, 0, none⟩), .func (.func gf) #[] lb, fE x, undef, undef, undef, undef, undef], defers := [] })
    (fun x => #[.int .i64 x.2.1, .string (str x.2.2.1), .string (str x.2.2.2)]) 45 ?assign ?body ?done ?stop
  case IF =>
    intro S s V h
    exact (h.below.block b hb).trans HK.out.2.2.2.1
  case assign =>
    intro l2 x V K hK
    unfold fE fV
    obtain ⟨k, f⟩ := x
    dsimp only at *
    gi_wp2_with fail
    exact hK
  case body =>
    rintro l2 S pre ⟨k, f⟩ V p9 hx hlt h hp9 hSp ⟨m9, hm9, hmp, W9, hW9, hI9⟩
    dsimp only at *
    obtain ⟨v, o1, o2, o3, o4⟩ := h.own
    obtain ⟨n, hn⟩ : ∃ n, pre.length = n := ⟨_, rfl⟩
    have hbig : n ≤ 1000000 := by
      have h1 := HK.out.2.2.2.2 _ hx
      rw [List.length_append, List.length_singleton] at h1
      omega
    rw [hn] at o2
    have z1 := o1.cell
    have zf := o1.frozen
    have a0 := cell9_blk hp9 0 rfl
    have a1 := cell9_blk hp9 1 rfl
    have a2 := cell9_blk hp9 2 rfl
    have HN := Lib.hid (And.intro hn hlt)
    have HH := Lib.hid (And.intro h (And.intro o1 (And.intro o2 (And.intro o3 o4))))
    have hvc : vC (k, f) = [.int .i64 f.1, .string (str f.2.1), .string (str f.2.2)] := rfl
    have HVC := Lib.hid hvc
    obtain ⟨N1, hN1⟩ : ∃ x, str f.2.1 = x := ⟨_, rfl⟩
    obtain ⟨N2, hN2⟩ : ∃ x, str f.2.2 = x := ⟨_, rfl⟩
    unfold fE fV
    dsimp only
    rw [hN1] at a1 HVC ⊢
    rw [hN2] at a2 HVC ⊢
    obtain ⟨A, hA⟩ : ∃ A, V.alloc (.cells #[.int .i64 f.1, .string N1, .string N2] 45) = A := ⟨_, rfl⟩
    have hbA : Below V.heap.size V A := by rw [← hA]; exact (Below.refl _ _).alloc (Nat.le_refl _) _
    have hzA : A.heap.size = V.heap.size + 1 := by rw [← hA]; simp
    have hcA : A.heap[V.heap.size]? = some (.cells #[.int .i64 f.1, .string N1, .string N2] 45 (0, 0)) := by rw [← hA]; exact (MapKept.heap_alloc V _).1
    have HA := Lib.hid (And.intro hbA (And.intro hzA hcA))
    have hbg := h.big
    clear h o1 o2 o3 o4 hn hlt hx hp9 hSp hm9 hmp hI9 hbA hcA hvc hN1 hN2
    gi_wp2_with
      (gi_at_builtin
       refine wpListIn_appV rfl _ _ rfl base v n (pre.flatMap vC) rfl (own_same HH.out.2.2.1 (fun g hg => HA.out.1.block g (HH.out.2.2.1.lt g hg).2)) V.heap.size f.1 N1 N2 rfl HA.out.2.2 (by omega) (by have h2 := HA.out.2.1; omega) ?_
       intro v' w1 hown hg1 hob
       obtain ⟨g', cap', rfl⟩ := ownsRow_oneK hown
       have HG := Lib.hid (And.intro hown (And.intro hg1 hob))
       have q1 := ((HH.out.2.1.below HA.out.1).grownB hg1 HH.out.2.2.2.2).cell
       have q2 := ((HH.out.2.1.below HA.out.1).grownB hg1 HH.out.2.2.2.2).frozen
       clear hown hg1 hob)
    obtain ⟨e1, e2, e3⟩ := HG.out
    have hH := HH.out.1
    have hl4 := HH.out.2.1.lt
    have hzA := HA.out.2.1
    have hnew : ∀ k, k < V.heap.size → v.ownBlock ≠ some k → (Value.slice (some ⟨g', 0, none⟩) (n + 1) cap').ownBlock ≠ some k := fun k hk hne => by
      rcases e3 with e3 | e3
      · rw [e3]; exact hne
      · rw [e3, hzA]
        intro h
        injection h with h
        omega
    have hlowv : ∀ k, v.ownBlock = some k → base ≤ k := fun k hk => (HH.out.2.2.1.lt k hk).1
    have hA4 : Bx A g 46 v := HH.out.2.1.below HA.out.1
    have hsp : Spares S V (w1.setCell ⟨g, 0, none⟩ (.slice (some ⟨g', 0, none⟩) (n + 1) cap')) := ((Spares.below HN.out.2 HA.out.1).trans (Spares.grown e2 (fun k hk => Nat.lt_of_lt_of_le (HN.out.2 k hk) HA.out.1.size) (fun k hk => HH.out.2.2.2.1 k hk))).trans (Spares.setCell hH.sg _)
    refine ⟨hsp, hH.sg, hH.low, ((hH.below.trans (HA.out.1.mono hbg)).grown e2 (by omega) hlowv).setCell (by show base ≤ g; omega) _, Nat.le_trans hbg hsp.size, .slice (some ⟨g', 0, none⟩) (n + 1) cap', (hA4.grownB e2 HH.out.2.2.2.2).set _, ?_, ?_, hnew _ hl4 HH.out.2.2.2.2⟩
    · have hlen : (pre ++ [(k, f)]).length = n + 1 := by rw [List.length_append, HN.out.1]; rfl
      rw [hlen, List.flatMap_append]
      have hv1 : [(k, f)].flatMap vC = [.int .i64 f.1, .string N1, .string N2] := by rw [List.flatMap_cons, HVC.out]; rfl
      rw [hv1]
      refine own_same e1 fun g9 hg9 => Below.heap_setCell w1 _ _ g9 ?_
      rintro rfl
      exact hnew _ hl4 HH.out.2.2.2.2 hg9
    · intro g9 hg9 hS
      rcases e3 with e3 | e3
      · rw [e3] at hg9
        exact HH.out.2.2.2.1 g9 hg9 hS
      · rw [e3, hzA] at hg9
        injection hg9 with hg9
        have := HN.out.2 g9 hS
        omega
  case done =>
    rintro D S xs V hlt hD hfull h hd
    obtain ⟨v, o1, o2, o3, o4⟩ := h.own
    have z1 := o1.cell
    have HH := Lib.hid (And.intro h (And.intro o2 (And.intro o3 (And.intro hD (And.intro hd hfull)))))
    clear h o1 o2 o3 o4 hD hd hlt hfull
    gi_wp2_with fail
    refine ⟨by simp, .inl ⟨_, _, rfl, run_takeDeferred HH.out.2.2.2.2.1, ?_⟩⟩
    refine ⟨_, results_tmp rfl _ _ _, v, xs, rfl, HH.out.2.2.2.2.2, own_same HH.out.2.1 (fun g9 hg9 => World.putObj_heap_other (fun e => HH.out.2.2.1 g9 hg9 (e ▸ HH.out.2.2.2.1))), ?_⟩
    have hB := HH.out.1.below
    have hl := HH.out.1.low D HH.out.2.2.2.1
    exact ⟨hB.os, hB.tape, hB.output, by rw [World.putObj_size]; exact hB.size, fun k hk => (World.putObj_heap_other (by omega)).trans (hB.block k hk)⟩
  case stop => exact fun D S pre V hlt hD h hd => h.elim
end Go.Proofs.YthnogakjaaopkaaGreatDoor
/- Contracts: sorting fields by their names; a table's fields. -/
namespace Go.Proofs.YthnogakjaaopkaaGreatDoor
open Go.RowKit Go.Shelf
attribute [local go_sem] Oper.semAt_some

theorem cmp_less : ∀ a b : Tx, decide (Lib.compareBytes a b < 0) = Op.bytesLess a b
  | [], [] => rfl
  | [], _ :: _ => rfl
  | _ :: _, [] => rfl
  | a :: x, b :: y => by
    rw [Lib.compareBytes, Op.bytesLess, ← cmp_less x y]
    by_cases h1 : a < b
    · rw [if_pos h1]
      simp [h1]
    · rw [if_neg h1]
      by_cases h2 : b < a
      · have h3 : a ≠ b := fun e => by subst e; exact h1 h2
        rw [if_pos h2]
        simp [h1, h3]
      · have h3 : a = b := UInt8.le_antisymm (UInt8.not_lt.1 h2) (UInt8.not_lt.1 h1)
        rw [if_neg h2]
        simp [h3]
/-- By their names' bytes. -/
def cfV (x y : Tx × MF) : Int := Lib.compareBytes x.2.2.1 y.2.2.1
theorem ltV (x y : Tx × MF) : Go.Proofs.ltOf cfV x y = decide (x.2.2.1 < y.2.2.1) := by
  unfold Go.Proofs.ltOf cfV
  rw [cmp_less, Go.Proofs.bytesLess_eq]
theorem swoV : Go.Sort.SWO (Go.Proofs.ltOf cfV) where
  irrefl := fun x => by rw [ltV]; exact decide_eq_false (List.lt_irrefl _)
  trans := fun x y z h1 h2 => by
    rw [ltV] at *
    exact decide_eq_true (List.lt_trans (of_decide_eq_true h1) (of_decide_eq_true h2))
  ntrans := fun x y z h1 h2 => by
    rw [ltV] at *
    refine decide_eq_false fun h3 => ?_
    exact (List.le_trans (l₁ := z.2.2.1) (l₂ := y.2.2.1) (l₃ := x.2.2.1) (of_decide_eq_false h2) (of_decide_eq_false h1)) h3
/-- In their order. -/
def SrtV (xs : List (Tx × MF)) : Prop := xs.Pairwise fun p q => Op.bytesLess p.1 q.1 = true
theorem okV_len {fn : Tx → Option MF} {NL : List Tx} (hN : ∀ k f, fn k = some f → k ∈ NL) (hNl : NL.length ≤ 1000000) : ∀ xs, OkV fn xs → xs.length ≤ 1000000 := fun xs h => by
  have h1 : (xs.map (·.1)).Nodup := by
    rw [List.nodup_iff_pairwise_ne, List.pairwise_map]
    exact h.1
  have h2 : (xs.map (·.1)) ⊆ NL := fun k hk => by
    obtain ⟨p, hp, rfl⟩ := List.mem_map.1 hk
    exact hN p.1 p.2 (h.2 p hp)
  have := h1.length_le_of_subset h2
  rw [List.length_map] at this
  omega
theorem fullV_perm {fn : Tx → Option MF} {xs ys : List (Tx × MF)} (h : FullV fn xs) (hp : ys.Perm xs) : FullV fn ys :=
  ⟨⟨(hp.pairwise_iff (fun hne => Ne.symm hne)).2 h.1.1, fun p hp2 => h.1.2 p (hp.mem_iff.1 hp2)⟩, fun k f hf => hp.mem_iff.2 (h.2 k f hf)⟩
theorem grow_below (w : World) (os : Array Obj) : Below w.heap.size w (Go.Sort.grow w os) :=
  ⟨rfl, rfl, rfl, by simp, fun k hk => Go.Sort.heap_grow_old w os hk⟩
set_option maxRecDepth 100000 in
theorem cmpF_any (x y : MF) (W : World) : Calls Tryz.prog 34 #[.agg (fdC x).toArray, .agg (fdC y).toArray] W fun e W' => e = .returned (.int .i64 (Lib.compareBytes x.2.1 y.2.1)) ∧ ∃ os, W' = Go.Sort.grow W os := by
  have HC := Lib.hid (fun (a b : ByteArray) W => Any.strings_Compare Tryz.compareL a b W)
  obtain ⟨A, a1, a2⟩ := x
  obtain ⟨B, b1, b2⟩ := y
  unfold fdC
  dsimp only
  have hx : ∀ l : Tx, (str l).data.toList = l := fun l => by rw [str]
  have HX := Lib.hid hx
  obtain ⟨A1, hA1⟩ : ∃ X, str a1 = X := ⟨_, rfl⟩
  obtain ⟨A2, hA2⟩ : ∃ X, str a2 = X := ⟨_, rfl⟩
  obtain ⟨B1, hB1⟩ : ∃ X, str b1 = X := ⟨_, rfl⟩
  obtain ⟨B2, hB2⟩ : ∃ X, str b2 = X := ⟨_, rfl⟩
  rw [hA1, hA2, hB1, hB2]
  have h1 : Lib.compareBytes a1 b1 = Lib.compareBytes A1.data.toList B1.data.toList := by rw [← hA1, ← hB1, hx, hx]
  rw [h1]
  clear hx h1 hA1 hA2 hB1 hB2
  go_enter Tryz.func34, Tryz.ntmps34
  go_wp2_with (first | (go_at_call 35; refine (HC.out _ _ _).mono ?_; rintro e w' ⟨rfl, rfl⟩))
  go_ret
  exact ⟨rfl, _, (Go.Sort.alloc_eq_grow _ _).trans ((congrArg (fun W => Go.Sort.grow W _) (Go.Sort.alloc_eq_grow _ _)).trans (Go.Sort.grow_grow _ _ _))⟩
theorem flatV_get : ∀ (l : List (Tx × MF)) (i c : Nat), c < 3 → (l.flatMap vC)[i * 3 + c]? = (l[i]?).bind fun p => (vC p)[c]?
  | [], i, c, _ => by simp
  | p :: l, 0, c, hc => by
    simp only [List.flatMap_cons, Nat.zero_mul, Nat.zero_add, List.getElem?_cons_zero, Option.bind_some]
    rw [List.getElem?_append_left (by show c < 3; exact hc)]
  | p :: l, i + 1, c, hc => by
    simp only [List.flatMap_cons, List.getElem?_cons_succ]
    rw [List.getElem?_append_right (by show 3 ≤ _; omega)]
    have e : (i + 1) * 3 + c - (vC p).length = i * 3 + c := by show _ - 3 = _; omega
    rw [e]
    exact flatV_get l i c hc
theorem flatK_get (d : Array (Tx × MF)) (i c : Nat) (hi : i < d.size) (hc : c < 3) : (d.toList.flatMap vC)[i * 3 + c]? = (vC d[i]!)[c]? := by
  rw [flatV_get _ _ _ hc, getElem!_pos d i hi, List.getElem?_eq_getElem (by simpa using hi), Option.bind_some, Array.getElem_toList]
set_option maxRecDepth 100000 in
theorem sortF_any (base : Nat) (v : Value) (xs : List (Tx × MF)) (w : World) (hn : xs.length ≤ 1000000) (hown : w.ownsRow base 45 3 v xs.length (xs.flatMap vC)) :
    Calls Tryz.prog 57 #[v, .func (.func 34) #[] #[]] w fun e w' => e = .returned (.tuple #[]) ∧ ∃ ys : List (Tx × MF), ys.Perm xs ∧ (ys.Pairwise fun p q => ¬ q.2.2.1 < p.2.2.1) ∧ RowF w' v (ys.map (·.2)) ∧ Below base w w' := by
  have hfd : ∀ ys : List (Tx × MF), (ys.map (·.2)).flatMap fdC = ys.flatMap vC := fun ys => by rw [List.flatMap_map]; rfl
  by_cases h0 : xs = []
  · subst h0
    obtain ⟨A, c, rfl, hc1, hc2, _, hr, _⟩ := owns_formk hown
    refine Calls.mono (AnyF.slices_SortFunc_none Tryz.sortL A c _ w) ?_
    rintro e w' ⟨rfl, rfl⟩
    exact ⟨rfl, [], List.Perm.refl _, List.Pairwise.nil, ⟨A, c, rfl, hc1, hc2, Rd.nil⟩, Below.refl _ _⟩
  · have hpos : 0 < xs.length := List.length_pos_iff.2 h0
    rcases hown.2 with ⟨_, h9⟩ | ⟨g, cap, cur, rfl, hbg, hh, hnc, hcm, hcs, htk⟩
    · omega
    · have hgl := blk9_lt hh
      have hsz : xs.toArray.size = xs.length := by simp
      have hH : Go.Sort.HoldsK vC 3 w g 0 xs.toArray := by
        intro j hj
        rw [Go.Sort.size_flatK, hsz] at hj
        have hjq : j / 3 < xs.length := by omega
        have hcell : w.cell? ⟨g, j, none⟩ = some ((vC xs.toArray[j / 3]!)[j % 3]!) := by
          refine cell9_blk hh j ?_
          have h1 := flatK_get xs.toArray (j / 3) (j % 3) (by rw [hsz]; exact hjq) (Nat.mod_lt _ (by decide))
          have h2 : j / 3 * 3 + j % 3 = j := by omega
          rw [h2] at h1
          have h3 : (xs.toArray.toList.flatMap vC) = cur.toList.take (xs.length * 3) := by rw [htk]
          rw [h3, List.getElem?_take_of_lt (by omega), Array.getElem?_toList] at h1
          rw [h1]
          have h4 : j % 3 < (vC xs.toArray[j / 3]!).length := by show j % 3 < 3; exact Nat.mod_lt _ (by decide)
          rw [getElem!_pos (vC xs.toArray[j / 3]!) (j % 3) h4]
          exact List.getElem?_eq_getElem h4
        have hfr : w.frozen? ⟨g, j, none⟩ = false := frz9_blk hh j
        have hfk := Go.Sort.get_flatK vC 3 xs.toArray j (by rw [hsz]; exact hj)
        rw [Nat.zero_add]
        exact ⟨by rw [hcell, hfk]; rfl, hfr⟩
      have hcmp : CmpLays Tryz.prog 34 #[] vC 3 cfV g 0 xs.toArray.size w := by
        intro m os dk hdk x y
        refine (cmpF_any x.2 y.2 (sortWorldK vC 3 w g 0 m dk os)).mono ?_
        rintro e W' ⟨rfl, os', rfl⟩
        exact ⟨rfl, 0, os', rfl⟩
      have h := AnyQ.slices_SortFunc Tryz.sortL 3 (fun w => by kernel_rfl) (fun w => by kernel_rfl) vC (fun _ => rfl) (fun x v hv => by
        simp only [vC, fdC, List.mem_cons, List.not_mem_nil, or_false] at hv
        rcases hv with rfl | rfl | rfl <;> rfl) cfV swoV 34 #[] g 0 cap xs.toArray w (enters_of Tryz.func34 (by kernel_rfl) rfl) hcmp hH hgl (by rw [hsz]; omega)
      rw [hsz] at h
      refine Calls.mono h ?_
      rintro e w' ⟨rfl, d', n, os, ⟨hp1, _, hp3⟩, hso, rfl⟩
      have hd3 : d'.size = xs.length := by rw [hp1, hsz]
      have e1 : d'.extract 0 xs.length = d' := by rw [← hd3]; simp
      have e2 : xs.toArray.extract 0 xs.length = xs.toArray := by rw [← hsz]; simp
      rw [e1, e2] at hp3
      have hK0 : Go.Sort.HoldsK vC 3 (Go.Sort.putRowK vC 3 (Go.Sort.ahead w n) g 0 d') g 0 d' := Go.Sort.holdsK_putRowK vC 3 _ g 0 xs.toArray d' (Go.Sort.holdsK_ahead vC 3 w n g 0 _ hH) hp1
      have hsz2 : (Go.Sort.putRowK vC 3 (Go.Sort.ahead w n) g 0 d').heap.size = w.heap.size := Go.Sort.size_putRow _ _ _ _ _
      have hK : Go.Sort.HoldsK vC 3 (sortWorldK vC 3 w g 0 n d' os) g 0 d' := Go.Sort.holdsK_grow vC 3 _ os g 0 d' (by rw [hsz2]; exact hgl) hK0
      refine ⟨rfl, d'.toList, hp3, ?_, ⟨some ⟨g, 0, none⟩, cap, ?_, ?_, hcm, ?_⟩, rfl, rfl, rfl, ?_, fun k hk => ?_⟩
      · rw [List.pairwise_iff_getElem]
        intro i j hi hj hij
        have hj' : j < d'.size := by simpa using hj
        have h9 := hso i j (Nat.zero_le _) hij (by omega)
        rw [ltV, getElem!_pos d' j hj', getElem!_pos d' i (by omega)] at h9
        simpa using h9
      · have e : d'.toList.length = xs.length := by rw [Array.length_toList, hd3]
        rw [List.length_map, e]
      · rw [List.length_map, Array.length_toList, hd3]; exact hnc
      · rw [hfd]
        intro _
        refine ⟨_, rfl, fun j u hu => ?_⟩
        have hjl := (List.getElem?_eq_some_iff.1 hu).1
        rw [vC_len, Array.length_toList, hd3] at hjl
        have h1 := (hK j (by rw [Go.Sort.size_flatK, hd3]; exact hjl)).1
        rw [Nat.zero_add, Go.Sort.get_flatK vC 3 d' j (by rw [hd3]; exact hjl)] at h1
        have h2 := flatK_get d' (j / 3) (j % 3) (by rw [hd3]; omega) (Nat.mod_lt _ (by decide))
        rw [show j / 3 * 3 + j % 3 = j by omega, hu] at h2
        have h4 : j % 3 < (vC d'[j / 3]!).length := by show j % 3 < 3; exact Nat.mod_lt _ (by decide)
        rw [List.getElem?_eq_getElem h4] at h2
        injection h2 with h2
        rw [getElem!_pos (vC d'[j / 3]!) (j % 3) h4, ← h2] at h1
        have e9 : (⟨g, 0, none⟩ : Addr).add j = ⟨g, j, none⟩ := by unfold Addr.add; split <;> simp_all
        rw [e9]
        exact h1
      · show w.heap.size ≤ (Go.Sort.grow _ os).heap.size
        rw [Go.Sort.size_grow, hsz2]
        omega
      · show (Go.Sort.grow _ os).heap[k]? = _
        rw [Go.Sort.heap_grow_old _ _ (by rw [hsz2]; omega)]
        unfold Go.Sort.putRowK Go.Sort.putRow Go.Sort.mapBlock
        simp only [Array.getElem?_modify]
        rw [if_neg (by omega)]
        rfl
set_option maxRecDepth 100000 in
theorem fields_any (b : Nat) (fn : Tx → Option MF) (NL : List Tx) (w : World) (hT : TabP w b fn) (hnm : ∀ k f, fn k = some f → f.2.1 = k) (hN : ∀ k f, fn k = some f → k ∈ NL) (hNl : NL.length ≤ 1000000) :
    Calls Tryz.prog 21 #[.map (some b)] w fun e w' => ∃ v xs, e = .returned v ∧ FullV fn xs ∧ SrtV xs ∧ RowF w' v (xs.map (·.2)) ∧ (∀ g, v.ownBlock = some g → w.heap.size ≤ g ∧ g < w'.heap.size) ∧ Below w.heap.size w w' := by
  have HV := Lib.hid (values_any b w)
  have HSF : Hid (∀ W, Below w.heap.size w W → Bx W w.heap.size 61 (.map (some b)) → Calls Tryz.prog 32 #[.func (.func 58) #[] #[.pointer (some ⟨w.heap.size, 0, none⟩)], .func (.func 34) #[] #[]] W fun e w' => ∃ v xs, e = .returned v ∧ FullV fn xs ∧ SrtV xs ∧ RowF w' v (xs.map (·.2)) ∧ (∀ g, v.ownBlock = some g → w.heap.size ≤ g ∧ g < w'.heap.size) ∧ Below w.heap.size w w') := fun W hb hB => by
    have hX : ∃ X, W.heap[b]? = some X := ⟨_, Array.getElem?_eq_getElem (Nat.lt_of_lt_of_le hT.lt hb.size)⟩
    obtain ⟨X, hX⟩ := hX
    have HAs := Lib.hid (appendSeq_any 58 #[.pointer (some ⟨w.heap.size, 0, none⟩)] (enters_of Tryz.func58 (by kernel_rfl) rfl) fn b X (fun k => k = w.heap.size) w.heap.size W hb.size (fun k hk => by rw [hk]; exact hB.lt) (fun k hk => by rw [hk]; exact Nat.le_refl _) hT.lt hX (okV_len hN hNl)
      (fun W2 h2 => vals_deals b fn w.heap.size (fun k => k = w.heap.size) rfl X W2 ((h2.block b (blk9_lt hX)).trans hX) (fun k hk => by rw [hk]; exact Nat.lt_of_lt_of_le hB.lt h2.size) ((hT.below hb).below h2) (hB.below h2)))
    have HCo : Hid (Calls Tryz.prog 56 #[.func (.func 58) #[] #[.pointer (some ⟨w.heap.size, 0, none⟩)]] W fun e w' => ∃ v xs, e = .returned v ∧ FullV fn xs ∧ w'.ownsRow w.heap.size 45 3 v xs.length (xs.flatMap vC) ∧ Below w.heap.size W w') := by
      clear hX hB hb
      go_enter Tryz.func56, Tryz.ntmps56
      go_wp2_with (first | (go_at_call 75; refine HAs.out.mono ?_; rintro e w' ⟨v, xs, rfl, h1, h2, h3⟩))
      go_ret
      exact ⟨v, xs, rfl, h1, h2, h3⟩
    have HB := Lib.hid hb
    clear HAs hX hB hb
    go_enter Tryz.func32, Tryz.ntmps32
    go_wp2_with fail
    with_reducible refine HCo.out.mono ?_
    rintro e W1 ⟨v, xs, rfl, hfull, hown, hb1⟩
    have hlen := okV_len hN hNl xs hfull.1
    have HSo := Lib.hid (sortF_any w.heap.size v xs W1 hlen hown)
    have hob := hown.lt
    have HF := Lib.hid (And.intro hfull (And.intro hb1 hob))
    clear hfull hb1 hown hlen hob
    go_wp2_with fail
    with_reducible refine HSo.out.mono ?_
    rintro e W2 ⟨rfl, ys, hperm, hso, hrow, hb2⟩
    have hfy := fullV_perm HF.out.1 hperm
    have hnmy : ∀ p ∈ ys, p.2.2.1 = p.1 := fun p hp => hnm _ _ (hfy.1.2 p hp)
    have hsr : SrtV ys := by
      have h2 : ys.Pairwise fun p q => p.1 ≠ q.1 ∧ ¬ q.2.2.1 < p.2.2.1 := hfy.1.1.and hso
      refine (List.Pairwise.imp_of_mem ?_ h2)
      intro p q hp hq ⟨h3, h4⟩
      rw [Go.Proofs.bytesLess_eq]
      rw [hnmy p hp, hnmy q hq] at h4
      refine decide_eq_true (Decidable.byContradiction fun h5 => h3 (List.le_antisymm h4 h5))
    have hsz1 := hb2.size
    have hob : ∀ g, v.ownBlock = some g → w.heap.size ≤ g ∧ g < W2.heap.size := fun g hg => ⟨(HF.out.2.2 g hg).1, Nat.lt_of_lt_of_le (HF.out.2.2 g hg).2 hsz1⟩
    have HW := Lib.hid (And.intro hfy (And.intro hsr (And.intro hrow (And.intro hob (HB.out.trans (HF.out.2.1.trans hb2))))))
    clear hfy hsr hrow hb2 hperm hso hnmy
    go_wp2_with fail
    go_ret
    exact ⟨_, ys, rfl, HW.out⟩
  clear hT hnm hN hNl
  go_enter Tryz.func21, Tryz.ntmps21
  go_wp2_with fail
  with_reducible refine HV.out.mono ?_
  rintro e W ⟨rfl, hb, hB⟩
  have HS := Lib.hid (HSF.out W hb hB)
  clear hb hB
  go_wp2_with fail
  with_reducible refine HS.out.mono ?_
  rintro e W2 ⟨v, xs, rfl, h1⟩
  have H1 := Lib.hid h1
  clear h1
  go_wp2_with fail
  go_ret
  exact ⟨_, xs, rfl, H1.out⟩
end Go.Proofs.YthnogakjaaopkaaGreatDoor

/- What layer 15's package answers, as a contract (what both laws' seats reach). -/
import Derived.Test.YtkihfafkglkjnaaDoorQuMem
namespace Go.Proofs.YtkihfafkglkjnaaDoor
open Go.RowKit

def errK (n : Int) : Value := .iface 53 (.int .i64 n)
def errE (k : Nat) : Value := if k = 0 then .nilIface else errK k
theorem errE_zero : errE 0 = .nilIface := if_pos rfl
theorem errE_pos {k : Nat} (h : k ≠ 0) : errE k = errK k := if_neg h
/-- Only blocks of F are touched; F' is F and new blocks. -/
structure TuF (F F' : Nat → Prop) (w w' : World) : Prop where
  os : w'.os = w.os
  tape : w'.tape = w.tape
  output : w'.output = w.output
  size : w.heap.size ≤ w'.heap.size
  block : ∀ k, k < w.heap.size → ¬ F k → w'.heap[k]? = w.heap[k]?
  news : ∀ k, F' k → F k ∨ w.heap.size ≤ k
theorem TuF.of {F : Nat → Prop} {w w' : World} (h : Below w.heap.size w w') : TuF F F w w' := ⟨h.os, h.tape, h.output, h.size, fun k hk _ => h.block k hk, fun _ h => .inl h⟩
theorem TuF.trans {F F' F'' : Nat → Prop} {a b c : World} (h : TuF F F' a b) (h' : TuF F' F'' b c) : TuF F F'' a c :=
  ⟨h'.os.trans h.os, h'.tape.trans h.tape, h'.output.trans h.output, Nat.le_trans h.size h'.size, fun k hk hn => (h'.block k (Nat.lt_of_lt_of_le hk h.size) (fun hf => (h.news k hf).elim hn (fun h2 => absurd hk (Nat.not_lt.2 h2)))).trans (h.block k hk hn),
   fun k hk => (h'.news k hk).elim (fun h1 => h.news k h1) (fun h2 => .inr (Nat.le_trans h.size h2))⟩
theorem TuF.below {F F' : Nat → Prop} {B : Nat} {a w w' : World} (h : TuF F F' w w') (hb : Below B a w) (hB : B ≤ w.heap.size) (hF : ∀ k, F k → B ≤ k) : Below B a w' :=
  ⟨h.os.trans hb.os, h.tape.trans hb.tape, h.output.trans hb.output, Nat.le_trans hb.size h.size, fun k hk => (h.block k (Nat.lt_of_lt_of_le hk hB) (fun hf => absurd hk (Nat.not_lt.2 (hF k hf)))).trans (hb.block k hk)⟩
theorem TuF.low {F F' : Nat → Prop} {B : Nat} {w w' : World} (h : TuF F F' w w') (hB : B ≤ w.heap.size) (hF : ∀ k, F k → B ≤ k) : ∀ k, F' k → B ≤ k := fun k hk => (h.news k hk).elim (hF k) (fun h2 => Nat.le_trans hB h2)
/-- A row none of whose cells lies in F. -/
def RowP (F : Nat → Prop) (w : World) (v : Value) (L : List Ev) : Prop := ∃ A c, v = .slice A L.length c ∧ L.length ≤ c ∧ c ≤ maxLen ∧ Rd w A (L.flatMap evC) ∧ ∀ ad, A = some ad → L ≠ [] → ¬ F ad.block
theorem RowP.nil (F : Nat → Prop) (w : World) : RowP F w (.slice none 0 0) [] := ⟨none, 0, rfl, Nat.le_refl _, Nat.zero_le _, Rd.nil, fun _ h => by cases h⟩
theorem RowP.row {F : Nat → Prop} {w : World} {v : Value} {L : List Ev} (h : RowP F w v L) : RowE w v L := by
  obtain ⟨A, c, h1, h2, h3, h4, _⟩ := h
  exact ⟨A, c, h1, h2, h3, h4⟩
theorem addB (a : Addr) (j : Nat) : (a.add j).block = a.block := by
  unfold Addr.add
  split <;> rfl
theorem RowP.mono {F F' : Nat → Prop} {w : World} {v : Value} {L : List Ev} (h : RowP F w v L) (hF : ∀ k, F' k → F k) : RowP F' w v L := by
  obtain ⟨A, c, h1, h2, h3, h4, h5⟩ := h
  exact ⟨A, c, h1, h2, h3, h4, fun ad e hL hf => h5 ad e hL (hF _ hf)⟩
theorem RowP.bl {F : Nat → Prop} {w w' : World} {v : Value} {L : List Ev} (h : RowP F w v L) (hb : Below w.heap.size w w') : RowP F w' v L := by
  obtain ⟨A, c, h1, h2, h3, h4, h5⟩ := h
  exact ⟨A, c, h1, h2, h3, h4.below hb, h5⟩
theorem RowP.form {F : Nat → Prop} {w : World} {v : Value} {L : List Ev} (h : RowP F w v L) : ∃ A c, v = .slice A L.length c ∧ RowP F w (.slice A L.length c) L := by
  obtain ⟨A, c, h1, h2⟩ := h
  exact ⟨A, c, h1, A, c, rfl, h2⟩
theorem RowP.tu {F F' H : Nat → Prop} {w w' : World} {v : Value} {L : List Ev} (h : RowP H w v L) (ht : TuF F F' w w') (hF : ∀ k, F k → H k) : RowP (fun k => H k ∨ w.heap.size ≤ k) w' v L := by
  obtain ⟨A, c, h1, h2, h3, h4, h5⟩ := h
  by_cases hL : L = []
  · subst hL
    exact ⟨A, c, h1, h2, h3, fun hl => absurd hl (by simp), fun _ _ hn => absurd rfl hn⟩
  have hne : 0 < (L.flatMap evC).length := by
    rw [evC_len]
    have := List.length_pos_iff.2 hL
    omega
  obtain ⟨ad, e, hc⟩ := h4 hne
  have hlt : ad.block < w.heap.size := by
    have := World.block_lt_of_cell? _ _ (hc 0 _ (List.getElem?_eq_getElem hne))
    rwa [addB] at this
  have hn := h5 ad e hL
  refine ⟨A, c, h1, h2, h3, fun _ => ⟨ad, e, fun j u hu => ?_⟩, fun ad' e' _ hf => ?_⟩
  · refine (World.cell?_of_block (ht.block _ ?_ ?_)).trans (hc j u hu)
    · rw [addB]; exact hlt
    · rw [addB]; exact fun hf => hn (hF _ hf)
  · rw [e] at e'
    injection e' with e'
    subst e'
    exact hf.elim hn fun h => absurd hlt (Nat.not_lt.2 h)
theorem RowP.owned {w : World} {base : Nat} {e : TypeId} {v : Value} {n : Nat} {L : List Ev} (hn : L.length = n) (h : w.ownsRow base e 3 v n (L.flatMap evC)) : RowP (fun k => k < base) w v L := by
  have hlt := h.lt
  obtain ⟨A, c, rfl, h1, h2, _, h3, _⟩ := owns_formk h
  subst hn
  refine ⟨A, c, rfl, h1, h2, h3, fun ad e _ hk => ?_⟩
  subst e
  exact absurd hk (Nat.not_lt.2 (hlt ad.block rfl).1)
/-- A number that an int holds. -/
abbrev In64 (n : Int) : Prop := -9223372036854775808 ≤ n ∧ n ≤ 9223372036854775807
/-- What the package answers. -/
structure PgP (Is : World → Value → (Nat → Prop) → Int → List Ev → Prop) : Prop where
  kept : ∀ {w w' : World} {v : Value} {F : Nat → Prop} {n : Int} {L : List Ev}, Is w v F n L → (∀ k, F k → w'.heap[k]? = w.heap[k]?) → Is w' v F n L
  fp : ∀ {w : World} {v : Value} {F : Nat → Prop} {n : Int} {L : List Ev}, Is w v F n L → ∀ k, F k → k < w.heap.size
  ptr : ∀ {w : World} {v : Value} {F : Nat → Prop} {n : Int} {L : List Ev}, Is w v F n L → ∃ b, v = .pointer (some ⟨b, 0, none⟩)
  len : ∀ {w : World} {v : Value} {F : Nat → Prop} {n : Int} {L : List Ev}, Is w v F n L → (L.length : Int) ≤ n ∧ n ≤ 65536 ∧ SrE L ∧ ∀ e ∈ L, badE15 e = false
  keys : ∀ {w : World} {v : Value} {F : Nat → Prop} {n : Int} {L : List Ev}, Is w v F n L → ∀ e ∈ L, In64 e.2.1 ∧ In64 e.2.2
  new : ∀ (n : Int) (w : World), 1 ≤ n → n ≤ 65536 → Calls Tryd.prog 6 #[.int .i64 n] w fun x w' => ∃ v F, x = .returned (.tuple #[v, .nilIface]) ∧ Is w' v F n [] ∧ (∀ k, F k → w.heap.size ≤ k) ∧ Below w.heap.size w w'
  set : ∀ (v : Value) (F : Nat → Prop) (n : Int) (L : List Ev) (e : Ev) (w : World), In64 e.2.1 → In64 e.2.2 → Is w v F n L → Calls Tryd.prog 9 #[v, evV e] w fun x w' => x = .returned (errE (stE L n e).2) ∧ ∃ F', Is w' v F' n (stE L n e).1 ∧ TuF F F' w w'
  first : ∀ (v : Value) (F : Nat → Prop) (n : Int) (L : List Ev) (w : World), Is w v F n L → Calls Tryd.prog 14 #[v] w fun x w' => x = .returned (.tuple #[evV (L.headD (0, 0, 0)), .bool (!L.isEmpty)]) ∧ Below w.heap.size w w'
  pop : ∀ (v : Value) (F : Nat → Prop) (n : Int) (L : List Ev) (w : World), Is w v F n L → Calls Tryd.prog 13 #[v] w fun x w' => x = .returned (.tuple #[evV (L.headD (0, 0, 0)), .bool (!L.isEmpty)]) ∧ ∃ F', Is w' v F' n L.tail ∧ TuF F F' w w'
  find : ∀ (v : Value) (F : Nat → Prop) (n : Int) (L : List Ev) (k i : Int) (w : World), In64 k → In64 i → Is w v F n L → Calls Tryd.prog 15 #[v, .int .i64 k, .int .i64 i] w fun x w' => ∃ a, x = .returned (.tuple #[.int .i64 a, .bool (decide (0 ≤ fdE k i L 0))]) ∧ (∀ j e, fdE k i L 0 = (j : Nat) → L[j]? = some e → a = e.1) ∧ Below w.heap.size w w'
  leng : ∀ (v : Value) (F : Nat → Prop) (n : Int) (L : List Ev) (w : World), Is w v F n L → Calls Tryd.prog 16 #[v] w fun x w' => x = .returned (.int .i64 (L.length : Nat)) ∧ Below w.heap.size w w'
  list : ∀ (v : Value) (F : Nat → Prop) (n : Int) (L : List Ev) (w : World), Is w v F n L → Calls Tryd.prog 18 #[v] w fun x w' => ∃ u, x = .returned u ∧ RowP (fun k => k < w.heap.size) w' u L ∧ Below w.heap.size w w'
theorem PgP.below {Is : World → Value → (Nat → Prop) → Int → List Ev → Prop} (hP : PgP Is) {w w' : World} {v : Value} {F : Nat → Prop} {n : Int} {L : List Ev} (h : Is w v F n L) (hb : Below w.heap.size w w') : Is w' v F n L := hP.kept h fun k hk => hb.block k (hP.fp h k hk)
end Go.Proofs.YtkihfafkglkjnaaDoor

/- Layer 8: rows of lines in memory; strings as lists of bytes; cut and joined. -/
import Derived.Test.YtencapplbedcmaaGreatDoorLxMath
import Derived.Lib.SlicesS
namespace Go.Proofs.YtencapplbedcmaaGreatDoor
open Go.RowKit

theorem str_append (a b : Tx) : str a ++ str b = str (a ++ b) := by
  apply ByteArray.ext
  simp [str]
theorem str_cut (l : Tx) (a b : Nat) : (str l).extract a b = str ((l.drop a).take (b - a)) := by
  apply ByteArray.ext
  apply Array.ext'
  rw [Lib.extract_data]
  rfl
theorem str_inj {a b : Tx} : str a = str b ↔ a = b :=
  ⟨fun h => by
    have := congrArg (fun s : ByteArray => s.data.toList) h
    simpa [str] using this, fun h => by rw [h]⟩
theorem str_data (l : Tx) : (str l).data.toList = l := rfl
theorem str_of (s : ByteArray) : str s.data.toList = s := rfl
theorem str_at (l : Tx) (i : Nat) (h : i < l.length) : (str l)[i]'(by rw [str_size]; exact h) = l[i] := rfl
/-! Rows of elements of k cells. -/
theorem flat_len {α : Type} (cells : α → List Value) (k : Nat) (hk : ∀ a, (cells a).length = k) : ∀ l : List α, (l.flatMap cells).length = l.length * k
  | [] => by simp
  | a :: l => by rw [List.flatMap_cons, List.length_append, hk, flat_len cells k hk l, List.length_cons, Nat.add_mul, Nat.one_mul]; omega
theorem flat_get {α : Type} (cells : α → List Value) (k : Nat) (hk : ∀ a, (cells a).length = k) (l : List α) (i : Nat) (hi : i < l.length) (j : Nat) (hj : j < k) : (l.flatMap cells)[i * k + j]? = (cells l[i])[j]? := by
  induction l generalizing i with
  | nil => cases hi
  | cons s T ih =>
    rw [List.flatMap_cons]
    cases i with
    | zero => rw [Nat.zero_mul, Nat.zero_add, List.getElem?_append_left (by rw [hk]; omega)]; rfl
    | succ i =>
      have e1 : (i + 1) * k + j = k + (i * k + j) := by rw [Nat.add_mul, Nat.one_mul]; omega
      rw [List.getElem?_append_right (by rw [hk]; omega), hk, e1, Nat.add_sub_cancel_left, ih i (by simpa using hi)]
      rfl
theorem owns_formk {w : World} {base k : Nat} {e : TypeId} {v : Value} {n : Nat} {xs : List Value} (h : w.ownsRow base e k v n xs) :
    ∃ A c, v = .slice A n c ∧ n ≤ c ∧ c ≤ maxLen ∧ xs.length = n * k ∧ Rd w A xs ∧ ∀ p, A = some p → base ≤ p.block ∧ p.block < w.heap.size := by
  have hl : xs.length = n * k := by have := h.1; omega
  rcases h.2 with ⟨rfl, rfl⟩ | ⟨g, cap, cur, rfl, hb, hh, hc, hm, _, _⟩
  · exact ⟨none, 0, rfl, Nat.le_refl _, Nat.zero_le _, hl, fun hn => absurd hn (by omega), fun p hp => by cases hp⟩
  · refine ⟨some ⟨g, 0, none⟩, cap, rfl, hc, hm, hl, fun hn => ⟨_, rfl, h.cells (g := g) rfl⟩, fun p hp => ?_⟩
    injection hp with hp
    subst hp
    exact ⟨hb, (Array.getElem?_eq_some_iff.1 hh).1⟩
/-- A line's cells. -/
def lnCells (p : Nat × Tx) : List Value := [.int .i64 p.1, .string (str p.2)]
theorem lncat_len (L : List (Nat × Tx)) : (L.flatMap lnCells).length = L.length * 2 := flat_len lnCells 2 (fun _ => rfl) L
theorem lncat_snoc (L : List (Nat × Tx)) (p : Nat × Tx) : (L ++ [p]).flatMap lnCells = L.flatMap lnCells ++ lnCells p := by simp
def RdL (w : World) (A : Option Addr) (L : List (Nat × Tx)) : Prop := Rd w A (L.flatMap lnCells)
theorem RdL.below {w w' : World} {A : Option Addr} {L : List (Nat × Tx)} (h : RdL w A L) (hb : Below w.heap.size w w') : RdL w' A L := Rd.below h hb
theorem RdL.two {w : World} {A : Option Addr} {L : List (Nat × Tx)} (h : RdL w A L) (i : Nat) (hi : i < L.length) : ∃ ad X, A = some ad ∧ ad.add (i * 2) = X ∧ w.cell? X = some (.int .i64 L[i].1) ∧ w.cell? { block := X.block, off := X.off + 1 } = some (.string (str L[i].2)) := by
  obtain ⟨ad, e, hc⟩ := h (by rw [lncat_len]; omega)
  have hj : ∀ j u, j < 2 → (lnCells L[i])[j]? = some u → w.cell? (ad.add (i * 2 + j)) = some u := fun j u hj hu => hc _ u (by rw [flat_get lnCells 2 (fun _ => rfl) L i hi j hj]; exact hu)
  refine ⟨ad, _, e, rfl, hj 0 _ (by omega) rfl, ?_⟩
  have := hj 1 _ (by omega) rfl
  rw [← add_add'] at this
  exact this
/-- A slice of lines. -/
def RowL (w : World) (v : Value) (L : List (Nat × Tx)) : Prop := ∃ A c, v = .slice A L.length c ∧ L.length ≤ c ∧ c ≤ maxLen ∧ RdL w A L
theorem RowL.below {w w' : World} {v : Value} {L : List (Nat × Tx)} (h : RowL w v L) (hb : Below w.heap.size w w') : RowL w' v L := by
  obtain ⟨A, c, e, h1, h2, h3⟩ := h
  exact ⟨A, c, e, h1, h2, h3.below hb⟩
theorem RowL.nil (w : World) : RowL w (.slice none 0 0) [] := ⟨none, 0, rfl, Nat.le_refl _, Nat.zero_le _, Rd.nil⟩
theorem RowL.owned {w : World} {base : Nat} {e : TypeId} {v : Value} {n : Nat} {L : List (Nat × Tx)} (hn : L.length = n) (h : w.ownsRow base e 2 v n (L.flatMap lnCells)) : RowL w v L := by
  obtain ⟨A, c, rfl, h1, h2, _, h3, _⟩ := owns_formk h
  subst hn
  exact ⟨A, c, rfl, h1, h2, h3⟩
section
variable {P : Program}
theorem wp_appL {w : World} {o : Oper} {a : Act} {K : Act → World → Prop} {Q : Exit → Act → World → Prop} {t e : TypeId} (s x : Operand) (ht : P.underlying t = some (.slice e)) (hi : (P.info? e).map (fun i => (i.zero, i.size, i.bytes)) = some (some (.agg #[.int .i64 0, .string ⟨#[]⟩]), 2, 24))
    (ho : o.op = .call { callee := .builtin .append, args := #[s, x], argTypes := #[t, t] })
    (base : Nat) (v : Value) (n : Nat) (L : List (Nat × Tx)) (hs : a.eval s = v) (hown : w.ownsRow base e 2 v n (L.flatMap lnCells)) (g : Nat) (f : Nat × Tx) (hx : a.eval x = .slice (some ⟨g, 0, none⟩) 1 1)
    {fr : Nat × Nat} (hb : w.heap[g]? = some (.cells #[.int .i64 f.1, .string (str f.2)] e fr)) (hn : n + 1 ≤ 1000000) (hbase : base ≤ w.heap.size)
    (h : ∀ v' w', w'.ownsRow base e 2 v' (n + 1) ((L ++ [f]).flatMap lnCells) → w.grownBy w' v.ownBlock → (v'.ownBlock = v.ownBlock ∨ v'.ownBlock = some w.heap.size) → K (a.put o.dst v') w') :
    o.wp P a w K Q := by
  obtain ⟨i0, hi0, hz0, hz1, hz2⟩ := info_parts hi
  obtain ⟨v', w', hrun, h2, h3, _, h5⟩ := run_append_own_at (P := P) w base t o.type e i0 _ 2 24 ht hi0 hz0 hz1 hz2 rfl (by omega) v n _ hown ⟨g, 0, none⟩ 1 1 (lnCells f) rfl (World.news_of_block (cs := #[.int .i64 f.1, .string (str f.2)]) hb) (by
    intro u hu
    simp only [lnCells, List.mem_cons, List.not_mem_nil, or_false] at hu
    rcases hu with rfl | rfl <;> rfl) (by unfold maxLen; omega) (by omega) hbase
  unfold Oper.wp execOp
  simp only [ho, resolve, invoke, builtin, Sem.run_bind, Sem.run_pure, Result.andThen_ok, List.map_toArray, List.map_cons, List.map_nil, hs, hx, hrun]
  exact h v' w' (by rw [lncat_snoc]; exact h2) h3 h5
theorem wpList_appL {w : World} {ops : Array Oper} {rest : List Oper} {o : Oper} {a : Act} {Q : Exit → Act → World → Prop} {t e : TypeId} (hgd : o.guard = none) (s x : Operand) (ht : P.underlying t = some (.slice e)) (hi : (P.info? e).map (fun i => (i.zero, i.size, i.bytes)) = some (some (.agg #[.int .i64 0, .string ⟨#[]⟩]), 2, 24))
    (ho : o.op = .call { callee := .builtin .append, args := #[s, x], argTypes := #[t, t] })
    (base : Nat) (v : Value) (n : Nat) (L : List (Nat × Tx)) (hs : a.eval s = v) (hown : w.ownsRow base e 2 v n (L.flatMap lnCells)) (g : Nat) (f : Nat × Tx) (hx : a.eval x = .slice (some ⟨g, 0, none⟩) 1 1)
    {fr : Nat × Nat} (hb : w.heap[g]? = some (.cells #[.int .i64 f.1, .string (str f.2)] e fr)) (hn : n + 1 ≤ 1000000) (hbase : base ≤ w.heap.size)
    (h : ∀ v' w', w'.ownsRow base e 2 v' (n + 1) ((L ++ [f]).flatMap lnCells) → w.grownBy w' v.ownBlock → (v'.ownBlock = v.ownBlock ∨ v'.ownBlock = some w.heap.size) → wpList P ops Q rest (a.put o.dst v') w') :
    wpList P ops Q (o :: rest) a w :=
  wpList_plain hgd fun _ hK => wp_appL s x ht hi ho base v n L hs hown g f hx hb hn hbase fun v' w' h2 h3 h4 => hK _ _ (h v' w' h2 h3 h4)
end
end Go.Proofs.YtencapplbedcmaaGreatDoor

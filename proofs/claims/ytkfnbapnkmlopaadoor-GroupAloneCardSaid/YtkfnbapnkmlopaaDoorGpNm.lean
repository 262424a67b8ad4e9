/- Names' places in a map; a drawn region's store into a map. -/
import Derived.Test.YtkfnbapnkmlopaaDoorMapM
import Derived.Test.YtkfnbapnkmlopaaDoorGpMem
import Derived.Test.YtkfnbapnkmlopaaDoorGpTz
import Derived.Test.YtkfnbapnkmlopaaDoorGrLw
import Derived.Maps.RangeWalk
namespace Go.Proofs.YtkfnbapnkmlopaaDoor
open Go.RowKit Go.Maps Go.ChangeMaps Go.WideMaps

theorem ixI_snoc (L : List Tx) (s k : Tx) : ixI (L ++ [s]) k = if 0 ≤ ixI L k then ixI L k else if k = s then (L.length : Int) else -1 := by
  by_cases h : 0 ≤ ixI L k
  · rw [if_pos h]
    obtain ⟨i, hi⟩ : ∃ i : Nat, ixI L k = i := ⟨(ixI L k).toNat, by omega⟩
    obtain ⟨h1, h2⟩ := ixI_at hi
    have hl := (List.getElem?_eq_some_iff.1 h1).1
    rw [hi]
    refine ixI_hit (by rw [List.getElem?_append_left hl]; exact h1) fun j hj => ?_
    rw [List.getElem?_append_left (by omega)]
    exact h2 j hj
  · rw [if_neg h]
    have hno : k ∉ L := fun hm => h (ixI_mem.2 hm)
    by_cases e : k = s
    · rw [if_pos e]
      subst e
      refine ixI_hit (by rw [List.getElem?_append_right (Nat.le_refl _), Nat.sub_self]; rfl) fun j hj h3 => ?_
      rw [List.getElem?_append_left hj] at h3
      exact hno (List.mem_of_getElem? h3)
    · rw [if_neg e]
      exact ixI_no.2 fun hm => by
        rcases List.mem_append.1 hm with hm | hm
        · exact hno hm
        · exact e (List.mem_singleton.1 hm)
theorem keySm {s : Tx} (h : SmN s) : keyOf Tryd.prog 9 (.string (str s)) = some (.string s) :=
  keyOf_string_mk Tryd.underlying9 (s := str s) (by rw [str_size]; exact h)
/-- Block b says of each name which of L bears it first. -/
def NamB (w : World) (b : Nat) (L : List Tx) : Prop := ∃ D n, w.ownsMap Tryd.prog 9 rv b n D ∧ n ≤ L.length ∧ ∀ s : Tx, SmN s →
  if 0 ≤ ixI L s then Maps.has D (.string s) = true ∧ ∀ z, D.atKey (.string s) z = .held (.int .i64 (ixI L s)) else Maps.has D (.string s) = false
section
variable {w w' : World} {b : Nat} {L : List Tx}
theorem NamB.lt (h : NamB w b L) : b < w.heap.size := by
  obtain ⟨D, n, h1, _⟩ := h
  exact h1.lt
theorem NamB.block (h : NamB w b L) (hb : w'.heap[b]? = w.heap[b]?) : NamB w' b L := by
  obtain ⟨D, n, ⟨es, clock, h1, h2⟩, h3⟩ := h
  exact ⟨D, n, ⟨es, clock, hb.trans h1, h2⟩, h3⟩
theorem NamB.below (h : NamB w b L) (hb : Below w.heap.size w w') : NamB w' b L := h.block (hb.block b h.lt)
theorem NamB.made (w : World) : NamB (w.alloc (.map #[] 0)) w.heap.size [] :=
  ⟨.map [], 0, World.ownsMap_made w _ _ _, Nat.le_refl _, fun _ _ => rfl⟩
theorem NamB.look (h : NamB w b L) {s : Tx} (hs : SmN s) : (Instr.lookup 57 (.map (some b)) (.string (str s)) true).run Tryd.prog w = .ok (.tuple #[.int .i64 (if 0 ≤ ixI L s then ixI L s else 0), .bool (decide (0 ≤ ixI L s))]) w := by
  obtain ⟨D, n, h1, _, h3⟩ := h
  obtain ⟨v, ps, hr, hv⟩ := World.ownsMap.look_ok h1 keyLaw9 Tryd.underlying57 (zeroI9 w) (zd := .held (.int .i64 0)) rfl (keySm hs)
  have h4 := h3 s hs
  by_cases h0 : 0 ≤ ixI L s
  · rw [if_pos h0] at h4 ⊢
    rw [h4.1] at hr
    rw [h4.2] at hv
    unfold rv at hv
    simp only [Option.some.injEq, Prod.mk.injEq, DataW.held.injEq] at hv
    rw [hr, hv.1, decide_eq_true h0]
  · rw [if_neg h0] at h4 ⊢
    rw [h4] at hr
    rw [atKey_of_not_has h4] at hv
    unfold rv at hv
    simp only [Option.some.injEq, Prod.mk.injEq, DataW.held.injEq] at hv
    rw [hr, hv.1, decide_eq_false h0]
theorem NamB.upd (h : NamB w b L) {s : Tx} (hs : SmN s) (hno : ¬ 0 ≤ ixI L s) (hl : L.length ≤ 1000000) : ∃ w', (Instr.mapUpdate 57 (.map (some b)) (.string (str s)) (.int .i64 (L.length : Nat))).run Tryd.prog w = .ok () w' ∧ NamB w' b (L ++ [s]) ∧ w.grownBy w' (some b) := by
  obtain ⟨D, n, h1, h2, h3⟩ := h
  obtain ⟨w', hr, ho, hg⟩ := World.ownsMap.update (d := .held (.int .i64 (L.length : Nat))) (ps := []) (val := .int .i64 (L.length : Nat)) h1 keyLaw9 Tryd.underlying57 (by unfold maxLen; omega) (keySm hs) rfl
  refine ⟨w', hr, ⟨_, n + 1, ho, by rw [List.length_append, List.length_singleton]; omega, fun k hk => ?_⟩, hg⟩
  have h4 := h3 k hk
  rw [ixI_snoc]
  by_cases e : k = s
  · subst e
    rw [if_neg hno, if_pos rfl, if_pos (by omega)]
    exact ⟨has_put_same h1.isMap (keyLaw9.key (keySm hs)) _, fun z => atKey_put_same h1.isMap (keyLaw9.key (keySm hs)) _ _⟩
  · have hne : (Lit.string k) ≠ .string s := fun h => e (by injection h)
    rw [if_neg e]
    by_cases h0 : 0 ≤ ixI L k
    · rw [if_pos h0, if_pos h0]
      rw [if_pos h0] at h4
      rw [has_put_other hne]
      exact ⟨h4.1, fun z => by rw [atKey_put_other hne]; exact h4.2 z⟩
    · rw [if_neg h0, if_neg (by omega)]
      rw [if_neg h0] at h4
      rw [has_put_other hne]
      exact h4
variable {ops : Array Oper} {rest : List Oper} {o : Oper} {a : Act} {Q : Exit → Act → World → Prop}
theorem wpList_nput (hg : o.guard = none) (m x v : Operand) (hop : o.op = Op.mapUpdate 57 m x v) (b : Nat) (L : List Tx) (hm : a.eval m = .map (some b)) (hown : NamB w b L) (hl : L.length ≤ 1000000)
    (s : Tx) (hs : SmN s) (hno : ¬ 0 ≤ ixI L s) (S : ByteArray) (hS : str s = S) (i : Nat) (hi : L.length = i) (hx : a.eval x = .string S) (hv : a.eval v = .int .i64 (i : Nat))
    (hK : ∀ w', NamB w' b (L ++ [s]) → w.grownBy w' (some b) → wpList Tryd.prog ops Q rest (a.put o.dst undef) w') : wpList Tryd.prog ops Q (o :: rest) a w := by
  refine wpList_plain hg fun K' hK' => ?_
  obtain ⟨w', hrun, r1, r2⟩ := hown.upd hs hno hl
  rw [hS, hi] at hrun
  unfold Oper.wp
  simp [execOp, hop, hm, hx, hv, hrun, Result.andThen]
  exact hK' _ _ (hK w' r1 r2)
end
end Go.Proofs.YtkfnbapnkmlopaaDoor

/- Groups and items of one's own, that grow. -/
import Derived.Test.YtkfnbapnkmlopaaDoorGpGi
import Derived.Test.YtkfnbapnkmlopaaDoorGpSu
namespace Go.Proofs.YtkfnbapnkmlopaaDoor
open Go.RowKit

/-- Strings that lie in old blocks, or in blocks of strings. -/
def HeS (w : World) (base : Nat) (v : Value) (L : List Tx) : Prop := RowS w v L ∧ ∀ q n c, v = .slice (some q) n c → L ≠ [] → q.block < base ∨ ∃ cs fr, w.heap[q.block]? = some (.cells cs 9 fr)
theorem HeS.keep {w w' : World} {base base' : Nat} {v : Value} {L : List Tx} (h : HeS w base v L) (hbb : base ≤ base') (hk : ∀ b, b < w.heap.size → (b < base ∨ ∃ cs fr, w.heap[b]? = some (.cells cs 9 fr)) → w'.heap[b]? = w.heap[b]?) : HeS w' base' v L := by
  obtain ⟨⟨A, c, e, h1, h2, h3⟩, h4⟩ := h
  subst e
  rcases A with _ | q
  · refine ⟨⟨none, c, rfl, h1, h2, fun hn => ?_⟩, fun q n c e => by injection e with e; cases e⟩
    obtain ⟨ad, e, _⟩ := h3 hn
    cases e
  · by_cases hL : L = []
    · subst hL
      exact ⟨⟨_, c, rfl, h1, h2, Rd.nil⟩, fun q n c e hn => absurd rfl hn⟩
    · have hlt : q.block < w.heap.size := by
        have hpos : 0 < L.length := List.length_pos_iff.2 hL
        obtain ⟨ad, e, hc⟩ := h3 (by rw [List.length_map]; exact hpos)
        injection e with e
        subst e
        have : w.cell? (q.add 0) = some (.string (str L[0])) := hc 0 (.string (str L[0])) (by rw [List.getElem?_map, List.getElem?_eq_getElem hpos]; rfl)
        have hb := World.block_lt_of_cell? w _ this
        rw [block_add] at hb
        exact hb
      have hq := h4 q _ _ rfl hL
      have hh := hk q.block hlt hq
      refine ⟨⟨_, c, rfl, h1, h2, h3.keep fun p hp _ => ?_⟩, fun q' n' c' e _ => ?_⟩
      · injection hp with hp
        rw [hp]
        exact hh
      · injection e with e
        injection e with e
        subst e
        exact hq.imp (fun h => Nat.lt_of_lt_of_le h hbb) fun ⟨cs, fr, h⟩ => ⟨cs, fr, hh.trans h⟩
theorem HeS.below {w w' : World} {base : Nat} {v : Value} {L : List Tx} (h : HeS w base v L) (hb : Below w.heap.size w w') : HeS w' base v L := h.keep (Nat.le_refl _) fun b hlt _ => hb.block b hlt
theorem HeS.nil (w : World) (base : Nat) : HeS w base (.slice none 0 0) [] := ⟨rowS_nil w, fun _ _ _ e => by injection e with e; cases e⟩
theorem HeS.one {w : World} {base b : Nat} {s : Tx} (h : w.heap[b]? = some (.cells #[.string (str s)] 9 (0, 0))) : HeS w base (.slice (some ⟨b, 0, none⟩) 1 1) [s] :=
  ⟨rowS_one h, fun q n c e _ => by
    injection e with e
    injection e with e
    subst e
    exact .inr ⟨_, _, h⟩⟩
structure GsO (w : World) (base : Nat) (v : Value) (Z : List (Grp × Value × Value)) : Prop where
  own : w.ownsRow base 45 3 v Z.length (Z.flatMap grC)
  row : ∀ p ∈ Z, HeS w base p.2.1 p.1.2.1 ∧ HeS w base p.2.2 p.1.2.2
structure XsO (w : World) (base : Nat) (v : Value) (Z : List (Itm × Value)) : Prop where
  own : w.ownsRow base 47 2 v Z.length (Z.flatMap itC)
  row : ∀ p ∈ Z, HeS w base p.2 p.1.2
section
variable {w w' : World} {base : Nat} {v v' : Value}
theorem GsO.nil : GsO w base (.slice none 0 0) [] := ⟨World.ownsRow_nil _ _ _ _, fun p hp => by cases hp⟩
theorem XsO.nil : XsO w base (.slice none 0 0) [] := ⟨World.ownsRow_nil _ _ _ _, fun p hp => by cases hp⟩
theorem GsO.below {Z : List (Grp × Value × Value)} (h : GsO w base v Z) (hb : Below w.heap.size w w') : GsO w' base v Z := ⟨own_sameO h.own hb, fun p hp => ⟨(h.row p hp).1.below hb, (h.row p hp).2.below hb⟩⟩
theorem XsO.below {Z : List (Itm × Value)} (h : XsO w base v Z) (hb : Below w.heap.size w w') : XsO w' base v Z := ⟨own_sameO h.own hb, fun p hp => (h.row p hp).below hb⟩
theorem HeS.grown {e : TypeId} {k n : Nat} {xs : List Value} {u : Value} {L : List Tx} (he : e ≠ 9) (hv : w.ownsRow base e k v n xs) (hg : w.grownBy w' v.ownBlock) (h : HeS w base u L) : HeS w' base u L :=
  h.keep (Nat.le_refl _) fun b hlt hb => hg.block b hlt fun e' => by
    have hvb := hv.lt b e'.symm
    rcases hb with hb | ⟨cs, fr, hb⟩
    · omega
    · obtain ⟨c2, f2, e2⟩ := own_typed hv b e'.symm
      rw [hb] at e2
      injection e2 with e2
      injection e2 with _ e2
      exact he e2.symm
theorem GsO.push {Z : List (Grp × Value × Value)} {p : Grp × Value × Value} (h : GsO w base v Z) (h1 : HeS w base p.2.1 p.1.2.1) (h2 : HeS w base p.2.2 p.1.2.2) (ho : w'.ownsRow base 45 3 v' (Z.length + 1) (Z.flatMap grC ++ grC p)) (hg : w.grownBy w' v.ownBlock) : GsO w' base v' (Z ++ [p]) := by
  refine ⟨by rw [List.length_append, List.flatMap_append, List.flatMap_singleton]; exact ho, fun q hq => ?_⟩
  rcases List.mem_append.1 hq with hq | hq
  · exact ⟨HeS.grown (by decide) h.own hg (h.row q hq).1, HeS.grown (by decide) h.own hg (h.row q hq).2⟩
  · rw [List.mem_singleton.1 hq]
    exact ⟨HeS.grown (by decide) h.own hg h1, HeS.grown (by decide) h.own hg h2⟩
theorem XsO.push {Z : List (Itm × Value)} {p : Itm × Value} (h : XsO w base v Z) (h1 : HeS w base p.2 p.1.2) (ho : w'.ownsRow base 47 2 v' (Z.length + 1) (Z.flatMap itC ++ itC p)) (hg : w.grownBy w' v.ownBlock) : XsO w' base v' (Z ++ [p]) := by
  refine ⟨by rw [List.length_append, List.flatMap_append, List.flatMap_singleton]; exact ho, fun q hq => ?_⟩
  rcases List.mem_append.1 hq with hq | hq
  · exact HeS.grown (by decide) h.own hg (h.row q hq)
  · rw [List.mem_singleton.1 hq]
    exact HeS.grown (by decide) h.own hg h1
theorem GsO.rowG {Z : List (Grp × Value × Value)} (h : GsO w base v Z) : RowG w v (Z.map (·.1)) := by
  obtain ⟨A, c, e, h1, h2, h3⟩ := own_anyk h.own
  exact ⟨A, c, Z, rfl, by rw [List.length_map]; exact e, by rw [List.length_map]; exact h1, h2, h3, fun p hp => ⟨(h.row p hp).1.1, (h.row p hp).2.1⟩⟩
theorem XsO.rowX {Z : List (Itm × Value)} (h : XsO w base v Z) : RowX w v (Z.map (·.1)) := by
  obtain ⟨A, c, e, h1, h2, h3⟩ := own_anyk h.own
  exact ⟨A, c, Z, rfl, by rw [List.length_map]; exact e, by rw [List.length_map]; exact h1, h2, h3, fun p hp => (h.row p hp).1⟩
end
end Go.Proofs.YtkfnbapnkmlopaaDoor

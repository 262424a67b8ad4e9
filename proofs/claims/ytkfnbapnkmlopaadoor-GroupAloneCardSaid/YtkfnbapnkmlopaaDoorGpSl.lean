/- What law GroupSame's walk stands on. -/
import Derived.Test.YtkfnbapnkmlopaaDoorGpSm
import Derived.Test.YtkfnbapnkmlopaaDoorGpOw
import Derived.Deep.QuietTactic
namespace Go.Proofs.YtkfnbapnkmlopaaDoor
open Go.RowKit

theorem infoS13 : (Tryd.prog.info? 9).map (fun i => (i.zero, i.size, i.bytes)) = some (some (.string .empty), 1, 16) := by kernel_rfl
theorem one_txs (L : List Tx) : ∀ u ∈ L.map txC, u.oneCell' = true := by
  intro u hu
  obtain ⟨t, _, rfl⟩ := List.mem_map.1 hu
  rfl
/-- Strings of one's own. -/
def StO (w : World) (B : Nat) (v : Value) (L : List Tx) : Prop := w.ownsRow B 9 1 v L.length (L.map txC)
theorem StO.below {w w' : World} {B : Nat} {v : Value} {L : List Tx} (h : StO w B v L) (hb : Below w.heap.size w w') : StO w' B v L := own_sameO h hb
theorem StO.rowS {w : World} {B : Nat} {v : Value} {L : List Tx} (h : StO w B v L) : RowS w v L := RowS.owned rfl h
theorem StO.own_n {w : World} {B n : Nat} {v : Value} {L : List Tx} (h : StO w B v L) (hn : L.length = n) : w.ownsRow B 9 1 v n (L.map txC) := hn ▸ h
theorem StO.of {w : World} {B n : Nat} {v : Value} {L : List Tx} {xs : List Value} (h : w.ownsRow B 9 1 v n xs) (hn : n = L.length) (hx : xs = L.map txC) : StO w B v L := by
  subst hn hx
  exact h
/-- One's own strings lie in a block of strings. -/
theorem StO.he {w : World} {B base : Nat} {v : Value} {L : List Tx} (h : StO w B v L) : HeS w base v L :=
  ⟨h.rowS, fun q n c e _ => by
    obtain ⟨cs, fr, h1⟩ := own_typed h q.block (by rw [e]; rcases h.2 with ⟨e2, _⟩ | ⟨g, cap, cur, e2, _⟩ <;> rw [e] at e2 <;> injection e2 with e2 <;> cases e2 <;> rfl)
    exact .inr ⟨cs, fr, h1⟩⟩
/-- What lies in old blocks. -/
theorem HeS.old {w w' : World} {v : Value} {L : List Tx} (h : RowS w v L) (hb : Below w.heap.size w w') : HeS w' w.heap.size v L := by
  refine ⟨h.below hb, fun q n c e hn => .inl ?_⟩
  obtain ⟨A, c', e', h1, h2, h3⟩ := h
  rw [e'] at e
  injection e with e1 e2 e3
  subst e1
  have hpos : 0 < L.length := List.length_pos_iff.2 hn
  obtain ⟨ad, e4, hc⟩ := h3 (by rw [List.length_map]; exact hpos)
  injection e4 with e4
  subst e4
  have : w.cell? (q.add 0) = some (.string (str L[0])) := hc 0 (.string (str L[0])) (by rw [List.getElem?_map, List.getElem?_eq_getElem hpos]; rfl)
  have hb := World.block_lt_of_cell? w _ this
  rw [block_add] at hb
  exact hb
theorem wrT_le (n : Tx) (x : List Itm) (k : Nat) : (wrT n (x.take k)).length ≤ (wrT n x).length := by
  have h : wrT n x = wrT n (x.take k) ++ wrT n (x.drop k) := by
    unfold wrT
    rw [← List.flatMap_append, List.take_append_drop]
  rw [h, List.length_append]
  omega
theorem smX_len {x : List Itm} {b : Itm} (hb : b ∈ x) (h : smX x ≤ 200) : b.2.length ≤ 200 := by
  have h1 := smX_mem hb
  unfold wtX at h1
  omega
theorem rd_oneS13 (W : World) (S : ByteArray) : Rd (W.alloc (.cells #[.string S] 9)) (some ⟨W.heap.size, 0, none⟩) [.string S] := Rd.block (MapKept.heap_alloc W (.cells #[.string S] 9)).1
theorem rd_oneG13 (W : World) (S : ByteArray) (A1 : Option Addr) (n1 c1 : Nat) (A2 : Option Addr) (n2 c2 : Nat) : Rd (W.alloc (.cells #[.string S, .slice A1 n1 c1, .slice A2 n2 c2] 45)) (some ⟨W.heap.size, 0, none⟩) [.string S, .slice A1 n1 c1, .slice A2 n2 c2] := Rd.block (MapKept.heap_alloc W (.cells #[.string S, .slice A1 n1 c1, .slice A2 n2 c2] 45)).1
theorem one_g13 (S : ByteArray) (A1 : Option Addr) (n1 c1 : Nat) (A2 : Option Addr) (n2 c2 : Nat) : ∀ u ∈ [Value.string S, .slice A1 n1 c1, .slice A2 n2 c2], u.oneCell' = true := fun u hu => by
  simp only [List.mem_cons, List.not_mem_nil, or_false] at hu
  rcases hu with rfl | rfl | rfl <;> rfl
theorem one_x13 (S : ByteArray) (A : Option Addr) (n c : Nat) : ∀ u ∈ [Value.string S, .slice A n c], u.oneCell' = true := fun u hu => by
  simp only [List.mem_cons, List.not_mem_nil, or_false] at hu
  rcases hu with rfl | rfl <;> rfl
theorem GsO.own_k {w : World} {base n : Nat} {v : Value} {Z : List (Grp × Value × Value)} (h : GsO w base v Z) (hn : Z.length = n) : w.ownsRow base 45 3 v n (Z.flatMap grC) := hn ▸ h.own
theorem XsO.own_k {w : World} {base n : Nat} {v : Value} {Z : List (Itm × Value)} (h : XsO w base v Z) (hn : Z.length = n) : w.ownsRow base 47 2 v n (Z.flatMap itC) := hn ▸ h.own
theorem cS_take {g : List Grp} {x : List Itm} {i : Nat} {a : Grp} (h : g[i]? = some a) : (g.take (i + 1)).map (cS x) = (g.take i).map (cS x) ++ [cS x a] := by
  obtain ⟨hk, e⟩ := List.getElem?_eq_some_iff.1 h
  rw [List.take_succ_eq_append_getElem hk, e]
  simp
theorem dS_take {x : List Itm} {i : Nat} {a : Itm} (h : x[i]? = some a) : (x.take (i + 1)).map dS = (x.take i).map dS ++ [dS a] := by
  obtain ⟨hk, e⟩ := List.getElem?_eq_some_iff.1 h
  rw [List.take_succ_eq_append_getElem hk, e]
  simp
theorem RowS.rd13 {w : World} {A : Option Addr} {n c : Nat} {L : List Tx} (h : RowS w (.slice A n c) L) : Rd w A (L.map txC) := by
  obtain ⟨A', c', e, _, _, h3⟩ := h
  injection e with e
  subst e
  exact h3
theorem StO.form {w : World} {B : Nat} {v : Value} {L : List Tx} (h : StO w B v L) : ∃ A c, v = .slice A L.length c := by
  obtain ⟨A, c, e, _⟩ := own_anyk h
  exact ⟨A, c, e⟩
theorem GsO.push2 {w w1 w' : World} {base : Nat} {v v' : Value} {Z : List (Grp × Value × Value)} {p : Grp × Value × Value} (h : GsO w base v Z) (h1 : HeS w base p.2.1 p.1.2.1) (h2 : HeS w base p.2.2 p.1.2.2) (ho : w'.ownsRow base 45 3 v' (Z.length + 1) (Z.flatMap grC ++ grC p)) (hg : w1.grownBy w' v.ownBlock) (hb : Below w.heap.size w w1) : GsO w' base v' (Z ++ [p]) :=
  (h.below hb).push (h1.below hb) (h2.below hb) ho hg
theorem exG_get13 {g : List Grp} {x : List Itm} {i : Nat} {l : List Nat} (h : (exG g x)[i]? = some l) : l = memL g x i := by
  unfold exG at h
  rw [List.getElem?_map] at h
  by_cases hi : i < g.length
  · rw [List.getElem?_range hi] at h
    exact (Option.some.inj h).symm
  · rw [List.getElem?_eq_none (by rw [List.length_range]; omega)] at h
    cases h
theorem mem_take13 {L : List Nat} {q a y : Nat} (h : L[q]? = some a) : decide (y ∈ L.take (q + 1)) = (decide (y ∈ L.take q) || decide (a = y)) := by
  obtain ⟨hk, e⟩ := List.getElem?_eq_some_iff.1 h
  rw [List.take_succ_eq_append_getElem hk, e]
  by_cases h1 : y ∈ L.take q
  · simp [h1]
  · by_cases h2 : a = y
    · simp [h2]
    · simp [h1, h2, Ne.symm h2]
/-- The three cells of a group at any later world. -/
theorem cells_later {w : World} {X : Addr} {a b c : Value} (h0 : w.cell? X = some a) (h1 : w.cell? { block := X.block, off := X.off + 1 } = some b) (h2 : w.cell? { block := X.block, off := X.off + 2 } = some c) (W : World) (hb : Below w.heap.size w W) :
    W.cell? X = some a ∧ W.cell? { block := X.block, off := X.off + 1 } = some b ∧ W.cell? { block := X.block, off := X.off + 2 } = some c :=
  ⟨cell9_below h0 hb, cell9_below (a := { block := X.block, off := X.off + 1 }) h1 hb, cell9_below (a := { block := X.block, off := X.off + 2 }) h2 hb⟩
theorem cells_later2 {w : World} {X : Addr} {a b : Value} (h0 : w.cell? X = some a) (h1 : w.cell? { block := X.block, off := X.off + 1 } = some b) (W : World) (hb : Below w.heap.size w W) :
    W.cell? X = some a ∧ W.cell? { block := X.block, off := X.off + 1 } = some b :=
  ⟨cell9_below h0 hb, cell9_below (a := { block := X.block, off := X.off + 1 }) h1 hb⟩
end Go.Proofs.YtkfnbapnkmlopaaDoor

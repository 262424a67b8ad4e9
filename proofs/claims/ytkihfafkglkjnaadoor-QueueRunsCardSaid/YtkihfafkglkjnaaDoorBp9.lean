/- Bp, Bm, in one text. -/
import Derived.Test.YtkihfafkglkjnaaDoorLx8
import Derived.Laws.OwnMore
/- Plain: words, names, fields and blocks (chapter 9's; of no program), for the layers above block. -/
namespace Go.Proofs.YtkihfafkglkjnaaDoor
open Go.RowKit
def wdB (c : UInt8) : Bool := (97 ≤ c && c ≤ 122) || (48 ≤ c && c ≤ 57) || c == 95
def nmB (c : UInt8) : Bool := (97 ≤ c && c ≤ 122) || (65 ≤ c && c ≤ 90) || (48 ≤ c && c ≤ 57) || c == 95 || c == 45 || c == 46
def wordT (s : Tx) : Bool := s.all wdB && decide (0 < s.length) && decide (s.length < 33)
def nameT (s : Tx) : Bool := s.all nmB && decide (0 < s.length) && decide (s.length < 33)
abbrev Fd := Nat × Tx × Tx
abbrev Bk := Nat × Tx × List Fd
end Go.Proofs.YtkihfafkglkjnaaDoor
/- Layer 9: fields and blocks as they lie in memory. -/
namespace Go.Proofs.YtkihfafkglkjnaaDoor
open Go.RowKit

/-- A field, a block as they lie in memory: where they stand is any int. -/
abbrev MF := Int × Tx × Tx
abbrev MB := Int × Tx × List MF
def zF (f : MF) : Fd := (f.1.toNat, f.2)
def zB (b : MB) : Bk := (b.1.toNat, b.2.1, b.2.2.map zF)
def iF (f : Fd) : MF := ((f.1 : Int), f.2)
def iB (b : Bk) : MB := ((b.1 : Int), b.2.1, b.2.2.map iF)
theorem z_iF (f : Fd) : zF (iF f) = f := rfl
theorem z_iB (b : Bk) : zB (iB b) = b := by
  unfold zB iB
  rw [List.map_map]
  have e : (zF ∘ iF) = id := rfl
  rw [e, List.map_id]
  rfl
theorem z_iL (l : List Bk) : (l.map iB).map zB = l := by
  rw [List.map_map]
  have e : (zB ∘ iB) = id := funext z_iB
  rw [e, List.map_id]
def fdC (f : MF) : List Value := [.int .i64 f.1, .string (str f.2.1), .string (str f.2.2)]
def bkC (p : MB × Value) : List Value := [.int .i64 p.1.1, .string (str p.1.2.1), p.2]
theorem fdcat_len (L : List MF) : (L.flatMap fdC).length = L.length * 3 := flat_len fdC 3 (fun _ => rfl) L
theorem bkcat_len (L : List (MB × Value)) : (L.flatMap bkC).length = L.length * 3 := flat_len bkC 3 (fun _ => rfl) L
theorem fdcat_snoc (L : List MF) (p : MF) : (L ++ [p]).flatMap fdC = L.flatMap fdC ++ fdC p := by simp
theorem bkcat_snoc (L : List (MB × Value)) (p : MB × Value) : (L ++ [p]).flatMap bkC = L.flatMap bkC ++ bkC p := by simp
theorem rd_three {α : Type} {cells : α → List Value} (hk : ∀ a, (cells a).length = 3) {w : World} {A : Option Addr} {L : List α} (h : Rd w A (L.flatMap cells)) (i : Nat) (hi : i < L.length) {a b c : Value} (he : cells L[i] = [a, b, c]) :
    ∃ ad X, A = some ad ∧ ad.add (i * 3) = X ∧ w.cell? X = some a ∧ w.cell? { block := X.block, off := X.off + 1 } = some b ∧ w.cell? { block := X.block, off := X.off + 2 } = some c := by
  obtain ⟨ad, e, hc⟩ := h (by rw [flat_len cells 3 hk]; omega)
  have hj : ∀ j u, j < 3 → (cells L[i])[j]? = some u → w.cell? (ad.add (i * 3 + j)) = some u := fun j u hj hu => hc _ u (by rw [flat_get cells 3 hk L i hi j hj]; exact hu)
  rw [he] at hj
  have h1 := hj 1 _ (by omega) rfl
  have h2 := hj 2 _ (by omega) rfl
  rw [← add_add'] at h1 h2
  exact ⟨ad, _, e, rfl, hj 0 _ (by omega) rfl, h1, h2⟩
theorem cell9_blk {w : World} {g : Nat} {cs : Array Value} {t : TypeId} {fr : Nat × Nat} (h : w.heap[g]? = some (.cells cs t fr)) (k : Nat) {v : Value} (hv : cs[k]? = some v) : w.cell? ⟨g, k, none⟩ = some v := by
  simp [World.cell?, h, hv]
theorem cell9_below {w w' : World} {a : Addr} {v : Value} (h : w.cell? a = some v) (hb : Below w.heap.size w w') : w'.cell? a = some v :=
  (hb.cell (p := a) (World.block_lt_of_cell? w a h)).trans h
theorem blk9_lt {w : World} {g : Nat} {x : Obj} (h : w.heap[g]? = some x) : g < w.heap.size := (Array.getElem?_eq_some_iff.1 h).1
/-- A slice of fields. -/
def RowF (w : World) (v : Value) (L : List MF) : Prop := ∃ A c, v = .slice A L.length c ∧ L.length ≤ c ∧ c ≤ maxLen ∧ Rd w A (L.flatMap fdC)
theorem RowF.below {w w' : World} {v : Value} {L : List MF} (h : RowF w v L) (hb : Below w.heap.size w w') : RowF w' v L := by
  obtain ⟨A, c, e, h1, h2, h3⟩ := h
  exact ⟨A, c, e, h1, h2, h3.below hb⟩
theorem RowF.nil (w : World) : RowF w (.slice none 0 0) [] := ⟨none, 0, rfl, Nat.le_refl _, Nat.zero_le _, Rd.nil⟩
theorem RowF.owned {w : World} {base : Nat} {e : TypeId} {v : Value} {n : Nat} {L : List MF} (hn : L.length = n) (h : w.ownsRow base e 3 v n (L.flatMap fdC)) : RowF w v L := by
  obtain ⟨A, c, rfl, h1, h2, _, h3, _⟩ := owns_formk h
  subst hn
  exact ⟨A, c, rfl, h1, h2, h3⟩
/-- A slice of blocks; Z: with the values of their fields. -/
def RowB (w : World) (v : Value) (L : List MB) : Prop :=
  ∃ A c, ∃ Z : List (MB × Value), Z.map (·.1) = L ∧ v = .slice A L.length c ∧ L.length ≤ c ∧ c ≤ maxLen ∧ Rd w A (Z.flatMap bkC) ∧ ∀ p ∈ Z, RowF w p.2 p.1.2.2
theorem RowB.below {w w' : World} {v : Value} {L : List MB} (h : RowB w v L) (hb : Below w.heap.size w w') : RowB w' v L := by
  obtain ⟨A, c, Z, e, h1, h2, h3, h4, h5⟩ := h
  exact ⟨A, c, Z, e, h1, h2, h3, h4.below hb, fun p hp => (h5 p hp).below hb⟩
theorem RowB.nil (w : World) : RowB w (.slice none 0 0) [] := ⟨none, 0, [], rfl, rfl, Nat.le_refl _, Nat.zero_le _, Rd.nil, fun p hp => by cases hp⟩
/-- The cells of a block within a slice, and its fields. -/
theorem RowB.parts {w : World} {A : Option Addr} {n c : Nat} {L : List MB} (h : RowB w (.slice A n c) L) : n = L.length ∧ n ≤ c ∧ c ≤ maxLen ∧
    ∀ i, (hi : i < n) → ∀ b, L[i]? = some b → ∃ ad X v, A = some ad ∧ ad.add (i * 3) = X ∧ w.cell? X = some (.int .i64 b.1) ∧ w.cell? { block := X.block, off := X.off + 1 } = some (.string (str b.2.1)) ∧ w.cell? { block := X.block, off := X.off + 2 } = some v ∧ RowF w v b.2.2 := by
  obtain ⟨A', c', Z, e, h1, h2, h3, h4, h5⟩ := h
  injection h1 with h1 h1' h1''
  subst h1 h1' h1''
  refine ⟨rfl, h2, h3, fun i hi b hb => ?_⟩
  have hz : Z.length = L.length := by rw [← e, List.length_map]
  have hiz : i < Z.length := by omega
  obtain ⟨ad, X, e1, e2, e3, e4, e5⟩ := rd_three (cells := bkC) (fun _ => rfl) h4 i hiz (a := .int .i64 Z[i].1.1) (b := .string (str Z[i].1.2.1)) (c := Z[i].2) rfl
  have hbz : Z[i].1 = b := by
    rw [← e, List.getElem?_map, List.getElem?_eq_getElem hiz] at hb
    exact Option.some.inj hb
  rw [hbz] at e3 e4
  have := h5 Z[i] (List.getElem_mem hiz)
  rw [hbz] at this
  exact ⟨ad, X, _, e1, e2, e3, e4, e5, this⟩
theorem RowF.parts {w : World} {A : Option Addr} {n c : Nat} {L : List MF} (h : RowF w (.slice A n c) L) : n = L.length ∧ n ≤ c ∧ c ≤ maxLen ∧
    ∀ i, (hi : i < n) → ∀ f, L[i]? = some f → ∃ ad X, A = some ad ∧ ad.add (i * 3) = X ∧ w.cell? X = some (.int .i64 f.1) ∧ w.cell? { block := X.block, off := X.off + 1 } = some (.string (str f.2.1)) ∧ w.cell? { block := X.block, off := X.off + 2 } = some (.string (str f.2.2)) := by
  obtain ⟨A', c', h1, h2, h3, h4⟩ := h
  injection h1 with h1 h1' h1''
  subst h1 h1' h1''
  refine ⟨rfl, h2, h3, fun i hi f hf => ?_⟩
  have hfz : L[i] = f := by
    rw [List.getElem?_eq_getElem hi] at hf
    exact Option.some.inj hf
  exact rd_three (cells := fdC) (fun _ => rfl) h4 i hi (by rw [hfz]; rfl)
theorem RowF.form {w : World} {v : Value} {L : List MF} (h : RowF w v L) : ∃ A c, v = .slice A L.length c ∧ RowF w (.slice A L.length c) L := by
  obtain ⟨A, c, e, h1, h2, h3⟩ := h
  exact ⟨A, c, e, A, c, rfl, h1, h2, h3⟩
theorem RowB.form {w : World} {v : Value} {L : List MB} (h : RowB w v L) : ∃ A c, v = .slice A L.length c ∧ RowB w (.slice A L.length c) L := by
  obtain ⟨A, c, Z, e0, e, h1, h2, h3, h4⟩ := h
  exact ⟨A, c, e, A, c, Z, e0, rfl, h1, h2, h3, h4⟩
/-- Fields that lie in blocks of type e from lo on, below hi. -/
def HeldF (w : World) (lo hi : Nat) (e : TypeId) (v : Value) (L : List MF) : Prop :=
  ∃ A c, v = .slice A L.length c ∧ L.length ≤ c ∧ c ≤ maxLen ∧ Rd w A (L.flatMap fdC) ∧ ∀ q, A = some q → lo ≤ q.block ∧ q.block < hi ∧ ∃ cs fr, w.heap[q.block]? = some (.cells cs e fr)
theorem HeldF.row {w : World} {lo hi : Nat} {e : TypeId} {v : Value} {L : List MF} (h : HeldF w lo hi e v L) : RowF w v L := by
  obtain ⟨A, c, e, h1, h2, h3, _⟩ := h
  exact ⟨A, c, e, h1, h2, h3⟩
theorem HeldF.keep {w w' : World} {lo hi lo' hi' : Nat} {e : TypeId} {v : Value} {L : List MF} (h : HeldF w lo hi e v L) (hlo : lo' ≤ lo) (hhi : hi ≤ hi')
    (hk : ∀ b cs fr, lo ≤ b → b < hi → w.heap[b]? = some (.cells cs e fr) → w'.heap[b]? = w.heap[b]?) : HeldF w' lo' hi' e v L := by
  obtain ⟨A, c, e1, h1, h2, h3, h4⟩ := h
  refine ⟨A, c, e1, h1, h2, ?_, fun q hq => ?_⟩
  · refine h3.keep fun p hp _ => ?_
    obtain ⟨g1, g2, cs, fr, g3⟩ := h4 p hp.symm
    exact hk _ cs fr g1 g2 g3
  · obtain ⟨g1, g2, cs, fr, g3⟩ := h4 q hq
    exact ⟨Nat.le_trans hlo g1, Nat.lt_of_lt_of_le g2 hhi, cs, fr, (hk _ cs fr g1 g2 g3).trans g3⟩
theorem HeldF.below {w w' : World} {lo hi : Nat} {e : TypeId} {v : Value} {L : List MF} (h : HeldF w lo hi e v L) (hh : hi ≤ w.heap.size) (hb : Below w.heap.size w w') : HeldF w' lo hi e v L :=
  h.keep (Nat.le_refl _) (Nat.le_refl _) fun b _ _ _ h2 _ => hb.block b (by omega)
theorem HeldF.owned {w : World} {base : Nat} {e : TypeId} {v : Value} {n : Nat} {L : List MF} (hn : L.length = n) (h : w.ownsRow base e 3 v n (L.flatMap fdC)) : HeldF w base w.heap.size e v L := by
  have hl : (L.flatMap fdC).length = n * 3 := by have := h.1; omega
  subst hn
  rcases h.2 with ⟨rfl, h0⟩ | ⟨g, cap, cur, rfl, hb, hh, hc, hm, _, _⟩
  · have hL : L = [] := List.eq_nil_of_length_eq_zero h0
    subst hL
    exact ⟨none, 0, rfl, Nat.zero_le _, Nat.zero_le _, Rd.nil, fun p hp => by cases hp⟩
  · refine ⟨some ⟨g, 0, none⟩, cap, rfl, hc, hm, fun hn => ⟨_, rfl, h.cells (g := g) rfl⟩, fun p hp => ?_⟩
    injection hp with hp
    subst hp
    exact ⟨hb, (Array.getElem?_eq_some_iff.1 hh).1, _, _, hh⟩
/-- A row of blocks of one's own, all fields held below hi. -/
structure Bld (w : World) (base hi : Nat) (eB eF : TypeId) (v : Value) (Z : List (MB × Value)) : Prop where
  own : w.ownsRow base eB 3 v Z.length (Z.flatMap bkC)
  rows : ∀ p ∈ Z, HeldF w base hi eF p.2 p.1.2.2
theorem Bld.rowB {w : World} {base hi : Nat} {eB eF : TypeId} {v : Value} {Z : List (MB × Value)} (h : Bld w base hi eB eF v Z) : RowB w v (Z.map (·.1)) := by
  obtain ⟨A, c, e, h1, h2, _, h3, _⟩ := owns_formk h.own
  exact ⟨A, c, Z, rfl, by rw [List.length_map]; exact e, by rw [List.length_map]; exact h1, h2, h3, fun p hp => (h.rows p hp).row⟩
theorem Bld.nil (w : World) (base hi : Nat) (eB eF : TypeId) : Bld w base hi eB eF (.slice none 0 0) [] := ⟨World.ownsRow_nil _ _ _ _, fun p hp => by cases hp⟩
/-- One's own row's block. -/
theorem own_typed {w : World} {base k : Nat} {e : TypeId} {v : Value} {n : Nat} {xs : List Value} (h : w.ownsRow base e k v n xs) : ∀ g, v.ownBlock = some g → ∃ cur fr, w.heap[g]? = some (.cells cur e fr) := by
  intro g hg
  rcases h.2 with ⟨rfl, _⟩ | ⟨g', cap, cur, rfl, _, hh, _⟩
  · cases hg
  · injection hg with hg
    subst hg
    exact ⟨cur, _, hh⟩
theorem HeldF.grown {w w' : World} {lo hi : Nat} {e : TypeId} {v : Value} {L : List MF} {row : Option Nat} (h : HeldF w lo hi e v L) (hg : w.grownBy w' row) (hr : ∀ g, row = some g → g < lo ∨ hi ≤ g ∨ ∃ cs e' fr, w.heap[g]? = some (.cells cs e' fr) ∧ e' ≠ e) : HeldF w' lo hi e v L := by
  refine h.keep (Nat.le_refl _) (Nat.le_refl _) fun b cs fr h1 h2 h3 => hg.block b (Array.getElem?_eq_some_iff.1 h3).1 fun hb => ?_
  rcases hr b hb.symm with h4 | h4 | ⟨cs', e', fr', h4, h5⟩
  · omega
  · omega
  · rw [h3] at h4
    injection h4 with h4
    injection h4 with _ h4
    exact h5 h4.symm
theorem own_block9 {w w' : World} {base k : Nat} {e : TypeId} {v : Value} {n : Nat} {xs : List Value} (h : w.ownsRow base e k v n xs) (hb : ∀ i, v.ownBlock = some i → w'.heap[i]? = w.heap[i]?) : w'.ownsRow base e k v n xs := by
  refine ⟨h.1, ?_⟩
  rcases h.2 with h0 | ⟨g, cap, cur, hv, hbg, hg, r⟩
  · exact .inl h0
  · exact .inr ⟨g, cap, cur, hv, hbg, (hb g (by rw [hv]; rfl)).trans hg, r⟩
theorem frz9_blk {w : World} {g : Nat} {cs : Array Value} {t : TypeId} (h : w.heap[g]? = some (.cells cs t (0, 0))) (k : Nat) : w.frozen? ⟨g, k, none⟩ = false := by
  simp [World.frozen?, h]
end Go.Proofs.YtkihfafkglkjnaaDoor

/- Rf7M, Rf7F, in one text. -/
import Derived.Test.YtlogapkpllgdcaaGreatDoorMa7
import Derived.Test.YtlogapkpllgdcaaGreatDoorPdIs
/- The document's rounds: what a period excludes, by way of others, gone on so often as there are periods. -/
namespace Go.Proofs.YtlogapkpllgdcaaGreatDoor

/-- How many are marked. -/
def cntB (n : Nat) (B : List Bool) : Nat := ((List.range n).filter fun k => B.getD k false).length
/-- All that can be reached is marked. -/
def FullB (l : List Prd) (i : Nat) (B : List Bool) : Prop := ∀ k, Way l i k → B.getD k false = true
theorem full_closed {l : List Prd} {i : Nat} {B : List Bool} (h0 : ∀ j, Step l i j → B.getD j false = true) (hc : ∀ k j, B.getD k false = true → Step l k j → B.getD j false = true) : FullB l i B := by
  intro k hk
  cases hk with
  | one s => exact h0 _ s
  | more s h => exact Way.closed (D := fun k => B.getD k false = true) (fun a b ha hs => hc a b ha hs) h (h0 _ s)
theorem getD_true_lt {B : List Bool} {k : Nat} (h : B.getD k false = true) : k < B.length := by
  rcases Nat.lt_or_ge k B.length with h1 | h1
  · exact h1
  · rw [List.getD_eq_getElem?_getD, List.getElem?_eq_none h1] at h
    cases h
/-- One more round. -/
theorem full_step {l : List Prd} {i n r : Nat} {B B' : List Bool} (hl : B'.length = n) (h0 : ∀ j, Step l i j → B.getD j false = true) (hm : ∀ k, B.getD k false = true → B'.getD k false = true)
    (hs : ∀ k j, B.getD k false = true → Step l k j → B'.getD j false = true) (h : FullB l i B ∨ r ≤ cntB n B) : FullB l i B' ∨ r + 1 ≤ cntB n B' := by
  rcases h with h | h
  · exact .inl fun k hk => hm k (h k hk)
  · by_cases hx : ∃ k, B'.getD k false = true ∧ B.getD k false = false
    · obtain ⟨k, h1, h2⟩ := hx
      right
      have := filter_lt (fun k => B.getD k false) (fun k => B'.getD k false) (List.range n) (fun x _ hp => hm x hp) ⟨k, List.mem_range.2 (by rw [← hl]; exact getD_true_lt h1), h1, h2⟩
      unfold cntB at *
      omega
    · left
      have he : ∀ k, B'.getD k false = true → B.getD k false = true := fun k hk => by
        cases hb : B.getD k false
        · exact absurd ⟨k, hk, hb⟩ hx
        · rfl
      exact full_closed (fun j hj => hm j (h0 j hj)) (fun k j hk hj => hs k j (he k hk) hj)
/-- After so many rounds as there are periods. -/
theorem full_end {l : List Prd} {i n : Nat} {B : List Bool} (hr : ∀ k, Way l i k → k < n) (h : FullB l i B ∨ n ≤ cntB n B) : FullB l i B := by
  rcases h with h | h
  · exact h
  · intro k hk
    have h1 : ((List.range n).filter fun k => B.getD k false).length = (List.range n).length := by
      have := List.length_filter_le (fun k => B.getD k false) (List.range n)
      unfold cntB at h
      rw [List.length_range] at this ⊢
      omega
    exact List.length_filter_eq_length_iff.1 h1 k (List.mem_range.2 (hr k hk))
end Go.Proofs.YtlogapkpllgdcaaGreatDoor
/- The marks that the document's Check lays: in a block of their own. -/
namespace Go.Proofs.YtlogapkpllgdcaaGreatDoor
open Go.RowKit

theorem getD_set_keep {B : List Bool} {y k : Nat} (h : B.getD k false = true) : (B.set y true).getD k false = true := by
  rw [List.getD_eq_getElem?_getD, List.getElem?_set]
  by_cases e : y = k
  · subst e
    have := getD_true_lt h
    rw [if_pos rfl, if_pos this]
    rfl
  · rw [if_neg e, ← List.getD_eq_getElem?_getD]
    exact h
theorem getD_set_new {B : List Bool} {y : Nat} (h : y < B.length) : (B.set y true).getD y false = true := by
  rw [List.getD_eq_getElem?_getD, List.getElem?_set, if_pos rfl, if_pos h]
  rfl
theorem getD_set_inv {B : List Bool} {y k : Nat} (h : (B.set y true).getD k false = true) : k = y ∨ B.getD k false = true := by
  by_cases e : y = k
  · exact .inl e.symm
  · rw [List.getD_eq_getElem?_getD, List.getElem?_set, if_neg e, ← List.getD_eq_getElem?_getD] at h
    exact .inr h
/-- All of L are marked. -/
def MkAll (L : List Int) (B : List Bool) : Prop := ∀ x ∈ L, B.getD x.toNat false = true
theorem MkAll.nil (B : List Bool) : MkAll [] B := fun x h => by cases h
theorem MkAll.step {L : List Int} {B : List Bool} {k y : Nat} (h : MkAll (L.take k) B) (hk : k < L.length) (hy : L.getD k 0 = (y : Int)) (hb : y < B.length) : MkAll (L.take (k + 1)) (B.set y true) := by
  intro x hx
  rw [List.take_add_one, List.mem_append] at hx
  rcases hx with hx | hx
  · exact getD_set_keep (h x hx)
  · rw [getD_some hk 0] at hx
    have hx' : x = L.getD k 0 := by simpa using hx
    subst hx'
    rw [hy]
    exact getD_set_new hb
/-- The marks, in a block of their own: each tells of a way. -/
structure Mk (l : List Prd) (w : World) (n b i : Nat) (B : List Bool) (W : World) : Prop where
  below : Below w.heap.size w W
  base : w.heap.size ≤ b
  len : B.length = n
  blk : W.heap[b]? = some (.cells (boolL B).toArray 4 (0, 0))
  sound : ∀ k, B.getD k false = true → Way l i k
section
variable {l : List Prd} {w W W' : World} {n b i : Nat} {B : List Bool}
theorem Mk.load (h : Mk l w n b i B W) {k : Nat} (hk : k < n) : W.cell? ⟨b, k, none⟩ = some (.bool (B.getD k false)) := cell_blk h.blk k (boolL_get B k (by rw [h.len]; exact hk))
theorem Mk.set (h : Mk l w n b i B W) {k : Nat} (hs : Way l i k) : Mk l w n b i (B.set k true) (W.setCell ⟨b, k, none⟩ (.bool true)) := by
  refine ⟨h.below.setCell (p := ⟨b, k, none⟩) h.base _, h.base, by rw [List.length_set]; exact h.len, ?_, fun j hj => ?_⟩
  · have := heap_setCell_same W b k _ _ (.bool true) h.blk
    rw [boolL_set] at this
    exact this
  · rcases getD_set_inv hj with rfl | hj
    · exact hs
    · exact h.sound j hj
theorem Mk.drewN (h : Mk l w n b i B W) (q : Nat) : Mk l w n b i B (W.drewN q) := ⟨h.below.trans ((below_drewN W q).mono h.below.size), h.base, h.len, by rw [World.heap_drewN]; exact h.blk, h.sound⟩
theorem Mk.start {W0 : World} (hb : Below w.heap.size w W0) (n : Nat) : Mk l w n W0.heap.size i (List.replicate n false) (W0.alloc (.cells (madeCells #[.bool false] n) 4)) := by
  refine ⟨hb.alloc hb.size _, hb.size, List.length_replicate .., ?_, fun k hk => ?_⟩
  · rw [made_false]; exact heap_alloc_new W0 _
  · rw [List.getD_eq_getElem?_getD, List.getElem?_replicate] at hk
    split at hk <;> cases hk
end
/-- A round over all periods: those ahead of k are gone over. -/
structure Gone (l : List Prd) (B0 : List Bool) (k : Nat) (B : List Bool) : Prop where
  keep : ∀ j, B0.getD j false = true → B.getD j false = true
  done : ∀ a, a < k → B0.getD a false = true → ∀ j, Step l a j → B.getD j false = true
theorem Gone.start (l : List Prd) (B : List Bool) : Gone l B 0 B := ⟨fun _ h => h, fun _ h => (Nat.not_lt_zero _ h).elim⟩
theorem Gone.skip {l : List Prd} {B0 B : List Bool} {k : Nat} (h : Gone l B0 k B) (hb : B.getD k false = false) : Gone l B0 (k + 1) B := by
  refine ⟨h.keep, fun a ha h0 => ?_⟩
  rcases Nat.lt_or_ge a k with h1 | h1
  · exact h.done a h1 h0
  · have e : a = k := by omega
    subst e
    rw [h.keep a h0] at hb
    cases hb
theorem Gone.set {l : List Prd} {B0 B : List Bool} {k : Nat} (h : Gone l B0 k B) (y : Nat) : Gone l B0 k (B.set y true) :=
  ⟨fun j hj => getD_set_keep (h.keep j hj), fun a ha h0 j hj => getD_set_keep (h.done a ha h0 j hj)⟩
theorem Gone.more {l : List Prd} {B0 B : List Bool} {k : Nat} {p : Prd} (h : Gone l B0 k B) (hp : l[k]? = some p) (hm : MkAll p.ex B) : Gone l B0 (k + 1) B := by
  refine ⟨h.keep, fun a ha h0 => ?_⟩
  rcases Nat.lt_or_ge a k with h1 | h1
  · exact h.done a h1 h0
  · have e : a = k := by omega
    subst e
    rintro j ⟨p', hp', hj⟩
    rw [hp] at hp'
    injection hp' with hp'
    subst hp'
    have := hm _ hj
    rw [Int.toNat_natCast] at this
    exact this
/-- What the rounds keep. -/
def RndS (l : List Prd) (n i r : Nat) (B : List Bool) : Prop := (∀ j, Step l i j → B.getD j false = true) ∧ (FullB l i B ∨ r ≤ cntB n B)
theorem RndS.start {l : List Prd} {n i : Nat} {p : Prd} {B : List Bool} (hp : l[i]? = some p) (h : MkAll p.ex B) : RndS l n i 0 B := by
  refine ⟨?_, .inr (Nat.zero_le _)⟩
  rintro j ⟨p', hp', hj⟩
  rw [hp] at hp'
  injection hp' with hp'
  subst hp'
  have := h _ hj
  rw [Int.toNat_natCast] at this
  exact this
theorem RndS.step {l : List Prd} {n i r : Nat} {B B' : List Bool} (h : RndS l n i r B) (hl : B'.length = n) (hn : l.length = n) (hg : Gone l B n B') : RndS l n i (r + 1) B' :=
  ⟨fun j hj => hg.keep j (h.1 j hj), full_step hl h.1 hg.keep (fun k j hk hs => hg.done k (by have := hs.lt; omega) hk j hs) h.2⟩
theorem RndS.fin {l : List Prd} {n i : Nat} {B : List Bool} (h : RndS l n i n B) (hn : l.length = n) (hr : InRange l) : FullB l i B := by
  refine full_end (fun k hk => ?_) h.2
  have : ∀ a b, Way l a b → b < l.length := by
    intro a b hw
    induction hw with
    | one s =>
      obtain ⟨p, hp, hj⟩ := s
      have := hr p (List.mem_of_getElem? hp) _ hj
      omega
    | more _ _ ih => exact ih
  rw [← hn]
  exact this _ _ hk
end Go.Proofs.YtlogapkpllgdcaaGreatDoor

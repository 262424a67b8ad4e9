/- The document's values of all names: a row of its own of blocks of Gots. -/
import Derived.Test.YthnogakjaaopkaaGreatDoorIhAl
import Derived.Test.YthnogakjaaopkaaGreatDoorIhNt
namespace Go.Proofs.YthnogakjaaopkaaGreatDoor
open Go.RowKit

def gts (l : List MB) (nm : Tx) : List Gt := (List.range l.length).map fun i => gotC (gotT l nm i)
theorem gts_get {l : List MB} {nm : Tx} {i : Nat} (h : i < l.length) : (gts l nm)[i]? = some (gotC (gotT l nm i)) := by
  unfold gts
  rw [List.getElem?_map, List.getElem?_range h]
  rfl
def slG (n bo : Nat) : Value := .slice (some ⟨bo, 0, none⟩) n n
def VlZ (n : Nat) (l : List MB) (W : World) (q : List Tx) (Z : List Value) : Prop := ∀ (k : Nat) (nm : Tx), q[k]? = some nm → ∃ bo, Z[k]? = some (slG n bo) ∧ GtB bo (gts l nm) W
theorem VlZ.keep {n : Nat} {l : List MB} {W W' : World} {q : List Tx} {Z : List Value} (h : VlZ n l W q Z) (hk : ∀ bo O, GtB bo O W → W'.heap[bo]? = W.heap[bo]?) : VlZ n l W' q Z := fun k nm hn => by
  obtain ⟨bo, h1, h2⟩ := h k nm hn
  exact ⟨bo, h1, (hk bo _ h2).trans h2⟩
theorem VlZ.below {n : Nat} {l : List MB} {W W' : World} {q : List Tx} {Z : List Value} (h : VlZ n l W q Z) (hb : Below W.heap.size W W') : VlZ n l W' q Z := h.keep fun bo _ hG => hb.block bo hG.lt
theorem VlZ.grown {n base m : Nat} {l : List MB} {W W' : World} {q : List Tx} {Z xs : List Value} {v : Value} (h : VlZ n l W q Z) (ho : W.ownsRow base 74 1 v m xs) (hg : W.grownBy W' v.ownBlock) : VlZ n l W' q Z := h.keep fun bo O hG => by
  refine hg.block bo hG.lt fun e => ?_
  obtain ⟨cur, fr, hc⟩ := own_typed ho bo e.symm
  unfold GtB at hG
  rw [hc] at hG
  injection hG with hG
  injection hG with _ hG
  exact absurd hG (by decide)
theorem VlZ.snoc {n bo : Nat} {l : List MB} {W : World} {q : List Tx} {Z : List Value} {nm : Tx} (h : VlZ n l W q Z) (hl : Z.length = q.length) (hG : GtB bo (gts l nm) W) : VlZ n l W (q ++ [nm]) (Z ++ [slG n bo]) := fun k x hx => by
  by_cases hk : k < q.length
  · rw [List.getElem?_append_left hk] at hx
    rw [List.getElem?_append_left (by omega)]
    exact h k x hx
  · rw [List.getElem?_append_right (by omega)] at hx
    have hk0 : k - q.length = 0 := by
      have := (List.getElem?_eq_some_iff.1 hx).1
      simp at this
      omega
    rw [hk0] at hx
    have e : nm = x := by simpa using hx
    subst e
    rw [List.getElem?_append_right (by omega), hl, hk0]
    exact ⟨bo, rfl, hG⟩
theorem elGot : Elem Tryz.prog 73 74 (.slice none 0 0) 24 := ⟨Tryz.underlying73, by kernel_rfl, rfl⟩
theorem nmsT_len {l : List MB} (hl : l.length ≤ 1000) (hf : ∀ b ∈ l, b.2.2.length ≤ 1000) : (nmsT l).length ≤ 1000000 := by
  have h1 := fold_len (nmsA l) []
  have h2 := nms_len l hf
  have h3 : l.length * 1000 ≤ 1000 * 1000 := Nat.mul_le_mul_right _ hl
  unfold nmsT
  simp only [List.length_nil, Nat.zero_add] at h1
  omega
end Go.Proofs.YthnogakjaaopkaaGreatDoor

/- Values of the document's all in a block of their own; how far its sweeps are. -/
import Derived.Test.YthnogakjaaopkaaGreatDoorIhM
import Derived.Test.YthnogakjaaopkaaGreatDoorBol
import Derived.Test.YthnogakjaaopkaaGreatDoorRn
import Derived.Test.YthnogakjaaopkaaGreatDoorBrU
namespace Go.Proofs.YthnogakjaaopkaaGreatDoor
open Go.RowKit

def gtC (g : Gt) : List Value := [.string (str g.1), .int .i64 g.2.1, .bool g.2.2.1, .bool g.2.2.2]
theorem flatG_get : ∀ (l : List Gt) (i c : Nat), c < 4 → (l.flatMap gtC)[i * 4 + c]? = (l[i]?).bind fun p => (gtC p)[c]?
  | [], i, c, _ => by simp
  | p :: l, 0, c, hc => by
    simp only [List.flatMap_cons, Nat.zero_mul, Nat.zero_add, List.getElem?_cons_zero, Option.bind_some]
    rw [List.getElem?_append_left (by show c < 4; exact hc)]
  | p :: l, i + 1, c, hc => by
    simp only [List.flatMap_cons, List.getElem?_cons_succ]
    rw [List.getElem?_append_right (by show 4 ≤ _; omega)]
    have e : (i + 1) * 4 + c - (gtC p).length = i * 4 + c := by show _ - 4 = _; omega
    rw [e]
    exact flatG_get l i c hc
def GtB (b : Nat) (O : List Gt) (W : World) : Prop := W.heap[b]? = some (.cells (O.flatMap gtC).toArray 79 (0, 0))
theorem GtB.lt {b : Nat} {O : List Gt} {W : World} (h : GtB b O W) : b < W.heap.size := blk9_lt h
theorem GtB.below {b : Nat} {O : List Gt} {W W' : World} (h : GtB b O W) (hb : Below W.heap.size W W') : GtB b O W' := (hb.block _ h.lt).trans h
theorem GtB.other {b : Nat} {O : List Gt} {W : World} (h : GtB b O W) {p : Addr} (hp : p.block ≠ b) (u : Value) : GtB b O (W.setCell p u) := (Below.heap_setCell W p u b (fun e => hp e.symm)).trans h
theorem GtB.cell {b : Nat} {O : List Gt} {W : World} (h : GtB b O W) {j c : Nat} {g : Gt} (hj : O[j]? = some g) (hc : c < 4) {v : Value} (hv : (gtC g)[c]? = some v) : W.cell? ⟨b, j * 4 + c, none⟩ = some v :=
  cell9_blk h _ (by rw [List.getElem?_toArray, flatG_get O j c hc, hj]; exact hv)
theorem GtB.frz {b : Nat} {O : List Gt} {W : World} (h : GtB b O W) (k : Nat) : W.frozen? ⟨b, k, none⟩ = false := frz9_blk h k
theorem flatG_set (O : List Gt) (j : Nat) (g : Gt) (hj : j < O.length) : ((((O.flatMap gtC).set (j * 4) (.string (str g.1))).set (j * 4 + 1) (.int .i64 g.2.1)).set (j * 4 + 2) (.bool g.2.2.1)).set (j * 4 + 3) (.bool g.2.2.2) = (O.set j g).flatMap gtC := by
  apply List.ext_getElem?
  intro t
  have ht : t / 4 * 4 + t % 4 = t := by omega
  have hm : t % 4 < 4 := Nat.mod_lt _ (by decide)
  have hlen : (O.flatMap gtC).length = O.length * 4 := flat_len gtC 4 (fun _ => rfl) O
  have h1 := flatG_get O (t / 4) (t % 4) hm
  have h2 := flatG_get (O.set j g) (t / 4) (t % 4) hm
  rw [ht] at h1 h2
  rw [h2]
  simp only [List.getElem?_set, List.length_set, hlen]
  by_cases hj4 : t / 4 = j
  · have hb : j * 4 + 3 < O.length * 4 := by omega
    rw [← hj4] at hb hj
    subst hj4
    have hc : t % 4 = 0 ∨ t % 4 = 1 ∨ t % 4 = 2 ∨ t % 4 = 3 := by omega
    rcases hc with e | e | e | e
    · rw [e]
      rw [if_neg (by omega), if_neg (by omega), if_neg (by omega), if_pos (by omega), if_pos (by omega), if_pos rfl, if_pos (by omega)]
      rfl
    · rw [e]
      rw [if_neg (by omega), if_neg (by omega), if_pos (by omega), if_pos (by omega), if_pos rfl, if_pos (by omega)]
      rfl
    · rw [e]
      rw [if_neg (by omega), if_pos (by omega), if_pos (by omega), if_pos rfl, if_pos (by omega)]
      rfl
    · rw [e]
      rw [if_pos (by omega), if_pos (by omega), if_pos rfl, if_pos (by omega)]
      rfl
  · rw [if_neg (by omega), if_neg (by omega), if_neg (by omega), if_neg (by omega), if_neg (fun e => hj4 e.symm), h1]
theorem GtB.set {b : Nat} {O : List Gt} {W : World} (h : GtB b O W) (j : Nat) (g : Gt) (hj : j < O.length) :
    GtB b (O.set j g) ((((W.setCell ⟨b, j * 4, none⟩ (.string (str g.1))).setCell ⟨b, j * 4 + 1, none⟩ (.int .i64 g.2.1)).setCell ⟨b, j * 4 + 2, none⟩ (.bool g.2.2.1)).setCell ⟨b, j * 4 + 3, none⟩ (.bool g.2.2.2)) := by
  have h1 := heap_setCell_same _ b (j * 4 + 3) _ _ (.bool g.2.2.2) (heap_setCell_same _ b (j * 4 + 2) _ _ (.bool g.2.2.1) (heap_setCell_same _ b (j * 4 + 1) _ _ (.int .i64 g.2.1) (heap_setCell_same W b (j * 4) _ _ (.string (str g.1)) h)))
  have h2 := flatG_set O j g hj
  unfold GtB
  rw [h1]
  rw [List.setIfInBounds_toArray, List.setIfInBounds_toArray, List.setIfInBounds_toArray, List.setIfInBounds_toArray, h2]
theorem made_gt (n : Nat) : madeCells #[.string { data := #[] }, .int .i64 0, .bool false, .bool false] (n * 4) = ((List.replicate n gt0).flatMap gtC).toArray := by
  apply Array.ext_getElem?
  intro t
  have ht : t / 4 * 4 + t % 4 = t := by omega
  have hm : t % 4 < 4 := Nat.mod_lt _ (by decide)
  have h1 := flatG_get (List.replicate n gt0) (t / 4) (t % 4) hm
  rw [ht] at h1
  have h0 : (((List.replicate n gt0).flatMap gtC).toArray)[t]? = ((List.replicate n gt0).flatMap gtC)[t]? := List.getElem?_toArray
  rw [h0, h1, List.getElem?_replicate]
  unfold madeCells
  rw [Array.getElem?_map]
  by_cases hn : t < n * 4
  · rw [if_pos (by omega), Array.getElem?_range, if_pos hn, Option.bind_some, Option.map_some]
    have hc : t % 4 = 0 ∨ t % 4 = 1 ∨ t % 4 = 2 ∨ t % 4 = 3 := by omega
    rcases hc with e | e | e | e <;> simp [e] <;> rfl
  · rw [if_neg (by omega)]
    have : (Array.range (n * 4))[t]? = none := by simp; omega
    rw [this]
    rfl
/-! The sweeps. -/
def rdyS (l : List MB) (K : List Bool) (i : Nat) : Prop := K[i]? = some false ∧ ∀ j ∈ edg l i, K[j]? = some true
def cntS (K : List Bool) : Nat := K.count true
theorem cnt_set {K : List Bool} {i : Nat} (h : K[i]? = some false) : cntS (K.set i true) = cntS K + 1 := by
  unfold cntS
  induction K generalizing i with
  | nil => simp at h
  | cons a K ih =>
    cases i with
    | zero =>
      have : a = false := by simpa using h
      subst this
      simp [List.count_cons]
    | succ i =>
      have := ih (i := i) (by simpa using h)
      simp only [List.set_cons_succ, List.count_cons, this]
      omega
theorem cnt_all {K : List Bool} (h : K.length ≤ cntS K) : ∀ i, i < K.length → K[i]? = some true := by
  unfold cntS at h
  have h1 : K.count true = K.length := Nat.le_antisymm List.count_le_length h
  have h2 := List.count_eq_length.1 h1
  intro i hi
  rw [List.getElem?_eq_getElem hi, ← h2 K[i] (List.getElem_mem hi)]
theorem all_cnt {K : List Bool} (h : ∀ i, i < K.length → K[i]? = some true) : cntS K = K.length := by
  unfold cntS
  refine List.count_eq_length.2 fun b hb => ?_
  obtain ⟨i, hi, rfl⟩ := List.getElem_of_mem hb
  have := h i hi
  rw [List.getElem?_eq_getElem hi] at this
  injection this with this
  exact this.symm
/-- One sweep's gain. -/
theorem Swp.gain {l : List MB} {k : Tx} {K : List Bool} {O : List Gt} (h : Swp l k K O) (hc : ¬ Cyc (edg l)) {m : Nat} (hm : m < l.length) (hn : m ≤ cntS K) (hno : ∀ j, j < l.length → ¬ rdyS l K j) : m + 1 ≤ cntS K := by
  have hall : ∀ i, i < K.length → K[i]? = some true := fun i hi => by
    refine Decidable.byContradiction fun hne => ?_
    obtain ⟨j, hj, h1, h2⟩ := h.next hc ⟨i, by rw [← h.lenK]; exact hi, hne⟩
    exact hno j hj ⟨h1, h2⟩
  rw [all_cnt hall, h.lenK]
  omega
end Go.Proofs.YthnogakjaaopkaaGreatDoor

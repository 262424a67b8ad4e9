/- Contract: Reach (the library's sort of ints by its contract). -/
import Derived.Test.YtkfnbapnkmlopaaDoorGrOd
import Derived.Test.YtkfnbapnkmlopaaDoorShelfG
import Derived.Sort.OwnSortedInts
namespace Go.Proofs.YtkfnbapnkmlopaaDoor
open Go.RowKit Go.Sort Go.Shelf

theorem rcT_of {M : Wt} {n x : Nat} {P : List Nat} (hnd : P.Nodup) (hm : ∀ j, j ∈ P ↔ j ∈ rcT M n x) : P.mergeSort (fun a b => decide (a ≤ b)) = rcT M n x := by
  have hlt : (rcT M n x).Pairwise (· < ·) := by
    unfold rcT
    exact List.pairwise_lt_range.filter _
  have hnd2 : (rcT M n x).Nodup := hlt.imp fun h => Nat.ne_of_lt h
  have hp : (P.mergeSort (fun a b => decide (a ≤ b))).Perm (rcT M n x) := (List.mergeSort_perm _ _).trans ((List.perm_ext_iff_of_nodup hnd hnd2).2 hm)
  refine List.Perm.eq_of_pairwise (le := fun a b => decide (a ≤ b) = true) (fun a b _ _ h1 h2 => ?_) ?_ ?_ hp
  · have := of_decide_eq_true h1
    have := of_decide_eq_true h2
    omega
  · refine List.pairwise_mergeSort (fun a b c h1 h2 => ?_) (fun a b => ?_) P
    · have := of_decide_eq_true h1
      have := of_decide_eq_true h2
      exact decide_eq_true (by omega)
    · by_cases h : a ≤ b
      · rw [decide_eq_true h]; rfl
      · rw [decide_eq_true (show b ≤ a by omega), Bool.or_true]
  · exact hlt.imp fun h => decide_eq_true (Nat.le_of_lt h)
/-- From no marks on: what is left is what is reached. -/
theorem Vs.reach {M : Wt} {n x : Nat} {S P : List Bool × List Nat} (_ : Okw n M) (hx : x < n) (h : Vs (eM M) [x] (List.replicate n false) [] S.1 P.2) : P.2.mergeSort (fun a b => decide (a ≤ b)) = rcT M n x ∧ P.2 ≠ [] ∧ P.2.length ≤ n := by
  obtain ⟨Q, e, p⟩ := h.ex
  rw [List.nil_append] at e
  rw [e]
  have hno : ∀ j, ¬ (List.replicate n false)[j]? = some true := fun j hj => by
    rw [List.getElem?_replicate] at hj
    split at hj <;> simp at hj
  have hin : ∀ j, S.1[j]? = some true → j ∈ Q := fun j hj => by
    rcases (p.mem j).1 hj with k | k
    · exact absurd k (hno j)
    · exact k
  have hxQ : x ∈ Q := hin x (p.all x (List.mem_singleton.2 rfl))
  refine ⟨rcT_of p.nd fun j => ?_, (fun k => by rw [k] at hxQ; cases hxQ), ?_⟩
  · rw [rcT_mem]
    constructor
    · intro hj
      have hjn : j < n := by have := p.lt hj; rwa [List.length_replicate] at this
      obtain ⟨a, ha, hw⟩ := p.frm j hj
      rw [List.mem_singleton.1 ha] at hw
      exact ⟨hjn, hw.imp (fun e => e.symm) id⟩
    · rintro ⟨_, rfl | hw⟩
      · exact hxQ
      · exact hw.closed (D := fun z => z ∈ Q) (fun i z hi hz => hin z (p.shut i hi z hz)) hxQ
  · have h2 := List.Nodup.length_le_of_subset (l₁ := Q) (l₂ := List.range n) p.nd (fun y hy => List.mem_range.2 (by have := p.lt hy; rwa [List.length_replicate] at this))
    rwa [List.length_range] at h2
theorem sort_own (base : Nat) (v : Value) (P : List Nat) (w : World) (hne : P ≠ []) (ho : w.ownsRow base 3 1 v P.length (P.map intC)) (hl : P.length ≤ 1000000) :
    Calls Tryd.prog 41 #[v] w fun e w' => e = .returned (.tuple #[]) ∧ w'.ownsRow base 3 1 v P.length ((P.mergeSort (fun a b => decide (a ≤ b))).map intC) ∧ w.grownBy w' v.ownBlock := by
  rcases ho.2 with ⟨h0, h1⟩ | ⟨g, cap, cur, rfl, hb, hh, hc, hm, hs, ht⟩
  · exact absurd (List.eq_nil_of_length_eq_zero h1) hne
  · have hP : (P.map fun (j : Nat) => (j : Int)).length = P.length := by simp
    rw [Nat.mul_one] at ht
    have hH := holds_of_blockI (ss := P.map fun (j : Nat) => (j : Int)) hh (by rw [hP, ht, List.map_map]; rfl)
    have hr := Any.slices_Sort_int Tryd.sortL g 0 cap (P.map fun (j : Nat) => (j : Int)) w hH (Array.getElem?_eq_some_iff.1 hh).1 (by rw [hP]; omega)
    rw [hP] at hr
    refine Calls.mono hr ?_
    rintro e w' ⟨rfl, n, os, rfl⟩
    refine ⟨rfl, ?_, grownBy_sortedI _⟩
    have h2 := ownsRow_sortedI (n := n) (os := os) (ss := P.map fun (j : Nat) => (j : Int)) (ts := (P.map fun (j : Nat) => (j : Int)).mergeSort fun x y => decide (x ≤ y)) (by simp) hb hh (by rw [hP]; exact hc) hm hs
    rw [hP] at h2
    have e : (P.mergeSort (fun a b => decide (a ≤ b))).map intC = ((P.map fun (j : Nat) => (j : Int)).mergeSort fun x y => decide (x ≤ y)).map (Value.int .i64) := by
      rw [← List.map_mergeSort (r := fun a b => decide (a ≤ b)) (fun a _ b _ => by simp), List.map_map]
      rfl
    rw [e]
    exact h2
set_option maxRecDepth 100000 in
theorem mkB_run (n : Nat) (hn : n ≤ 4096) (W : World) : (Instr.makeSlice 50 (.int .i64 (n : Nat)) (.int .i64 (n : Nat))).run Tryd.prog W = .ok (.slice (some ⟨W.heap.size, 0, none⟩) n n) (W.alloc (.cells ((List.replicate n false).map Value.bool).toArray 4)) := by
  have h := run_mk (P := Tryd.prog) elBo (n : Nat) (n : Nat) (by omega) (Int.le_refl _) (by omega) (by omega) W
  rw [h]
  congr 3
  rw [Int.toNat_natCast]
  apply Array.toList_inj.1
  have h2 := toList_madeCells_one (Value.bool false) n
  rw [show (Value.bool false : Value).cells = #[Value.bool false] from rfl, h2, List.map_replicate]
/-- Ready to go on from a place. -/
structure RhR (w : World) (M : Wt) (n g bs : Nat) (Z : List Value) (W0 V : World) : Prop where
  nx : NxO W0 w.heap.size g (eM M) n Z
  vk : VisK bs none W0 V
  ap : Aprt g Z bs
  bo : BolB bs (List.replicate n false) V
  bel : Below w.heap.size w V
  ge : w.heap.size ≤ bs ∧ w.heap.size ≤ W0.heap.size
end Go.Proofs.YtkfnbapnkmlopaaDoor

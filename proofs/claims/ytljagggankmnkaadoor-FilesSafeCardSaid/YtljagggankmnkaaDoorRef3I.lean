/- The reference's disk as a value (layer 3), outside the blocks of the program's disk; Try, Sync, Crash on it. -/
import Derived.Test.YtljagggankmnkaaDoorRef3H
namespace Go.Proofs.YtljagggankmnkaaDoor
open Go.RowKit Go.Maps

/-- Cells that read as a list, and that lie outside F (asked only where there are any). -/
def RdO (F : Nat → Prop) (w : World) (A : Option Addr) (xs : List Value) : Prop := Rd w A xs ∧ (0 < xs.length → ∀ a, A = some a → ¬ F a.block)
section
variable {F F' : Nat → Prop} {w w' : World} {A : Option Addr} {xs : List Value}
theorem rd_lt (h : Rd w A xs) (hn : 0 < xs.length) {a : Addr} (e : A = some a) : a.block < w.heap.size := by
  obtain ⟨ad, e2, hc⟩ := h hn
  have h0 := World.block_lt_of_cell? w _ (hc 0 _ (List.getElem?_eq_getElem hn))
  rw [block_add] at h0
  rw [e] at e2
  injection e2 with e2
  rw [e2]
  exact h0
theorem RdO.turn (h : RdO F w A xs) (ht : Turn F w F' w') : RdO F' w' A xs :=
  ⟨fun hn => Rd.turn h.1 ht (h.2 hn) hn, fun hn a e hf => by
    rcases ht.foot _ hf with h1 | h1
    · exact h.2 hn a e h1
    · have := rd_lt h.1 hn e
      omega⟩
theorem RdO.below (h : RdO F w A xs) (hb : Below w.heap.size w w') : RdO F w' A xs := ⟨h.1.below hb, h.2⟩
/-- Rows that a call has made lie outside. -/
theorem RdO.new (h : Rd w' A xs) (hF : ∀ i, F i → i < w.heap.size) (hA : ∀ a, A = some a → w.heap.size ≤ a.block) : RdO F w' A xs :=
  ⟨h, fun _ a e hf => by have := hF _ hf; have := hA a e; omega⟩
end
/-- The reference's disk. -/
def RefIs (F : Nat → Prop) (w : World) (D : Value) (no su : List (Bs × Bs)) (st : List (Stp Bs)) : Prop :=
  ∃ A1 c1 A2 c2 A3 c3, D = .agg #[.slice A1 no.length c1, .slice A2 su.length c2, .slice A3 st.length c3] ∧ RdO F w A1 (no.flatMap fileCells) ∧ RdO F w A2 (su.flatMap fileCells) ∧ RdO F w A3 (st.flatMap stepCells)
section
variable {F F' : Nat → Prop} {w w' : World} {D : Value} {no su : List (Bs × Bs)} {st : List (Stp Bs)}
theorem RefIs.turn (h : RefIs F w D no su st) (ht : Turn F w F' w') : RefIs F' w' D no su st := by
  obtain ⟨A1, c1, A2, c2, A3, c3, e, h1, h2, h3⟩ := h
  exact ⟨A1, c1, A2, c2, A3, c3, e, h1.turn ht, h2.turn ht, h3.turn ht⟩
theorem RefIs.below (h : RefIs F w D no su st) (hb : Below w.heap.size w w') : RefIs F w' D no su st := by
  obtain ⟨A1, c1, A2, c2, A3, c3, e, h1, h2, h3⟩ := h
  exact ⟨A1, c1, A2, c2, A3, c3, e, h1.below hb, h2.below hb, h3.below hb⟩
theorem tryRef_u (s : Stp Bs) (h : RefIs F w D no su st) (hF : ∀ i, F i → i < w.heap.size) (hl1 : no.length ≤ 64) (hl3 : st.length ≤ 4096) (hs : s.nm.length ≤ maxLen ∧ s.to.length ≤ maxLen ∧ s.b.length ≤ maxLen) :
    Calls Tryd.prog 24 #[D, .agg #[.int .i64 s.k, .string (str s.nm), .string (str s.to), .string (str s.b)]] w fun e w' => ∃ D', e = .returned (.tuple #[D', .int .i64 (errOf no st s)]) ∧ Below w.heap.size w w' ∧ RefIs F w' D' (noOf no st s) su (stOf no st s) := by
  obtain ⟨A1, c1, A2, c2, A3, c3, rfl, h1, h2, h3⟩ := h
  refine (tryRef_is s A1 no.length c1 A2 su.length c2 A3 st.length c3 no st w rfl rfl h1.1 h3.1 hl1 hl3 hs).mono ?_
  rintro e w' ⟨hb, ⟨k, hk, h0, rfl⟩ | ⟨h0, B1, d1, B3, d3, rfl, hr1, hr3, ha1, ha3⟩⟩
  · refine ⟨_, by rw [hk], hb, ?_⟩
    unfold noOf stOf
    rw [hk, if_neg h0, if_neg h0]
    exact ⟨A1, c1, A2, c2, A3, c3, rfl, h1.below hb, h2.below hb, h3.below hb⟩
  · refine ⟨_, by rw [h0]; rfl, hb, ?_⟩
    unfold noOf stOf
    rw [if_pos h0, if_pos h0]
    exact ⟨B1, d1, A2, c2, B3, d3, by rw [List.length_append]; rfl, RdO.new hr1 hF ha1, h2.below hb, RdO.new hr3 hF ha3⟩
theorem syncRef_u (h : RefIs F w D no su st) :
    Calls Tryd.prog 25 #[D] w fun e w' => ∃ D', e = .returned D' ∧ Below w.heap.size w w' ∧ RefIs F w' D' no no [] := by
  obtain ⟨A1, c1, A2, c2, A3, c3, rfl, h1, h2, h3⟩ := h
  refine (syncRef_is A1 no.length c1 A2 su.length c2 A3 st.length c3 w).mono ?_
  rintro e w' ⟨rfl, hb⟩
  exact ⟨_, rfl, hb, A1, c1, A1, c1, none, 0, rfl, h1.below hb, h1.below hb, Rd.nil, fun hn => by cases hn⟩
theorem crashRef_no (k q : Int) (h : RefIs F w D no su st) (hk : k < 0 ∨ (st.length : Int) < k ∨ q < 0) :
    Calls Tryd.prog 26 #[D, .int .i64 k, .int .i64 q] w fun e w' => e = .returned (.tuple #[D, .int .i64 1]) ∧ Below w.heap.size w w' := by
  obtain ⟨A1, c1, A2, c2, A3, c3, rfl, h1, h2, h3⟩ := h
  exact crashRef_bad A1 no.length c1 A2 su.length c2 A3 st.length c3 w k q hk
theorem crashRef_yes (k q : Nat) (h : RefIs F w D no su st) (hF : ∀ i, F i → i < w.heap.size) (hist : Hist su st no) (hk : k ≤ st.length) (hl3 : st.length ≤ 4096) (hq : (q : Int) ≤ 9223372036854775807) :
    Calls Tryd.prog 26 #[D, .int .i64 k, .int .i64 q] w fun e w' => ∃ D', e = .returned (.tuple #[D', .int .i64 0]) ∧ Below w.heap.size w w' ∧ RefIs F w' D' (crashF su st k q) (crashF su st k q) [] := by
  obtain ⟨A1, c1, A2, c2, A3, c3, rfl, h1, h2, h3⟩ := h
  refine (crashRef_ok A1 no.length c1 A2 su.length c2 A3 st.length c3 w k q no su st hist rfl rfl hk hl3 hq h2.1 h3.1).mono ?_
  rintro e w' ⟨Al, cl, rfl, hb, hr, ha⟩
  have hO : RdO F w' Al ((crashF su st k q).flatMap fileCells) := ⟨hr, fun hn a e hf => by
    rcases ha a e with h | ⟨h, hc⟩
    · have := hF _ hf
      omega
    · rw [hc] at hn
      exact h2.2 hn a h hf⟩
  exact ⟨_, rfl, hb, Al, cl, Al, cl, none, 0, rfl, hO, hO, Rd.nil, fun hn => by cases hn⟩
end
end Go.Proofs.YtljagggankmnkaaDoor

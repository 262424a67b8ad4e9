/- Layer 13's law package: huge, sure. -/
import Derived.Test.YtkfnbapnkmlopaaDoorGpGi
namespace Go.Proofs.YtkfnbapnkmlopaaDoor
open Go.RowKit

def wtG (a : Grp) : Nat := min a.2.1.length 1000 + min a.2.2.length 1000
def wtX (a : Itm) : Nat := min a.2.length 1000
def smG (g : List Grp) : Nat := (g.map wtG).sum
def smX (x : List Itm) : Nat := (x.map wtX).sum
def hugeG (g : List Grp) (x : List Itm) : Bool := if 30 < g.length ∨ 30 < x.length then true else decide (200 < smG g + smX x)
theorem smG_take {g : List Grp} {i : Nat} {a : Grp} (h : g[i]? = some a) : smG (g.take (i + 1)) = smG (g.take i) + wtG a := by
  obtain ⟨hi, e⟩ := List.getElem?_eq_some_iff.1 h
  unfold smG
  rw [List.take_succ_eq_append_getElem hi, e, List.map_append, List.sum_append]
  simp
theorem smX_take {x : List Itm} {i : Nat} {a : Itm} (h : x[i]? = some a) : smX (x.take (i + 1)) = smX (x.take i) + wtX a := by
  obtain ⟨hi, e⟩ := List.getElem?_eq_some_iff.1 h
  unfold smX
  rw [List.take_succ_eq_append_getElem hi, e, List.map_append, List.sum_append]
  simp
theorem hugeG_no {g : List Grp} {x : List Itm} (h : hugeG g x = false) : g.length ≤ 30 ∧ x.length ≤ 30 ∧ smG g + smX x ≤ 200 := by
  unfold hugeG at h
  by_cases h1 : 30 < g.length ∨ 30 < x.length
  · rw [if_pos h1] at h; cases h
  · rw [if_neg h1] at h
    have := of_decide_eq_false h
    omega
theorem sum_mem_le : ∀ {L : List Nat} {a : Nat}, a ∈ L → a ≤ L.sum
  | b :: L, a, h => by
    rcases List.mem_cons.1 h with rfl | h
    · simp
    · have := sum_mem_le h
      simp
      omega
theorem smG_mem {g : List Grp} {a : Grp} (h : a ∈ g) : wtG a ≤ smG g := sum_mem_le (List.mem_map.2 ⟨a, h, rfl⟩)
theorem smX_mem {x : List Itm} {a : Itm} (h : a ∈ x) : wtX a ≤ smX x := sum_mem_le (List.mem_map.2 ⟨a, h, rfl⟩)
theorem min_if (a b : Nat) : (if (b : Int) < a then (b : Int) else (a : Int)) = ((min a b : Nat) : Int) := by split <;> omega
set_option maxRecDepth 100000 in
set_option maxHeartbeats 4000000 in
theorem huge_any13 (v u : Value) (g : List Grp) (x : List Itm) (w : World) (hv : RowG w v g) (hu : RowX w u x) :
    Calls Tryd.prog 7 #[v, u] w fun e w' => e = .returned (.bool (hugeG g x)) ∧ Below w.heap.size w w' := by
  obtain ⟨A, c, rfl, hr⟩ := hv.form
  obtain ⟨B, d, rfl, hs⟩ := hu.form
  obtain ⟨n, hn⟩ : ∃ m, g.length = m := ⟨_, rfl⟩
  obtain ⟨m, hm⟩ : ∃ m, x.length = m := ⟨_, rfl⟩
  rw [hn] at hr
  rw [hm] at hs
  obtain ⟨R, hR⟩ : ∃ R, hugeG g x = R := ⟨_, rfl⟩
  have hdef : hugeG g x = if 30 < n ∨ 30 < m then true else decide (200 < smG g + smX x) := by unfold hugeG; rw [hn, hm]
  rw [hR] at hdef
  rw [hn, hm, hR]
  have H := Lib.hid (And.intro hr (And.intro hs (And.intro hn (And.intro hm hdef))))
  clear hr hs hv hu hn hm hR hdef
  by_cases hn1 : 30 < n
  · have hn2 : (30 : Int) < n := by omega
    have hRt : R = true := by rw [H.out.2.2.2.2, if_pos (.inl hn1)]
    subst hRt
    go_enter Tryd.func7, Tryd.ntmps7
    go_wp2_with fail
    go_ret
    exact ⟨rfl, Below.refl _ _⟩
  · have hn2 : ¬ (30 : Int) < n := by omega
    by_cases hm1 : 30 < m
    · have hm2 : (30 : Int) < m := by omega
      have hRt : R = true := by rw [H.out.2.2.2.2, if_pos (.inr hm1)]
      subst hRt
      go_enter Tryd.func7, Tryd.ntmps7
      go_wp2_with fail
      go_ret
      exact ⟨rfl, Below.refl _ _⟩
    · have hm2 : ¬ (30 : Int) < m := by omega
      have hRe : R = decide (200 < smG g + smX x) := by rw [H.out.2.2.2.2, if_neg (by omega)]
      have HRe := Lib.hid hRe
      clear hRe
      go_enter Tryd.func7, Tryd.ntmps7
      go_wp2_with fail
      go_loopw [5, 6] (fun sv iv wr => ∃ i s : Nat, sv = .int .i64 s ∧ iv = .int .i64 i ∧ i ≤ n ∧ s = smG (g.take i) ∧ s ≤ 2000 * i ∧ Below w.heap.size w wr) (fun _ iv _ => n - (intOf iv).toNat)
      case atStart => exact ⟨0, 0, rfl, rfl, Nat.zero_le _, by rw [List.take_zero]; rfl, Nat.le_refl _, Below.refl _ _⟩
      case round =>
        obtain ⟨i, s, rfl, rfl, hi, hsm, hsl, hb⟩ := hrel
        by_cases hin : i < n
        · have q0 : (0 : Int) ≤ i := by omega
          have q1 : (i : Int) < n := by omega
          obtain ⟨a, ha⟩ : ∃ a, g[i]? = some a := ⟨_, List.getElem?_eq_getElem (by rw [H.out.2.2.1]; exact hin)⟩
          obtain ⟨ad, X, Am, cm, Ag, cg, hA, hX, k0, k1, k2, _, _⟩ := (H.out.1.below hb).parts.2.2.2 i hin a ha
          subst hA
          have hst := smG_take ha
          have hwt : wtG a = min a.2.1.length 1000 + min a.2.2.length 1000 := rfl
          obtain ⟨l1, hl1⟩ : ∃ l, a.2.1.length = l := ⟨_, rfl⟩
          obtain ⟨l2, hl2⟩ : ∃ l, a.2.2.length = l := ⟨_, rfl⟩
          rw [hl1] at k1 hwt
          rw [hl2] at k2 hwt
          rw [hwt, ← hsm] at hst
          have m1 : (if (1000 : Int) < l1 then (1000 : Int) else (l1 : Int)) = ((min l1 1000 : Nat) : Int) := min_if l1 1000
          have m2 : (if (1000 : Int) < l2 then (1000 : Int) else (l2 : Int)) = ((min l2 1000 : Nat) : Int) := min_if l2 1000
          obtain ⟨p1, hp1⟩ : ∃ p, min l1 1000 = p := ⟨_, rfl⟩
          obtain ⟨p2, hp2⟩ : ∃ p, min l2 1000 = p := ⟨_, rfl⟩
          rw [hp1] at m1
          rw [hp2] at m2
          rw [hp1, hp2] at hst
          have p1l : p1 ≤ 1000 := by omega
          have p2l : p2 ≤ 1000 := by omega
          have y0 : IntKind.i64.wrap ((s : Int) + p1) = (s : Int) + p1 := IntWalk.i64_in _ (by omega)
          have y1 : IntKind.i64.wrap ((s : Int) + p1 + p2) = (s : Int) + p1 + p2 := IntWalk.i64_in _ (by omega)
          have HS := Lib.hid (And.intro hst hb)
          clear hst hb ha hsm hl1 hl2 hp1 hp2 hwt k0
          go_wp2_with fail
          go_quiet (fail)
          go_wp2_with fail
          exact ⟨⟨i + 1, s + p1 + p2, congrArg (Value.int .i64) (by omega), by go_num, hin, by rw [HS.out.1]; omega, by omega, HS.out.2.trans (below_dq _ _)⟩, by simp [intOf]; omega⟩
        · obtain rfl : n = i := by omega
          have q1 : ¬ (n : Int) < n := by omega
          rw [List.take_of_length_le (by rw [H.out.2.2.1]; exact Nat.le_refl _)] at hsm
          have HS := Lib.hid (And.intro hsm hb)
          obtain ⟨s0, hs0⟩ : ∃ y, s = y := ⟨_, rfl⟩
          have HS0 := Lib.hid hs0
          have hsl2 : s ≤ 60000 := by omega
          clear hsm hb hs0 hsl
          go_wp2_with fail
          go_loopw [5, 7] (fun sv iv wr => ∃ i s' : Nat, sv = .int .i64 s' ∧ iv = .int .i64 i ∧ i ≤ m ∧ s' = s + smX (x.take i) ∧ s' ≤ s + 1000 * i ∧ Below w.heap.size w wr) (fun _ iv _ => m - (intOf iv).toNat)
          case atStart => exact ⟨0, s, rfl, rfl, Nat.zero_le _, by rw [List.take_zero]; rfl, by omega, HS.out.2⟩
          case round =>
            obtain ⟨i, s', rfl, rfl, hi, hsm, hsl, hb⟩ := hrel
            by_cases him : i < m
            · have r0 : (0 : Int) ≤ i := by omega
              have r1 : (i : Int) < m := by omega
              obtain ⟨a, ha⟩ : ∃ a, x[i]? = some a := ⟨_, List.getElem?_eq_getElem (by rw [H.out.2.2.2.1]; exact him)⟩
              obtain ⟨ad, X, Ag, cg, hA, hX, k0, k1, _⟩ := (H.out.2.1.below hb).parts.2.2.2 i him a ha
              subst hA
              have hst := smX_take ha
              have hwt : wtX a = min a.2.length 1000 := rfl
              obtain ⟨l1, hl1⟩ : ∃ l, a.2.length = l := ⟨_, rfl⟩
              rw [hl1] at k1 hwt
              rw [hwt] at hst
              have m1 : (if (1000 : Int) < l1 then (1000 : Int) else (l1 : Int)) = ((min l1 1000 : Nat) : Int) := min_if l1 1000
              obtain ⟨p1, hp1⟩ : ∃ p, min l1 1000 = p := ⟨_, rfl⟩
              rw [hp1] at m1 hst
              have p1l : p1 ≤ 1000 := by omega
              have y0 : IntKind.i64.wrap ((s' : Int) + p1) = (s' : Int) + p1 := IntWalk.i64_in _ (by omega)
              have HT := Lib.hid (And.intro hst (And.intro hb hsm))
              clear hst hb ha hl1 hp1 hwt k0 hsm
              go_wp2_with fail
              exact ⟨⟨i + 1, s' + p1, congrArg (Value.int .i64) (by omega), by go_num, him, by rw [HT.out.1, HT.out.2.2]; omega, by omega, HT.out.2.1⟩, by simp [intOf]; omega⟩
            · obtain rfl : m = i := by omega
              have r1 : ¬ (m : Int) < m := by omega
              rw [List.take_of_length_le (by rw [H.out.2.2.2.1]; exact Nat.le_refl _)] at hsm
              have hRs : R = decide (200 < s') := by rw [HRe.out, hsm, HS.out.1]
              have HT := Lib.hid hb
              clear hb hsm
              by_cases h2 : 200 < s'
              · have h3 : (200 : Int) < s' := by omega
                rw [decide_eq_true h2] at hRs
                subst hRs
                go_wp2_with fail
                go_ret
                exact ⟨rfl, HT.out⟩
              · have h3 : ¬ (200 : Int) < s' := by omega
                rw [decide_eq_false h2] at hRs
                subst hRs
                go_wp2_with fail
                go_ret
                exact ⟨rfl, HT.out⟩
/-! sure -/
def suG : List Grp := [([97], [[120]], []), ([98], [], [[97]])]
def suX : List Itm := [([120], []), ([121], [[98]])]
open Classical in
theorem memL_of {g : List Grp} {x : List Itm} {i : Nat} {p : Nat → Bool} (h : ∀ k, k < x.length → (memB g x i k ↔ p k = true)) : memL g x i = (List.range x.length).filter p := by
  unfold memL
  refine List.filter_congr fun k hk => ?_
  rw [Bool.eq_iff_iff, decide_eq_true_iff]
  exact h k (List.mem_range.1 hk)
theorem su_e0 : eG suG 0 = [] := rfl
theorem su_e1 : eG suG 1 = [0] := by decide
theorem su_acy : ∀ i j, j ∈ eM (wyG suG) i → i = 1 ∧ j = 0 := fun i j hj => by
  have h := eM_wyG.1 hj
  by_cases h0 : i = 0
  · rw [h0, su_e0] at h; cases h
  · by_cases h1 : i = 1
    · rw [h1, su_e1] at h
      exact ⟨h1, List.mem_singleton.1 h⟩
    · rw [eG_out (by show 2 ≤ i; omega)] at h
      cases h
theorem su_okg : OkG suG suX where
  full := by decide
  tg := by decide
  ti := by decide
  no := by decide
  ni := by decide
  lp := fun i _ hw => by
    have hlt : ∀ a b, Wy (eM (wyG suG)) a b → a = 1 ∧ b = 0 := fun a b h => by
      induction h with
      | one h => exact su_acy _ _ h
      | more h _ ih =>
        have h1 := su_acy _ _ h
        have h2 := ih.1
        omega
    have := hlt i i hw
    omega
theorem su_ckg : ckG suG suX = (0, 0) := su_okg.ck
theorem su_exg : exG suG suX = [[0], [0, 1]] := by
  have h0 : ∀ k, memB suG suX 0 k ↔ dirB suG suX 0 k = true := fun k => by
    rw [memB_iff, su_e0]
    simp
  have h1 : ∀ k, memB suG suX 1 k ↔ (dirB suG suX 1 k || dirB suG suX 0 k) = true := fun k => by
    rw [memB_iff, su_e1, Bool.or_eq_true]
    simp [h0]
  have e0 : memL suG suX 0 = [0] := by
    rw [memL_of (p := dirB suG suX 0) (fun k _ => h0 k)]
    decide
  have e1 : memL suG suX 1 = [0, 1] := by
    rw [memL_of (p := fun k => dirB suG suX 1 k || dirB suG suX 0 k) (fun k _ => h1 k)]
    decide
  show [memL suG suX 0, memL suG suX 1] = _
  rw [e0, e1]
end Go.Proofs.YtkfnbapnkmlopaaDoor

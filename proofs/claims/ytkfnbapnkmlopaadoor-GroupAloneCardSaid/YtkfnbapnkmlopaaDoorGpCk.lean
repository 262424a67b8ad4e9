/- Contract: the document's Check of groups and items. -/
import Derived.Test.YtkfnbapnkmlopaaDoorGpMem
import Derived.Test.YtkfnbapnkmlopaaDoorGrRf
import Derived.BigQuiet
namespace Go.Proofs.YtkfnbapnkmlopaaDoor
open Go.RowKit

def flG (g : List Grp) (i : Nat) : Bool := (g[i]?).any fun a => decide (4096 < a.2.1.length) || decide (4096 < a.2.2.length)
def flX (x : List Itm) (i : Nat) : Bool := (x[i]?).any fun a => decide (4096 < a.2.length)
section
variable {g : List Grp} {x : List Itm}
theorem full_g (h : 1024 < g.length) : fullG g x = true := by unfold fullG; rw [decide_eq_true h]; rfl
theorem full_x (h : 1024 < x.length) : fullG g x = true := by unfold fullG; rw [decide_eq_true h]; simp
theorem full_i {i : Nat} (h : flG g i = true) : fullG g x = true := by
  unfold flG at h
  cases hg : g[i]? with
  | none => rw [hg] at h; cases h
  | some a =>
    rw [hg] at h
    have : (g.any fun a => decide (4096 < a.2.1.length) || decide (4096 < a.2.2.length)) = true := List.any_eq_true.2 ⟨a, List.mem_of_getElem? hg, h⟩
    unfold fullG
    rw [this]
    simp
theorem full_k {i : Nat} (h : flX x i = true) : fullG g x = true := by
  unfold flX at h
  cases hg : x[i]? with
  | none => rw [hg] at h; cases h
  | some a =>
    rw [hg] at h
    have : (x.any fun a => decide (4096 < a.2.length)) = true := List.any_eq_true.2 ⟨a, List.mem_of_getElem? hg, h⟩
    unfold fullG
    rw [this]
    simp
theorem full_no (h1 : g.length ≤ 1024) (h2 : x.length ≤ 1024) (h3 : ∀ i, i < g.length → flG g i = false) (h4 : ∀ i, i < x.length → flX x i = false) : fullG g x = false := by
  have e3 : (g.any fun a => decide (4096 < a.2.1.length) || decide (4096 < a.2.2.length)) = false := by
    rw [List.any_eq_false]
    intro a ha
    obtain ⟨i, hi, e⟩ := List.mem_iff_getElem.1 ha
    have := h3 i hi
    unfold flG at this
    rw [List.getElem?_eq_getElem hi, e] at this
    rw [Option.any_some] at this
    rw [this]
    decide
  have e4 : (x.any fun a => decide (4096 < a.2.length)) = false := by
    rw [List.any_eq_false]
    intro a ha
    obtain ⟨i, hi, e⟩ := List.mem_iff_getElem.1 ha
    have := h4 i hi
    unfold flX at this
    rw [List.getElem?_eq_getElem hi, e] at this
    rw [Option.any_some] at this
    rw [this]
    decide
  unfold fullG
  rw [e3, e4, decide_eq_false (by omega), decide_eq_false (by omega)]
  rfl
theorem twB_at {L : List Tx} {i : Nat} {s : Tx} (h : L[i]? = some s) : twB L i = decide (ixI L s ≠ i) := by
  unfold twB
  rw [List.getD_eq_getElem?_getD, h]
  rfl
theorem non_m {i k : Nat} {a : Grp} {s : Tx} (ha : g[i]? = some a) (hs : a.2.1[k]? = some s) (h : ixI (iN x) s < 0) : nonB g x i = true := by
  unfold nonB
  rw [ha, Option.any_some, Bool.or_eq_true]
  exact .inl (List.any_eq_true.2 ⟨s, List.mem_of_getElem? hs, decide_eq_true h⟩)
theorem non_g {i k : Nat} {a : Grp} {s : Tx} (ha : g[i]? = some a) (hs : a.2.2[k]? = some s) (h : ixI (gN g) s < 0) : nonB g x i = true := by
  unfold nonB
  rw [ha, Option.any_some, Bool.or_eq_true]
  exact .inr (List.any_eq_true.2 ⟨s, List.mem_of_getElem? hs, decide_eq_true h⟩)
theorem non_ok {i : Nat} {a : Grp} (ha : g[i]? = some a) (h1 : ∀ k s, k < a.2.1.length → a.2.1[k]? = some s → 0 ≤ ixI (iN x) s) (h2 : ∀ k s, k < a.2.2.length → a.2.2[k]? = some s → 0 ≤ ixI (gN g) s) : nonB g x i = false := by
  unfold nonB
  rw [ha, Option.any_some, Bool.or_eq_false_iff, List.any_eq_false, List.any_eq_false]
  refine ⟨fun s hs h => ?_, fun s hs h => ?_⟩
  · obtain ⟨k, hk, e⟩ := List.mem_iff_getElem.1 hs
    exact absurd (of_decide_eq_true h) (Int.not_lt.2 (h1 k s hk (by rw [List.getElem?_eq_getElem hk, e])))
  · obtain ⟨k, hk, e⟩ := List.mem_iff_getElem.1 hs
    exact absurd (of_decide_eq_true h) (Int.not_lt.2 (h2 k s hk (by rw [List.getElem?_eq_getElem hk, e])))
theorem noi_g {i k : Nat} {b : Itm} {s : Tx} (hb : x[i]? = some b) (hs : b.2[k]? = some s) (h : ixI (gN g) s < 0) : noiB g x i = true := by
  unfold noiB
  rw [hb, Option.any_some]
  exact List.any_eq_true.2 ⟨s, List.mem_of_getElem? hs, decide_eq_true h⟩
theorem noi_ok {i : Nat} {b : Itm} (hb : x[i]? = some b) (h1 : ∀ k s, k < b.2.length → b.2[k]? = some s → 0 ≤ ixI (gN g) s) : noiB g x i = false := by
  unfold noiB
  rw [hb, Option.any_some, List.any_eq_false]
  intro s hs h
  obtain ⟨k, hk, e⟩ := List.mem_iff_getElem.1 hs
  exact absurd (of_decide_eq_true h) (Int.not_lt.2 (h1 k s hk (by rw [List.getElem?_eq_getElem hk, e])))
end
/-! Where a group's ways stand among all. -/
def ofG (g : List Grp) (k : Nat) : Nat := ((List.range k).flatMap fun i => (eG g i).map fun j => (i, j)).length
theorem ofG_zero (g : List Grp) : ofG g 0 = 0 := rfl
theorem ofG_succ (g : List Grp) (k : Nat) : ofG g (k + 1) = ofG g k + (eG g k).length := by
  unfold ofG
  rw [List.range_succ, List.flatMap_append, List.length_append]
  simp
theorem ofG_all (g : List Grp) : ofG g g.length = (wyG g).length := rfl
theorem wyG_get {g : List Grp} {k j t : Nat} (hk : k < g.length) (hj : (eG g k)[j]? = some t) : (wyG g)[ofG g k + j]? = some (k, t) := by
  have e : wyG g = ((List.range k).flatMap fun i => (eG g i).map fun j => (i, j)) ++ ((eG g k).map fun j => (k, j)) ++ ((List.range' (k + 1) (g.length - (k + 1))).flatMap fun i => (eG g i).map fun j => (i, j)) := by
    unfold wyG
    have h1 : List.range g.length = List.range k ++ [k] ++ List.range' (k + 1) (g.length - (k + 1)) := by
      rw [List.range_eq_range', List.range_eq_range']
      have h2 : List.range' 0 k ++ [k] = List.range' 0 (k + 1) := by
        rw [List.range'_concat]
        simp
      have h3 := List.range'_append_1 (s := 0) (m := k + 1) (n := g.length - (k + 1))
      rw [show k + 1 + (g.length - (k + 1)) = g.length by omega, Nat.zero_add] at h3
      rw [h2]
      exact h3.symm
    rw [h1, List.flatMap_append, List.flatMap_append]
    simp
  obtain ⟨hj', ej⟩ := List.getElem?_eq_some_iff.1 hj
  rw [e, List.append_assoc, List.getElem?_append_right (by unfold ofG; omega), show ofG g k + j - ((List.range k).flatMap fun i => (eG g i).map fun j => (i, j)).length = j by unfold ofG; omega]
  rw [List.getElem?_append_left (by rw [List.length_map]; exact hj'), List.getElem?_map, hj]
  rfl
theorem Swn.skip {g : List Grp} {x k : Nat} {F0 F : List Bool} (hk : k < g.length) (hn : ∀ t, hitW x F (k, t) = false) : ∀ (d j : Nat), (eG g k).length = j + d → Swn (wyG g) x F0 (ofG g k + j) F → Swn (wyG g) x F0 (ofG g (k + 1)) F
  | 0, j, hd, h => by
    rw [ofG_succ, hd]
    exact h
  | d + 1, j, hd, h => by
    have hj : j < (eG g k).length := by omega
    exact Swn.skip hk hn d (j + 1) (by omega) (h.no (wyG_get hk (List.getElem?_eq_getElem hj)) (hn _))
set_option maxRecDepth 100000 in
set_option maxHeartbeats 8000000 in
theorem refGCk_any (v u : Value) (g : List Grp) (x : List Itm) (w : World) (hv : RowG w v g) (hu : RowX w u x) :
    Calls Tryd.prog 11 #[v, u] w fun e w' => e = .returned (.tuple #[.int .i64 ((ckG g x).1 : Nat), .int .i64 ((ckG g x).2 : Nat)]) ∧ Below w.heap.size w w' := by
  obtain ⟨A, c, rfl, hr⟩ := hv.form
  obtain ⟨B, d, rfl, hs⟩ := hu.form
  obtain ⟨n, hn⟩ : ∃ m, g.length = m := ⟨_, rfl⟩
  obtain ⟨m, hm⟩ : ∃ m, x.length = m := ⟨_, rfl⟩
  rw [hn] at hr
  rw [hm] at hs
  rw [hn, hm]
  have hG := fun (W : World) (s : Tx) (hb : Below w.heap.size w W) => refGrp_any (.slice A n c) g s W (hr.below hb)
  have hI := fun (s : Tx) => refItm_any (.slice B m d) x s w hs
  obtain ⟨R1, hR1⟩ : ∃ r, (ckG g x).1 = r := ⟨_, rfl⟩
  obtain ⟨R2, hR2⟩ : ∃ r, (ckG g x).2 = r := ⟨_, rfl⟩
  have HR : Hid (ckG g x = (R1, R2)) := Lib.hid (by rw [← hR1, ← hR2])
  rw [hR1, hR2]
  have hn9 : n ≤ 9223372036854775807 := by
    have h1 := hr.parts.2.1
    have h2 := hr.parts.2.2.1
    unfold maxLen at h2
    omega
  have hm9 : m ≤ 9223372036854775807 := by
    have h1 := hs.parts.2.1
    have h2 := hs.parts.2.2.1
    unfold maxLen at h2
    omega
  have H := Lib.hid (And.intro hr (And.intro hs (And.intro hn hm)))
  have HG := Lib.hid hG
  have HI := Lib.hid hI
  clear hr hs hv hu hn hm hG hI hR1 hR2
  by_cases hn1 : 1024 < n
  · have hck : ckG g x = (0, 10) := ckG_full (full_g (by rw [H.out.2.2.1]; exact hn1))
    have hn2 : (1024 : Int) < n := by omega
    obtain ⟨rfl, rfl⟩ : R1 = 0 ∧ R2 = 10 := by
      have h := HR.out.symm.trans hck
      injection h with h1 h2
      exact ⟨h1, h2⟩
    clear hck
    go_enter Tryd.func11, Tryd.ntmps11
    go_wp2_with fail
    go_ret2
    exact ⟨rfl, Below.refl _ _⟩
  · have hn2 : ¬ (1024 : Int) < n := by omega
    by_cases hm1 : 1024 < m
    · have hck : ckG g x = (0, 10) := ckG_full (full_x (by rw [H.out.2.2.2]; exact hm1))
      have hm2 : (1024 : Int) < m := by omega
      obtain ⟨rfl, rfl⟩ : R1 = 0 ∧ R2 = 10 := by
        have h := HR.out.symm.trans hck
        injection h with h1 h2
        exact ⟨h1, h2⟩
      clear hck
      go_enter Tryd.func11, Tryd.ntmps11
      go_wp2_with fail
      go_ret2
      exact ⟨rfl, Below.refl _ _⟩
    · have hm2 : ¬ (1024 : Int) < m := by omega
      go_enter Tryd.func11, Tryd.ntmps11
      go_wp2_with fail
      go_loopw [6] (fun iv wr => ∃ i : Nat, iv = .int .i64 i ∧ i ≤ n ∧ (∀ j, j < i → flG g j = false) ∧ wr = w) (fun iv _ => n - (intOf iv).toNat)
      case atStart => exact ⟨0, rfl, Nat.zero_le _, fun j hj => absurd hj (Nat.not_lt_zero j), rfl⟩
      case round =>
        obtain ⟨i, rfl, hi, hno, rfl⟩ := hrel
        by_cases hin : i < n
        · have q0 : (0 : Int) ≤ i := by omega
          have q1 : (i : Int) < n := by omega
          obtain ⟨b, hb⟩ : ∃ b, g[i]? = some b := ⟨_, List.getElem?_eq_getElem (by rw [H.out.2.2.1]; exact hin)⟩
          obtain ⟨ad, X, Am, cm, Ag, cg, rfl, hX, k0, k1, k2, _, _⟩ := H.out.1.parts.2.2.2 i hin b hb
          have hfl : flG g i = (decide (4096 < b.2.1.length) || decide (4096 < b.2.2.length)) := by unfold flG; rw [hb]; rfl
          obtain ⟨l1, hl1⟩ : ∃ l, b.2.1.length = l := ⟨_, rfl⟩
          obtain ⟨l2, hl2⟩ : ∃ l, b.2.2.length = l := ⟨_, rfl⟩
          rw [hl1] at k1 hfl
          rw [hl2] at k2 hfl
          have HF := Lib.hid (And.intro hfl hno)
          clear hfl hno hb hl1 hl2 k0
          by_cases hb1 : 4096 < l1
          · have hb1' : (4096 : Int) < l1 := by omega
            have hck : ckG g x = (0, 10) := ckG_full (full_i (i := i) (by rw [HF.out.1, decide_eq_true hb1]; rfl))
            obtain ⟨rfl, rfl⟩ : R1 = 0 ∧ R2 = 10 := by
              have h := HR.out.symm.trans hck
              injection h with h1 h2
              exact ⟨h1, h2⟩
            clear hck
            go_wp2_with fail
            go_ret2
            exact ⟨rfl, Below.refl _ _⟩
          · have hb1' : ¬ (4096 : Int) < l1 := by omega
            by_cases hb2 : 4096 < l2
            · have hb2' : (4096 : Int) < l2 := by omega
              have hck : ckG g x = (0, 10) := ckG_full (full_i (i := i) (by rw [HF.out.1, decide_eq_true hb2, Bool.or_true]))
              obtain ⟨rfl, rfl⟩ : R1 = 0 ∧ R2 = 10 := by
                have h := HR.out.symm.trans hck
                injection h with h1 h2
                exact ⟨h1, h2⟩
              clear hck
              go_wp2_with fail
              go_ret2
              exact ⟨rfl, Below.refl _ _⟩
            · have hb2' : ¬ (4096 : Int) < l2 := by omega
              have hf : flG g i = false := by rw [HF.out.1, decide_eq_false hb1, decide_eq_false hb2]; rfl
              have HF2 := Lib.hid hf
              clear hf
              go_wp2_with fail
              refine ⟨⟨i + 1, by go_num, hin, fun j hj => ?_, trivial⟩, by simp [intOf]; omega⟩
              by_cases e : j = i
              · rw [e]; exact HF2.out
              · exact HF.out.2 j (by omega)
        · obtain rfl : n = i := by omega
          have q1 : ¬ (n : Int) < n := by omega
          have H1 := Lib.hid hno
          clear hno hin hi
          go_wp2_with fail
          go_loopw [7] (fun iv wr' => ∃ i : Nat, iv = .int .i64 i ∧ i ≤ m ∧ (∀ j, j < i → flX x j = false) ∧ wr' = wr) (fun iv _ => m - (intOf iv).toNat)
          case atStart => exact ⟨0, rfl, Nat.zero_le _, fun j hj => absurd hj (Nat.not_lt_zero j), rfl⟩
          case round =>
            obtain ⟨i, rfl, hi, hno, rfl⟩ := hrel
            by_cases him : i < m
            · have q0 : (0 : Int) ≤ i := by omega
              have q2 : (i : Int) < m := by omega
              obtain ⟨b, hb⟩ : ∃ b, x[i]? = some b := ⟨_, List.getElem?_eq_getElem (by rw [H.out.2.2.2]; exact him)⟩
              obtain ⟨ad, X, Ag, cg, rfl, hX, k0, k1, _⟩ := H.out.2.1.parts.2.2.2 i him b hb
              have hfl : flX x i = decide (4096 < b.2.length) := by unfold flX; rw [hb]; rfl
              obtain ⟨l1, hl1⟩ : ∃ l, b.2.length = l := ⟨_, rfl⟩
              rw [hl1] at k1 hfl
              have HF := Lib.hid (And.intro hfl hno)
              clear hfl hno hb hl1 k0
              by_cases hb1 : 4096 < l1
              · have hb1' : (4096 : Int) < l1 := by omega
                have hck : ckG g x = (0, 10) := ckG_full (full_k (i := i) (by rw [HF.out.1, decide_eq_true hb1]))
                obtain ⟨rfl, rfl⟩ : R1 = 0 ∧ R2 = 10 := by
                  have h := HR.out.symm.trans hck
                  injection h with h1 h2
                  exact ⟨h1, h2⟩
                clear hck
                go_wp2_with fail
                go_ret2
                exact ⟨rfl, Below.refl _ _⟩
              · have hb1' : ¬ (4096 : Int) < l1 := by omega
                have hf : flX x i = false := by rw [HF.out.1, decide_eq_false hb1]
                have HF2 := Lib.hid hf
                clear hf
                go_wp2_with fail
                refine ⟨⟨i + 1, by go_num, him, fun j hj => ?_, trivial⟩, by simp [intOf]; omega⟩
                by_cases e : j = i
                · rw [e]; exact HF2.out
                · exact HF.out.2 j (by omega)
            · obtain rfl : m = i := by omega
              have q2 : ¬ (m : Int) < m := by omega
              have hfull := full_no (g := g) (x := x) (by rw [H.out.2.2.1]; omega) (by rw [H.out.2.2.2]; omega) (by rw [H.out.2.2.1]; exact H1.out) (by rw [H.out.2.2.2]; exact hno)
              have H2 := Lib.hid hfull
              clear hno him hi hfull
              go_wp2_with fail
              go_loopw [8] (fun iv wr' => ∃ i : Nat, iv = .int .i64 i ∧ i ≤ n ∧ (∀ j, j < i → twB (gN g) j = false) ∧ wr' = wr) (fun iv _ => n - (intOf iv).toNat)
              case atStart => exact ⟨0, rfl, Nat.zero_le _, fun j hj => absurd hj (Nat.not_lt_zero j), rfl⟩
              case round =>
                obtain ⟨i, rfl, hi, hno, rfl⟩ := hrel
                by_cases hin : i < n
                · have q0 : (0 : Int) ≤ i := by omega
                  have q3 : (i : Int) < n := by omega
                  obtain ⟨b, hb⟩ : ∃ b, g[i]? = some b := ⟨_, List.getElem?_eq_getElem (by rw [H.out.2.2.1]; exact hin)⟩
                  obtain ⟨ad, X, Am, cm, Ag, cg, rfl, hX, k0, k1, k2, _, _⟩ := H.out.1.parts.2.2.2 i hin b hb
                  have HC := Lib.hid (HG.out wr b.1 (Below.refl _ _))
                  have htw := twB_at (gN_at hb)
                  obtain ⟨SB, hSB⟩ : ∃ S, str b.1 = S := ⟨_, rfl⟩
                  obtain ⟨z, hz⟩ : ∃ z, ixI (gN g) b.1 = z := ⟨_, rfl⟩
                  rw [hSB] at k0 HC
                  rw [hz] at HC htw
                  have HF := Lib.hid (And.intro htw hno)
                  clear htw hno hb hSB hz k1 k2
                  by_cases hzi : z = i
                  · subst hzi
                    have hf : twB (gN g) i = false := by rw [HF.out.1]; simp
                    have HF2 := Lib.hid hf
                    clear hf
                    go_wp2_with fail
                    with_reducible refine HC.out.mono ?_
                    rintro e w' ⟨rfl, rfl⟩
                    go_wp2_with fail
                    refine ⟨⟨i + 1, by go_num, hin, fun j hj => ?_, trivial⟩, by simp [intOf]; omega⟩
                    by_cases e : j = i
                    · rw [e]; exact HF2.out
                    · exact HF.out.2 j (by omega)
                  · have hzb : (z == (i : Int)) = false := beq_eq_false_iff_ne.2 hzi
                    have hck : ckG g x = (i, 7) := ckG_tw H2.out (fiN_hit (by rw [H.out.2.2.1]; exact hin) (by rw [HF.out.1]; exact decide_eq_true hzi) HF.out.2)
                    obtain ⟨rfl, rfl⟩ : R1 = i ∧ R2 = 7 := by
                      have h := HR.out.symm.trans hck
                      injection h with h1 h2
                      exact ⟨h1, h2⟩
                    clear hck
                    go_wp2_with fail
                    with_reducible refine HC.out.mono ?_
                    rintro e w' ⟨rfl, rfl⟩
                    go_wp2_with fail
                    go_ret2
                    exact ⟨rfl, Below.refl _ _⟩
                · obtain rfl : n = i := by omega
                  have h3 := fiN_no (n := g.length) (p := twB (gN g)) (by rw [H.out.2.2.1]; exact hno)
                  have H3 := Lib.hid h3
                  clear hno hin hi h3
                  go_wp2_with fail
                  go_loopw [9] (fun iv wr' => ∃ i : Nat, iv = .int .i64 i ∧ i ≤ m ∧ (∀ j, j < i → twB (iN x) j = false) ∧ wr' = wr) (fun iv _ => m - (intOf iv).toNat)
                  case atStart => exact ⟨0, rfl, Nat.zero_le _, fun j hj => absurd hj (Nat.not_lt_zero j), rfl⟩
                  case round =>
                    obtain ⟨i, rfl, hi, hno, rfl⟩ := hrel
                    by_cases him : i < m
                    · have q0 : (0 : Int) ≤ i := by omega
                      have q4 : (i : Int) < m := by omega
                      obtain ⟨b, hb⟩ : ∃ b, x[i]? = some b := ⟨_, List.getElem?_eq_getElem (by rw [H.out.2.2.2]; exact him)⟩
                      obtain ⟨ad, X, Ag, cg, rfl, hX, k0, k1, _⟩ := H.out.2.1.parts.2.2.2 i him b hb
                      have HC := Lib.hid (HI.out b.1)
                      have htw := twB_at (iN_at hb)
                      obtain ⟨SB, hSB⟩ : ∃ S, str b.1 = S := ⟨_, rfl⟩
                      obtain ⟨z, hz⟩ : ∃ z, ixI (iN x) b.1 = z := ⟨_, rfl⟩
                      rw [hSB] at k0 HC
                      rw [hz] at HC htw
                      have HF := Lib.hid (And.intro htw hno)
                      clear htw hno hb hSB hz k1
                      by_cases hzi : z = i
                      · subst hzi
                        have hf : twB (iN x) i = false := by rw [HF.out.1]; simp
                        have HF2 := Lib.hid hf
                        clear hf
                        go_wp2_with fail
                        with_reducible refine HC.out.mono ?_
                        rintro e w' ⟨rfl, rfl⟩
                        go_wp2_with fail
                        refine ⟨⟨i + 1, by go_num, him, fun j hj => ?_, trivial⟩, by simp [intOf]; omega⟩
                        by_cases e : j = i
                        · rw [e]; exact HF2.out
                        · exact HF.out.2 j (by omega)
                      · have hzb : (z == (i : Int)) = false := beq_eq_false_iff_ne.2 hzi
                        have hck : ckG g x = (n + i, 7) := by rw [← H.out.2.2.1]; exact ckG_ti H2.out H3.out (fiN_hit (by rw [H.out.2.2.2]; exact him) (by rw [HF.out.1]; exact decide_eq_true hzi) HF.out.2)
                        obtain ⟨rfl, rfl⟩ : R1 = n + i ∧ R2 = 7 := by
                          have h := HR.out.symm.trans hck
                          injection h with h1 h2
                          exact ⟨h1, h2⟩
                        clear hck
                        go_wp2_with fail
                        with_reducible refine HC.out.mono ?_
                        rintro e w' ⟨rfl, rfl⟩
                        go_wp2_with fail
                        go_ret2
                        exact ⟨by first | rfl | (rw [Int.natCast_add]; rfl), Below.refl _ _⟩
                    · obtain rfl : m = i := by omega
                      have h4 := fiN_no (n := x.length) (p := twB (iN x)) (by rw [H.out.2.2.2]; exact hno)
                      have H4 := Lib.hid h4
                      clear hno him hi h4
                      go_wp2_with fail
                      go_loopw [10] (fun iv wr' => ∃ i : Nat, iv = .int .i64 i ∧ i ≤ n ∧ (∀ j, j < i → nonB g x j = false) ∧ wr' = wr) (fun iv _ => n - (intOf iv).toNat)
                      case atStart => exact ⟨0, rfl, Nat.zero_le _, fun j hj => absurd hj (Nat.not_lt_zero j), rfl⟩
                      case round =>
                        obtain ⟨i, rfl, hi, hno, rfl⟩ := hrel
                        by_cases hin : i < n
                        · have q0 : (0 : Int) ≤ i := by omega
                          have q5 : (i : Int) < n := by omega
                          obtain ⟨b, hb⟩ : ∃ b, g[i]? = some b := ⟨_, List.getElem?_eq_getElem (by rw [H.out.2.2.1]; exact hin)⟩
                          obtain ⟨ad, X, Am, cm, Ag, cg, rfl, hX, k0, k1, k2, rm, rg⟩ := H.out.1.parts.2.2.2 i hin b hb
                          obtain ⟨l1, hl1⟩ : ∃ l, b.2.1.length = l := ⟨_, rfl⟩
                          obtain ⟨l2, hl2⟩ : ∃ l, b.2.2.length = l := ⟨_, rfl⟩
                          rw [hl1] at k1 rm
                          rw [hl2] at k2 rg
                          have hl19 : l1 ≤ 9223372036854775807 := by
                            have h1 := rm.at9.2.1
                            have h2 := rm.at9.2.2.1
                            unfold maxLen at h2
                            omega
                          have hl29 : l2 ≤ 9223372036854775807 := by
                            have h1 := rg.at9.2.1
                            have h2 := rg.at9.2.2.1
                            unfold maxLen at h2
                            omega
                          have HF := Lib.hid (And.intro hno (And.intro hb (And.intro rm (And.intro rg (And.intro hl1 hl2)))))
                          clear hno hb rm rg hl1 hl2 k0
                          go_wp2_with fail
                          go_loopw [11] (fun kv wr' => ∃ k : Nat, kv = .int .i64 k ∧ k ≤ l1 ∧ (∀ k' s, k' < k → b.2.1[k']? = some s → 0 ≤ ixI (iN x) s) ∧ wr' = wr) (fun kv _ => l1 - (intOf kv).toNat)
                          case atStart => exact ⟨0, rfl, Nat.zero_le _, fun j s hj => absurd hj (Nat.not_lt_zero j), rfl⟩
                          case round =>
                            obtain ⟨k, rfl, hk, hkno, rfl⟩ := hrel
                            by_cases hkl : k < l1
                            · have r0 : (0 : Int) ≤ k := by omega
                              have r1 : (k : Int) < l1 := by omega
                              obtain ⟨am, s, rfl, hs, cs⟩ := HF.out.2.2.1.at9.2.2.2 k hkl
                              have HC := Lib.hid (HI.out s)
                              obtain ⟨SB, hSB⟩ : ∃ S, str s = S := ⟨_, rfl⟩
                              obtain ⟨z, hz⟩ : ∃ z, ixI (iN x) s = z := ⟨_, rfl⟩
                              rw [hSB] at cs HC
                              rw [hz] at HC
                              have HK := Lib.hid (And.intro hkno (And.intro hs hz))
                              clear hkno hs hz hSB
                              by_cases hz0 : z < 0
                              · have hck : ckG g x = (i, 8) := ckG_no H2.out H3.out H4.out (fiN_hit (by rw [H.out.2.2.1]; exact hin) (non_m HF.out.2.1 HK.out.2.1 (by rw [HK.out.2.2]; exact hz0)) HF.out.1)
                                obtain ⟨rfl, rfl⟩ : R1 = i ∧ R2 = 8 := by
                                  have h := HR.out.symm.trans hck
                                  injection h with h1 h2
                                  exact ⟨h1, h2⟩
                                clear hck
                                go_wp2_with fail
                                with_reducible refine HC.out.mono ?_
                                rintro e w' ⟨rfl, rfl⟩
                                go_wp2_with fail
                                go_ret2
                                exact ⟨rfl, Below.refl _ _⟩
                              · go_wp2_with fail
                                with_reducible refine HC.out.mono ?_
                                rintro e w' ⟨rfl, rfl⟩
                                go_wp2_with fail
                                refine ⟨⟨k + 1, by go_num, hkl, fun k' s' hk' hs' => ?_, trivial⟩, by simp [intOf]; omega⟩
                                by_cases e : k' = k
                                · subst e
                                  have e2 := HK.out.2.1.symm.trans hs'
                                  injection e2 with e2
                                  rw [← e2, HK.out.2.2]
                                  omega
                                · exact HK.out.1 k' s' (by omega) hs'
                            · obtain rfl : l1 = k := by omega
                              have r1 : ¬ (l1 : Int) < l1 := by omega
                              have HM1 := Lib.hid hkno
                              clear hkno hkl hk
                              go_wp2_with fail
                              go_loopw [12] (fun kv wr' => ∃ k : Nat, kv = .int .i64 k ∧ k ≤ l2 ∧ (∀ k' s, k' < k → b.2.2[k']? = some s → 0 ≤ ixI (gN g) s) ∧ wr' = wr) (fun kv _ => l2 - (intOf kv).toNat)
                              case atStart => exact ⟨0, rfl, Nat.zero_le _, fun j s hj => absurd hj (Nat.not_lt_zero j), rfl⟩
                              case round =>
                                obtain ⟨k, rfl, hk, hkno, rfl⟩ := hrel
                                by_cases hkl : k < l2
                                · have r0 : (0 : Int) ≤ k := by omega
                                  have r2 : (k : Int) < l2 := by omega
                                  obtain ⟨ag, s, rfl, hs, cs⟩ := HF.out.2.2.2.1.at9.2.2.2 k hkl
                                  have HC := Lib.hid (HG.out wr s (Below.refl _ _))
                                  obtain ⟨SB, hSB⟩ : ∃ S, str s = S := ⟨_, rfl⟩
                                  obtain ⟨z, hz⟩ : ∃ z, ixI (gN g) s = z := ⟨_, rfl⟩
                                  rw [hSB] at cs HC
                                  rw [hz] at HC
                                  have HK := Lib.hid (And.intro hkno (And.intro hs hz))
                                  clear hkno hs hz hSB
                                  by_cases hz0 : z < 0
                                  · have hck : ckG g x = (i, 8) := ckG_no H2.out H3.out H4.out (fiN_hit (by rw [H.out.2.2.1]; exact hin) (non_g HF.out.2.1 HK.out.2.1 (by rw [HK.out.2.2]; exact hz0)) HF.out.1)
                                    obtain ⟨rfl, rfl⟩ : R1 = i ∧ R2 = 8 := by
                                      have h := HR.out.symm.trans hck
                                      injection h with h1 h2
                                      exact ⟨h1, h2⟩
                                    clear hck
                                    go_wp2_with fail
                                    with_reducible refine HC.out.mono ?_
                                    rintro e w' ⟨rfl, rfl⟩
                                    go_wp2_with fail
                                    go_ret2
                                    exact ⟨rfl, Below.refl _ _⟩
                                  · go_wp2_with fail
                                    with_reducible refine HC.out.mono ?_
                                    rintro e w' ⟨rfl, rfl⟩
                                    go_wp2_with fail
                                    refine ⟨⟨k + 1, by go_num, hkl, fun k' s' hk' hs' => ?_, trivial⟩, by simp [intOf]; omega⟩
                                    by_cases e : k' = k
                                    · subst e
                                      have e2 := HK.out.2.1.symm.trans hs'
                                      injection e2 with e2
                                      rw [← e2, HK.out.2.2]
                                      omega
                                    · exact HK.out.1 k' s' (by omega) hs'
                                · obtain rfl : l2 = k := by omega
                                  have r2 : ¬ (l2 : Int) < l2 := by omega
                                  have hf : nonB g x i = false := non_ok HF.out.2.1 (fun k s h1 => HM1.out k s (by rw [← HF.out.2.2.2.2.1]; exact h1)) (fun k s h1 => hkno k s (by rw [← HF.out.2.2.2.2.2]; exact h1))
                                  have HF2 := Lib.hid hf
                                  clear hkno hkl hk hf
                                  go_wp2_with fail
                                  refine ⟨⟨i + 1, by go_num, hin, fun j hj => ?_, trivial⟩, by simp [intOf]; omega⟩
                                  by_cases e : j = i
                                  · rw [e]; exact HF2.out
                                  · exact HF.out.1 j (by omega)
                        · obtain rfl : n = i := by omega
                          have h5 := fiN_no (n := g.length) (p := nonB g x) (by rw [H.out.2.2.1]; exact hno)
                          have H5 := Lib.hid (And.intro h5 hno)
                          have q5 : ¬ (n : Int) < n := by omega
                          clear hno hin hi h5
                          go_wp2_with fail
                          go_loopw [13] (fun iv wr' => ∃ i : Nat, iv = .int .i64 i ∧ i ≤ m ∧ (∀ j, j < i → noiB g x j = false) ∧ wr' = wr) (fun iv _ => m - (intOf iv).toNat)
                          case atStart => exact ⟨0, rfl, Nat.zero_le _, fun j hj => absurd hj (Nat.not_lt_zero j), rfl⟩
                          case round =>
                            obtain ⟨i, rfl, hi, hno, rfl⟩ := hrel
                            by_cases him : i < m
                            · have q0 : (0 : Int) ≤ i := by omega
                              have q6 : (i : Int) < m := by omega
                              obtain ⟨b, hb⟩ : ∃ b, x[i]? = some b := ⟨_, List.getElem?_eq_getElem (by rw [H.out.2.2.2]; exact him)⟩
                              obtain ⟨ad, X, Ag, cg, rfl, hX, k0, k1, rg⟩ := H.out.2.1.parts.2.2.2 i him b hb
                              obtain ⟨l1, hl1⟩ : ∃ l, b.2.length = l := ⟨_, rfl⟩
                              rw [hl1] at k1 rg
                              have hl19 : l1 ≤ 9223372036854775807 := by
                                have h1 := rg.at9.2.1
                                have h2 := rg.at9.2.2.1
                                unfold maxLen at h2
                                omega
                              have HF := Lib.hid (And.intro hno (And.intro hb (And.intro rg hl1)))
                              clear hno hb rg hl1 k0
                              go_wp2_with fail
                              go_loopw [14] (fun kv wr' => ∃ k : Nat, kv = .int .i64 k ∧ k ≤ l1 ∧ (∀ k' s, k' < k → b.2[k']? = some s → 0 ≤ ixI (gN g) s) ∧ wr' = wr) (fun kv _ => l1 - (intOf kv).toNat)
                              case atStart => exact ⟨0, rfl, Nat.zero_le _, fun j s hj => absurd hj (Nat.not_lt_zero j), rfl⟩
                              case round =>
                                obtain ⟨k, rfl, hk, hkno, rfl⟩ := hrel
                                by_cases hkl : k < l1
                                · have r0 : (0 : Int) ≤ k := by omega
                                  have r1 : (k : Int) < l1 := by omega
                                  obtain ⟨ag, s, rfl, hs, cs⟩ := HF.out.2.2.1.at9.2.2.2 k hkl
                                  have HC := Lib.hid (HG.out wr s (Below.refl _ _))
                                  obtain ⟨SB, hSB⟩ : ∃ S, str s = S := ⟨_, rfl⟩
                                  obtain ⟨z, hz⟩ : ∃ z, ixI (gN g) s = z := ⟨_, rfl⟩
                                  rw [hSB] at cs HC
                                  rw [hz] at HC
                                  have HK := Lib.hid (And.intro hkno (And.intro hs hz))
                                  clear hkno hs hz hSB
                                  by_cases hz0 : z < 0
                                  · have hck : ckG g x = (n + i, 8) := by rw [← H.out.2.2.1]; exact ckG_ni H2.out H3.out H4.out H5.out.1 (fiN_hit (by rw [H.out.2.2.2]; exact him) (noi_g HF.out.2.1 HK.out.2.1 (by rw [HK.out.2.2]; exact hz0)) HF.out.1)
                                    obtain ⟨rfl, rfl⟩ : R1 = n + i ∧ R2 = 8 := by
                                      have h := HR.out.symm.trans hck
                                      injection h with h1 h2
                                      exact ⟨h1, h2⟩
                                    clear hck
                                    go_wp2_with fail
                                    with_reducible refine HC.out.mono ?_
                                    rintro e w' ⟨rfl, rfl⟩
                                    go_wp2_with fail
                                    go_ret2
                                    exact ⟨by first | rfl | (rw [Int.natCast_add]; rfl), Below.refl _ _⟩
                                  · go_wp2_with fail
                                    with_reducible refine HC.out.mono ?_
                                    rintro e w' ⟨rfl, rfl⟩
                                    go_wp2_with fail
                                    refine ⟨⟨k + 1, by go_num, hkl, fun k' s' hk' hs' => ?_, trivial⟩, by simp [intOf]; omega⟩
                                    by_cases e : k' = k
                                    · subst e
                                      have e2 := HK.out.2.1.symm.trans hs'
                                      injection e2 with e2
                                      rw [← e2, HK.out.2.2]
                                      omega
                                    · exact HK.out.1 k' s' (by omega) hs'
                                · obtain rfl : l1 = k := by omega
                                  have r1 : ¬ (l1 : Int) < l1 := by omega
                                  have hf : noiB g x i = false := noi_ok HF.out.2.1 (fun k s h1 => hkno k s (by rw [← HF.out.2.2.2]; exact h1))
                                  have HF2 := Lib.hid hf
                                  clear hkno hkl hk hf
                                  go_wp2_with fail
                                  refine ⟨⟨i + 1, by go_num, him, fun j hj => ?_, trivial⟩, by simp [intOf]; omega⟩
                                  by_cases e : j = i
                                  · rw [e]; exact HF2.out
                                  · exact HF.out.1 j (by omega)
                            · obtain rfl : m = i := by omega
                              have h6 := fiN_no (n := x.length) (p := noiB g x) (by rw [H.out.2.2.2]; exact hno)
                              have H6 := Lib.hid h6
                              have q6 : ¬ (m : Int) < m := by omega
                              have hok : Okw g.length (wyG g) := okW (by rw [H.out.2.2.1]; exact H5.out.2)
                              rw [H.out.2.2.1] at hok
                              have HOk := Lib.hid hok
                              clear hno him hi h6 hok
                              go_wp2_with fail
                              obtain ⟨w0, rfl⟩ : ∃ y, y = wr := ⟨_, rfl⟩
                              go_loopw [15] (fun iv wr' => ∃ i : Nat, iv = .int .i64 i ∧ i ≤ n ∧ (∀ j, j < i → lopB g j = false) ∧ Below w0.heap.size w0 wr') (fun iv _ => n - (intOf iv).toNat)
                              case atStart => exact ⟨0, rfl, Nat.zero_le _, fun j hj => absurd hj (Nat.not_lt_zero j), Below.refl _ _⟩
                              case round =>
                                obtain ⟨i, rfl, hi, hno, hb⟩ := hrel
                                by_cases hin : i < n
                                · have q0 : (0 : Int) ≤ i := by omega
                                  have q7 : (i : Int) < n := by omega
                                  obtain ⟨V1, hmb, hK1, hb1⟩ := BolB.make wr n (by omega)
                                  obtain ⟨bt, hbt⟩ : ∃ y, wr.heap.size = y := ⟨_, rfl⟩
                                  rw [hbt] at hmb hK1
                                  have hbw : w0.heap.size ≤ bt := by rw [← hbt]; exact hb.size
                                  have HV := Lib.hid (And.intro hno (And.intro hK1 (hb.trans (hb1.mono hb.size))))
                                  clear hno hK1 hb1 hb hbt
                                  go_wp2_with fail
                                  clear hmb
                                  go_loopw [17] (fun rv W => ∃ (r : Nat) (F : List Bool), rv = .int .i64 r ∧ r ≤ n + 1 ∧ Below w0.heap.size w0 W ∧ BolB bt F W ∧ Ldr (wyG g) n i F ∧ Fry (wyG g) i r F) (fun rv _ => n + 1 - (intOf rv).toNat)
                                  case atStart => exact ⟨0, _, rfl, by omega, HV.out.2.2, HV.out.2.1, Ldr.init _ _ _, Fry.init _ _ _⟩
                                  case round =>
                                    obtain ⟨r, F0, rfl, hr, hb, hF, hL, hfr⟩ := hrel
                                    have HK := Lib.hid (And.intro hb (And.intro hF (And.intro hL hfr)))
                                    clear hb hF hL hfr
                                    by_cases hrn : r ≤ n
                                    · have r0 : (0 : Int) ≤ r := by omega
                                      have r1 : (r : Int) ≤ n := by omega
                                      go_wp2_with fail
                                      go_loopw [18] (fun kv W => ∃ (k : Nat) (F : List Bool), kv = .int .i64 k ∧ k ≤ n ∧ Below w0.heap.size w0 W ∧ BolB bt F W ∧ Ldr (wyG g) n i F ∧ Swn (wyG g) i F0 (ofG g k) F) (fun kv _ => n - (intOf kv).toNat)
                                      case atStart => exact ⟨0, F0, rfl, Nat.zero_le _, HK.out.1, HK.out.2.1, HK.out.2.2.1, Swn.init _ _ _⟩
                                      case round =>
                                        obtain ⟨k, F1, rfl, hk, hb, hF, hL, hsw⟩ := hrel
                                        by_cases hkn : k < n
                                        · have s0 : (0 : Int) ≤ k := by omega
                                          have s1 : (k : Int) < n := by omega
                                          obtain ⟨b, hbk⟩ : ∃ b, g[k]? = some b := ⟨_, List.getElem?_eq_getElem (by rw [H.out.2.2.1]; exact hkn)⟩
                                          have hparts := fun (W : World) (hW : Below w0.heap.size w0 W) => (H.out.1.below hW).parts.2.2.2 k hkn b hbk
                                          have heq := eG_at hbk
                                          have hql : (eG g k).length = b.2.2.length := by rw [heq, List.length_map]
                                          have HB := Lib.hid (And.intro hbk (And.intro hparts (And.intro heq hql)))
                                          have HS := Lib.hid (And.intro hb (And.intro hF (And.intro hL hsw)))
                                          clear hb hF hL hsw hbk hparts heq hql
                                          go_wp2_with fail
                                          go_loopw [19] (fun jv W => ∃ (j : Nat) (F : List Bool), jv = .int .i64 j ∧ j ≤ (eG g k).length ∧ Below w0.heap.size w0 W ∧ BolB bt F W ∧ Ldr (wyG g) n i F ∧ Swn (wyG g) i F0 (ofG g k + j) F) (fun jv _ => (eG g k).length - (intOf jv).toNat)
                                          case atStart => exact ⟨0, F1, rfl, Nat.zero_le _, HS.out.1, HS.out.2.1, HS.out.2.2.1, HS.out.2.2.2⟩
                                          case round =>
                                            obtain ⟨j, F, rfl, hj, hb, hF, hL, hsw⟩ := hrel
                                            obtain ⟨ad, X, Am, cm, Ag, cg, rfl, hX, k0, k1, k2, rm, rg⟩ := HB.out.2.1 wr hb
                                            have hql := HB.out.2.2.2
                                            obtain ⟨q, hq⟩ : ∃ q, b.2.2.length = q := ⟨_, rfl⟩
                                            rw [hq] at k2 rg hql
                                            have hq9 : q ≤ 9223372036854775807 := by
                                              have h1 := rg.at9.2.1
                                              have h2 := rg.at9.2.2.1
                                              unfold maxLen at h2
                                              omega
                                            obtain ⟨b1, hb1⟩ : ∃ y, F[k]? = some y := ⟨_, List.getElem?_eq_getElem (by rw [hL.len]; exact hkn)⟩
                                            have c1 := hF.load hb1
                                            have hhit : ∀ t, hitW i F (k, t) = (decide (k = i) || b1) := fun t => by
                                              unfold hitW
                                              dsimp only
                                              rw [hb1]
                                              have e3 : (some b1 == some true) = b1 := by cases b1 <;> rfl
                                              have e4 : (k == i) = decide (k = i) := rfl
                                              rw [e3, e4]
                                            have HP := Lib.hid (And.intro hb (And.intro hF (And.intro hL (And.intro hsw (And.intro hhit (And.intro hql (And.intro rg hj)))))))
                                            clear hb hF hL hsw hhit hb1 hql rg rm hq k0 k1 hj
                                            rcases Nat.decEq k i with hax | hax
                                            case' isFalse =>
                                              have e1 : ¬ ((k : Int) = i) := by omega
                                              have e2 : ((k : Int) == (i : Int)) = false := beq_eq_false_iff_ne.2 e1
                                              cases hbc : b1
                                              case' false =>
                                                have hskip := Swn.skip (g := g) (x := i) (F0 := F0) (F := F) (by rw [H.out.2.2.1]; exact hkn) (fun t => by rw [HP.out.2.2.2.2.1, decide_eq_false hax, hbc]; rfl) ((eG g k).length - j) j (by have := HP.out.2.2.2.2.2.2.2; omega) HP.out.2.2.2.1
                                                have HSk := Lib.hid hskip
                                                subst hbc
                                                clear hskip hax
                                                go_wp2_with fail
                                                exact ⟨⟨k + 1, F, by go_num, hkn, HP.out.1, HP.out.2.1, HP.out.2.2.1, HSk.out⟩, by simp [intOf]; omega⟩
                                              case' true =>
                                                have hyes : ∀ t, hitW i F (k, t) = true := fun t => by rw [HP.out.2.2.2.2.1, hbc, Bool.or_true]
                                                subst hbc
                                            case' isTrue =>
                                              have hyes : ∀ t, hitW i F (k, t) = true := fun t => by rw [HP.out.2.2.2.2.1, decide_eq_true hax]; rfl
                                              have e2 : ((k : Int) == (i : Int)) = true := by rw [hax]; exact beq_self_eq_true _
                                              clear hax
                                            all_goals
                                              have HY := Lib.hid hyes
                                              clear hyes
                                              by_cases hjq : j < q
                                              · have j0 : (0 : Int) ≤ j := by omega
                                                have j1 : (j : Int) < q := by omega
                                                obtain ⟨ag, s, rfl, hs, cs⟩ := HP.out.2.2.2.2.2.2.1.at9.2.2.2 j hjq
                                                have HC := Lib.hid (HG.out wr s HP.out.1)
                                                have hje : j < (eG g k).length := by rw [HP.out.2.2.2.2.2.1]; exact hjq
                                                obtain ⟨t, ht⟩ : ∃ t, (eG g k)[j]? = some t := ⟨_, List.getElem?_eq_getElem hje⟩
                                                have hway := wyG_get (by rw [H.out.2.2.1]; exact hkn) ht
                                                have htn := (HOk.out _ (List.mem_of_getElem? hway)).2
                                                dsimp only at htn
                                                have hzt : ixI (gN g) s = (t : Nat) := by
                                                  rw [HB.out.2.2.1, List.getElem?_map, hs] at ht
                                                  have h1 : (ixI (gN g) s).toNat = t := Option.some.inj ht
                                                  have h2 : 0 ≤ ixI (gN g) s := by
                                                    have h3 := H5.out.2 k hkn
                                                    refine Classical.byContradiction fun hneg => ?_
                                                    rw [non_g HB.out.1 hs (by omega)] at h3
                                                    cases h3
                                                  omega
                                                rw [hzt] at HC
                                                obtain ⟨SB, hSB⟩ : ∃ S, str s = S := ⟨_, rfl⟩
                                                rw [hSB] at cs HC
                                                have fz := HP.out.2.1.frz t
                                                have ct := HP.out.2.1.load (List.getElem?_eq_getElem (show t < F.length by rw [HP.out.2.2.1.len]; exact htn))
                                                obtain ⟨V2, hV2⟩ : ∃ y, wr.setCell ⟨bt, t, none⟩ (.bool true) = y := ⟨_, rfl⟩
                                                have hF2 : BolB bt (F.set t true) V2 := by rw [← hV2]; exact HP.out.2.1.set t true
                                                have hb2 : Below w0.heap.size w0 V2 := by rw [← hV2]; exact HP.out.1.setCell hbw _
                                                have H2x := Lib.hid (And.intro hb2 (And.intro hF2 (And.intro hway htn)))
                                                have t0 : (0 : Int) ≤ t := by omega
                                                have t1 : (t : Int) < n := by omega
                                                obtain ⟨bx, hbx⟩ : ∃ y, F[t]'(by rw [HP.out.2.2.1.len]; exact htn) = y := ⟨_, rfl⟩
                                                rw [hbx] at ct
                                                clear hbx hway hzt ht hs hSB hb2 hF2 hje
                                                go_wp2_with fail
                                                with_reducible refine HC.out.mono ?_
                                                rintro e w' ⟨rfl, rfl⟩
                                                go_wp2_with fail
                                                exact ⟨⟨j + 1, _, by go_num, by rw [HP.out.2.2.2.2.2.1]; exact hjq, H2x.out.1, H2x.out.2.1, HP.out.2.2.1.set (List.mem_of_getElem? H2x.out.2.2.1) (HY.out t), HP.out.2.2.2.1.yes H2x.out.2.2.1 (HY.out t) (by rw [HP.out.2.2.1.len]; exact H2x.out.2.2.2)⟩, by simp [intOf]; have := HP.out.2.2.2.2.2.1; omega⟩
                                              · have hje : q = j := by have := HP.out.2.2.2.2.2.2.2; have := HP.out.2.2.2.2.2.1; omega
                                                subst hje
                                                have j1 : ¬ (q : Int) < q := by omega
                                                go_wp2_with fail
                                                refine ⟨⟨k + 1, F, by go_num, hkn, HP.out.1, HP.out.2.1, HP.out.2.2.1, ?_⟩, by simp [intOf]; omega⟩
                                                rw [ofG_succ, HP.out.2.2.2.2.2.1]
                                                exact HP.out.2.2.2.1
                                        · obtain rfl : n = k := by omega
                                          have s1 : ¬ (n : Int) < n := by omega
                                          have HS := Lib.hid (And.intro hb (And.intro hF (And.intro hL hsw)))
                                          clear hb hF hL hsw
                                          go_wp2_with fail
                                          have h9 := HS.out.2.2.2
                                          rw [show ofG g n = (wyG g).length by rw [← ofG_all, H.out.2.2.1]] at h9
                                          exact ⟨⟨r + 1, F1, by go_num, by omega, HS.out.1, HS.out.2.1, HS.out.2.2.1, HK.out.2.2.2.next h9⟩, by simp [intOf]; omega⟩
                                    · obtain rfl : n + 1 = r := by omega
                                      have r1 : ¬ ((n : Int) + 1) ≤ n := by omega
                                      have hfull := HK.out.2.2.1.full (HK.out.2.2.2.done HK.out.2.2.1)
                                      have hget : F0[i]? = some (lopB g i) := by rw [hfull, ldT_get hin]; rfl
                                      have c9 := HK.out.2.1.load hget
                                      obtain ⟨y, hy⟩ : ∃ y, lopB g i = y := ⟨_, rfl⟩
                                      rw [hy] at c9
                                      have HY := Lib.hid hy
                                      clear hfull hget hy
                                      cases y with
                                      | true =>
                                        have hck : ckG g x = (i, 9) := ckG_lp H2.out H3.out H4.out H5.out.1 H6.out (fiN_hit (by rw [H.out.2.2.1]; exact hin) HY.out HV.out.1)
                                        obtain ⟨rfl, rfl⟩ : R1 = i ∧ R2 = 9 := by
                                          have h := HR.out.symm.trans hck
                                          injection h with h1 h2
                                          exact ⟨h1, h2⟩
                                        clear hck
                                        go_wp2_with fail
                                        go_ret2
                                        exact ⟨rfl, HK.out.1⟩
                                      | false =>
                                        go_wp2_with fail
                                        refine ⟨⟨i + 1, by go_num, hin, fun j hj => ?_, HK.out.1⟩, by simp [intOf]; omega⟩
                                        by_cases e : j = i
                                        · rw [e]; exact HY.out
                                        · exact HV.out.1 j (by omega)
                                · obtain rfl : n = i := by omega
                                  have q7 : ¬ (n : Int) < n := by omega
                                  have hck : ckG g x = (0, 0) := ckG_ok H2.out H3.out H4.out H5.out.1 H6.out (fiN_no (by rw [H.out.2.2.1]; exact hno))
                                  obtain ⟨rfl, rfl⟩ : R1 = 0 ∧ R2 = 0 := by
                                    have h := HR.out.symm.trans hck
                                    injection h with h1 h2
                                    exact ⟨h1, h2⟩
                                  have HB0 := Lib.hid hb
                                  clear hck hno hb
                                  go_wp2_with fail
                                  go_ret2
                                  exact ⟨rfl, HB0.out⟩
end Go.Proofs.YtkfnbapnkmlopaaDoor

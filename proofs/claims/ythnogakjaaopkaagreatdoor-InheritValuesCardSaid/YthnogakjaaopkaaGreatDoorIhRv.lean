/- Contract: the document's Value. -/
import Derived.Test.YthnogakjaaopkaaGreatDoorIhRe
import Derived.Deep.QuietTactic
import Derived.BigQuiet
import Derived.Deep.Cut
namespace Go.Proofs.YthnogakjaaopkaaGreatDoor
open Go.RowKit

/-- A value by the document's way, where nothing is too long. -/
theorem gotC_val {l : List MB} (h : ¬ Cyc (edg l)) {k : Tx} (hk : three k = false) {i : Nat} (hi : i < l.length) (hno : ¬ tooL l i) : (gotC (gotT l k i)).1 = valF (gotP l k i) ∧ (gotC (gotT l k i)).2.2.1 = (gotP l k i).isSome := by
  rw [← gotP_val h hk hi hno]
  cases hg : gotP l k i with
  | none => exact ⟨rfl, rfl⟩
  | some f =>
    have hl : f.2.2.length ≤ 4096 := by
      rcases Nat.lt_or_ge 4096 f.2.2.length with h1 | h1
      · exact absurd ((tooL_P h hi).2 ⟨_, _, hg, h1⟩) hno
      · exact h1
    have e : gotC (txA (some f)) = (f.2.2, f.1, true, false) := by
      unfold txA gotC
      simp only [Option.map_some]
      rw [if_neg (by omega)]
    rw [e]
    exact ⟨rfl, rfl⟩
/-- What the document's Value answers. -/
def VfE (l : List MB) (i : Int) (nm : Tx) (e : Ending) : Prop := match chkI l with
  | some q => e = .returned (.tuple #[.string { data := #[] }, .bool false, .int .i64 (q.2 : Nat)])
  | none => if 0 ≤ i ∧ i < l.length then e = .returned (.tuple #[.string (str (valF (gotP l nm i.toNat))), .bool (gotP l nm i.toNat).isSome, .int .i64 0]) else e = .returned (.tuple #[.string { data := #[] }, .bool false, .int .i64 5])
set_option maxRecDepth 100000 in
set_option maxHeartbeats 4000000 in
theorem refValue_any (v : Value) (l : List MB) (i : Int) (nm : Tx) (w : World) (hl : l.length ≤ 1000) (hf : ∀ b ∈ l, b.2.2.length ≤ 1000 ∧ ∀ f ∈ b.2.2, f.2.2.length ≤ 100000) (hv : RowB w v l) (_ : -9223372036854775808 ≤ i) (_ : i ≤ 9223372036854775807) :
    Calls Tryz.prog 17 #[v, .int .i64 i, .string (str nm)] w fun e w' => VfE l i nm e ∧ Below w.heap.size w w' := by
  obtain ⟨A, c, rfl, hr⟩ := hv.form
  obtain ⟨n, hn⟩ : ∃ n, l.length = n := ⟨_, rfl⟩
  have hCk := refCheckI_any (.slice A l.length c) l w hl hf hv
  have t1 : ((str nm).toList == [110, 97, 109, 101]) = (nm == nmN) := by rw [str_toList]
  have t2 : ((str nm).toList == [117, 115, 101]) = (nm == nmU) := by rw [str_toList]
  have t3 : ((str nm).toList == [114, 101, 103, 105, 115, 116, 101, 114]) = (nm == nmR) := by rw [str_toList]
  have h3 : three nm = (nm == nmN || nm == nmU || nm == nmR) := rfl
  rw [hn] at hr hl hCk ⊢
  have HR := Lib.hid (And.intro hr (And.intro hn hf))
  unfold CiE at hCk
  unfold VfE
  rw [hn]
  clear hr hv hn hf
  cases hc : chkI l with
  | some q =>
    rw [hc] at hCk
    dsimp only at hCk ⊢
    have hne := chk_ne hc
    obtain ⟨q1, hq1⟩ : ∃ x, q.1 = x := ⟨_, rfl⟩
    obtain ⟨q2, hq2⟩ : ∃ x, q.2 = x := ⟨_, rfl⟩
    rw [hq2] at hne
    rw [hq1, hq2] at hCk
    rw [hq2]
    have HCk := Lib.hid hCk
    have e1 : ((q2 : Int) == 0) = false := beq_eq_false_iff_ne.2 (by omega)
    have e2 : ¬ ((q2 : Int) = 0) := by omega
    clear hCk hq1 hq2 hne hc t1 t2 t3 h3
    go_enter Tryz.func17, Tryz.ntmps17
    go_wp2_with fail
    with_reducible refine HCk.out.mono ?_
    rintro e V ⟨rfl, hb⟩
    have HB := Lib.hid hb
    clear hb
    go_wp2_with fail
    refine bodyPost_ret (results_tmp3 rfl _ _ _) rfl ?_
    exact ⟨rfl, HB.out⟩
  | none =>
    rw [hc] at hCk
    dsimp only at hCk ⊢
    have HCk := Lib.hid hCk
    obtain ⟨hcy, hno⟩ := chk_none hc
    have HC := Lib.hid (And.intro hcy hno)
    clear hCk hc hcy hno
    by_cases h1 : i < 0
    · simp only [if_neg (show ¬ (0 ≤ i ∧ i < (n : Int)) by omega)]
      clear t1 t2 t3 h3
      go_enter Tryz.func17, Tryz.ntmps17
      go_wp2_with fail
      with_reducible refine HCk.out.mono ?_
      rintro e V ⟨rfl, hb⟩
      have HB := Lib.hid hb
      clear hb
      go_wp2_with fail
      refine bodyPost_ret (results_tmp3 rfl _ _ _) rfl ?_
      exact ⟨rfl, HB.out⟩
    · obtain ⟨k, rfl⟩ : ∃ k : Nat, i = k := ⟨i.toNat, by omega⟩
      by_cases h2 : k < n
      · simp only [if_pos (show 0 ≤ (k : Int) ∧ (k : Int) < (n : Int) by omega), Int.toNat_natCast]
        have hkl : k < l.length := by rw [HR.out.2.1]; exact h2
        have r0 : (0 : Int) ≤ k := by omega
        have r1 : (k : Int) < n := by omega
        have r2 : ¬ (k : Int) ≥ n := by omega
        obtain ⟨b, hbi⟩ : ∃ b, l[k]? = some b := ⟨_, List.getElem?_eq_getElem hkl⟩
        cases h3c : three nm with
        | true =>
          have hg : gotP l nm k = none := by rw [gotP_eq HC.out.1 nm hbi, if_pos h3c]
          rw [hg]
          have e0 : str (valF none) = { data := #[] } := rfl
          rw [e0]
          rw [h3c] at h3
          obtain ⟨b1, hb1⟩ : ∃ x, (nm == nmN) = x := ⟨_, rfl⟩
          obtain ⟨b2, hb2⟩ : ∃ x, (nm == nmU) = x := ⟨_, rfl⟩
          obtain ⟨b3, hb3⟩ : ∃ x, (nm == nmR) = x := ⟨_, rfl⟩
          rw [hb1] at t1
          rw [hb2] at t2
          rw [hb3] at t3
          rw [hb1, hb2, hb3] at h3
          generalize str nm = NM at *
          have H3 := Lib.hid h3
          clear hg h3 h3c hb1 hb2 hb3 e0 hbi hkl
          cases b1 with
          | true =>
            go_enter Tryz.func17, Tryz.ntmps17
            go_wp2_with fail
            with_reducible refine HCk.out.mono ?_
            rintro e V ⟨rfl, hb⟩
            have HB := Lib.hid hb
            clear hb
            go_wp2_with fail
            refine bodyPost_ret (results_tmp3 rfl _ _ _) rfl ?_
            exact ⟨rfl, HB.out⟩
          | false =>
            cases b2 with
            | true =>
              go_enter Tryz.func17, Tryz.ntmps17
              go_wp2_with fail
              with_reducible refine HCk.out.mono ?_
              rintro e V ⟨rfl, hb⟩
              have HB := Lib.hid hb
              clear hb
              go_wp2_with fail
              refine bodyPost_ret (results_tmp3 rfl _ _ _) rfl ?_
              exact ⟨rfl, HB.out⟩
            | false =>
              obtain rfl : b3 = true := H3.out.symm
              go_enter Tryz.func17, Tryz.ntmps17
              go_wp2_with fail
              with_reducible refine HCk.out.mono ?_
              rintro e V ⟨rfl, hb⟩
              have HB := Lib.hid hb
              clear hb
              go_wp2_with fail
              refine bodyPost_ret (results_tmp3 rfl _ _ _) rfl ?_
              exact ⟨rfl, HB.out⟩
        | false =>
          have hAl := fun W (h : RowB W (.slice A n c) l) => refAll_any (.slice A n c) l nm W (by rw [HR.out.2.1]; exact hl) (fun b hb => ⟨by have := (HR.out.2.2 b hb).1; omega, fun f hf => by have := (HR.out.2.2 b hb).2 f hf; omega⟩) h HC.out.1
          rw [HR.out.2.1] at hAl
          obtain ⟨hv1, hv2⟩ := gotC_val HC.out.1 h3c hkl (HC.out.2 k hkl)
          rw [← hv1, ← hv2]
          rw [h3c] at h3
          have h3' := h3.symm
          simp only [Bool.or_eq_false_iff] at h3'
          rw [h3'.1.1] at t1
          rw [h3'.1.2] at t2
          rw [h3'.2] at t3
          have HAl := Lib.hid hAl
          obtain ⟨NM, hNM⟩ : ∃ x, str nm = x := ⟨_, rfl⟩
          rw [hNM] at HAl t1 t2 t3 ⊢
          clear hAl hv1 hv2 h3 h3' h3c hbi hNM
          go_enter Tryz.func17, Tryz.ntmps17
          go_wp2_with fail
          with_reducible refine HCk.out.mono ?_
          rintro e V ⟨rfl, hb⟩
          have HB := Lib.hid hb
          clear hb
          go_wp2_with fail
          with_reducible refine (HAl.out _ (HR.out.1.below HB.out)).mono ?_
          rintro e W ⟨bo, rfl, hG, hb, _⟩
          have HB2 := Lib.hid (HB.out.trans (hb.mono HB.out.size))
          have hgi : ((List.range n).map fun i => gotC (gotT l nm i))[k]? = some (gotC (gotT l nm k)) := by
            rw [List.getElem?_map, List.getElem?_range h2]
            rfl
          obtain ⟨G, hGG⟩ : ∃ g, gotC (gotT l nm k) = g := ⟨_, rfl⟩
          rw [hGG] at hgi
          have g0 := hG.cell (c := 0) hgi (by decide) rfl
          have g1 := hG.cell (c := 1) hgi (by decide) rfl
          have g2 := hG.cell (c := 2) hgi (by decide) rfl
          have g3 := hG.cell (c := 3) hgi (by decide) rfl
          rw [Nat.add_zero] at g0
          have HGG := Lib.hid hGG
          obtain ⟨GT, GA, GI, GL⟩ := G
          dsimp only at g0 g1 g2 g3
          obtain ⟨GS, hGS⟩ : ∃ x, str GT = x := ⟨_, rfl⟩
          rw [hGS] at g0
          have HGS := Lib.hid hGS
          clear hb hG hgi hGG hGS
          go_upto_region 9 with fail
          go_quiet (fail)
          go_wp2_with fail
          refine bodyPost_ret (results_tmp3 rfl _ _ _) rfl ?_
          have hb9 : Below w.heap.size w ((W.alloc (.cells #[.string GS, .int .i64 GA, .bool GI, .bool GL] 79)).drewN nq) := (HB2.out.alloc HB2.out.size _).trans ((below_drewN _ _).mono (HB2.out.alloc HB2.out.size _).size)
          refine ⟨?_, hb9⟩
          rw [HGG.out]
          dsimp only
          rw [HGS.out]
          rfl
      · simp only [if_neg (show ¬ (0 ≤ (k : Int) ∧ (k : Int) < (n : Int)) by omega)]
        have h3 : ((k : Nat) : Int) ≥ n := by omega
        clear t1 t2 t3
        go_enter Tryz.func17, Tryz.ntmps17
        go_wp2_with fail
        with_reducible refine HCk.out.mono ?_
        rintro e V ⟨rfl, hb⟩
        have HB := Lib.hid hb
        clear hb
        go_wp2_with fail
        refine bodyPost_ret (results_tmp3 rfl _ _ _) rfl ?_
        exact ⟨rfl, HB.out⟩
end Go.Proofs.YthnogakjaaopkaaGreatDoor

/- Contracts: the document's Loop, Reach. -/
import Derived.Test.YthmklmilgcjmlaaDoorGrLd
namespace Go.Proofs.YthmklmilgcjmlaaDoor
open Go.RowKit

noncomputable def lpI (M : Wt) (n : Nat) : Int := match lpT M n with | some x => x | none => -1
theorem lpI_some {M : Wt} {n x : Nat} (h : lpT M n = some x) : lpI M n = x := by unfold lpI; rw [h]
theorem lpI_none {M : Wt} {n : Nat} (h : lpT M n = none) : lpI M n = -1 := by unfold lpI; rw [h]
open Classical in
theorem lpT_no {M : Wt} {n : Nat} (h : ∀ y, y < n → ¬ Wy (eM M) y y) : lpT M n = none := by
  unfold lpT
  rw [List.find?_eq_none]
  intro y hy
  have := h y (List.mem_range.1 hy)
  simp [this]
theorem ldT_len (M : Wt) (n x : Nat) : (ldT M n x).length = n := by unfold ldT; simp
open Classical in
theorem ldT_true {M : Wt} {n x j : Nat} (h : (ldT M n x)[j]? = some true) : Wy (eM M) x j := by
  by_cases hj : j < n
  · rw [ldT_get hj] at h
    exact of_decide_eq_true (Option.some.inj h)
  · rw [List.getElem?_eq_none (by rw [ldT_len]; omega)] at h
    cases h
open Classical in
theorem ldT_false {M : Wt} {n x j : Nat} (h : (ldT M n x)[j]? = some false) : ¬ Wy (eM M) x j := by
  by_cases hj : j < n
  · rw [ldT_get hj] at h
    exact of_decide_eq_false (Option.some.inj h)
  · rw [List.getElem?_eq_none (by rw [ldT_len]; omega)] at h
    cases h
set_option maxRecDepth 100000 in
set_option maxHeartbeats 2000000 in
theorem refLp_any (n : Nat) (v : Value) (M : Wt) (w : World) (hn : n ≤ 4096) (hM : Okw n M) (hv : RowW w v (cst M)) :
    Calls Tryd.prog 15 #[.int .i64 (n : Nat), v] w fun e w' => e = .returned (.int .i64 (lpI M n)) ∧ Below w.heap.size w w' := by
  have HV := Lib.hid (And.intro hM hv)
  obtain ⟨R, hR⟩ : ∃ R, lpI M n = R := ⟨_, rfl⟩
  rw [hR]
  have HR := Lib.hid hR
  clear hM hv hR
  go_enter Tryd.func15, Tryd.ntmps15
  go_wp2_with fail
  go_loopw [5] (fun xv wr => ∃ x : Nat, xv = .int .i64 x ∧ x ≤ n ∧ Below w.heap.size w wr ∧ ∀ y, y < x → ¬ Wy (eM M) y y) (fun xv _ => n - (intOf xv).toNat)
  case atStart => exact ⟨0, rfl, Nat.zero_le _, Below.refl _ _, fun y hy => by omega⟩
  case round =>
    obtain ⟨x, rfl, hx, hb, hno⟩ := hrel
    have HN := Lib.hid (And.intro hno hb)
    by_cases hxn : x < n
    · have q0 : (0 : Int) ≤ x := by omega
      have q1 : (x : Int) < n := by omega
      have HC := Lib.hid (refLd_any n v M x wr hn HV.out.1 hxn (HV.out.2.below hb))
      clear hno hb
      go_wp2_with fail
      with_reducible refine HC.out.mono ?_
      rintro e w4 ⟨bt, rfl, hF, hb4, _⟩
      obtain ⟨b, hbt⟩ : ∃ b, (ldT M n x)[x]? = some b := ⟨_, List.getElem?_eq_getElem (by rw [ldT_len]; exact hxn)⟩
      have c1 := hF.load hbt
      have HB := Lib.hid (And.intro hbt (HN.out.2.trans (hb4.mono HN.out.2.size)))
      clear hF hb4 hbt
      cases b with
      | true =>
        have hRx : R = x := by
          rw [← HR.out]
          exact lpI_some (lpT_of hxn (ldT_true HB.out.1) HN.out.1)
        subst hRx
        go_wp2_with fail
        go_ret
        exact ⟨rfl, HB.out.2⟩
      | false =>
        go_wp2_with fail
        refine ⟨⟨x + 1, by go_num, hxn, HB.out.2, fun y hy => ?_⟩, by simp [intOf]; omega⟩
        by_cases e : y = x
        · rw [e]; exact ldT_false HB.out.1
        · exact HN.out.1 y (by omega)
    · obtain rfl : n = x := by omega
      have hRx : R = -1 := by rw [← HR.out]; exact lpI_none (lpT_no hno)
      subst hRx
      clear hno hb
      go_wp2_with fail
      go_ret
      exact ⟨rfl, HN.out.2⟩
open Classical in
theorem rcT_split {M : Wt} {n x k : Nat} (hk : k < n) (h : k = x ∨ Wy (eM M) x k) : ((List.range (k + 1)).filter fun j => j == x || (ldT M n x)[j]? == some true) = ((List.range k).filter fun j => j == x || (ldT M n x)[j]? == some true) ++ [k] := by
  rw [List.range_succ, List.filter_append]
  congr 1
  have e : (k == x || (ldT M n x)[k]? == some true) = true := by
    rcases h with h | h
    · simp [h]
    · have e := ldT_get (M := M) (x := x) hk
      rw [decide_eq_true h] at e
      rw [e]
      simp
  simp [e]
theorem rcT_skip {M : Wt} {n x k : Nat} (hx : k ≠ x) (h : (ldT M n x)[k]? = some false) : ((List.range (k + 1)).filter fun j => j == x || (ldT M n x)[j]? == some true) = ((List.range k).filter fun j => j == x || (ldT M n x)[j]? == some true) := by
  rw [List.range_succ, List.filter_append]
  have e : (k == x || (ldT M n x)[k]? == some true) = false := by
    rw [h]
    simp [hx]
  simp [e]
theorem rcT_all (M : Wt) (n x : Nat) : ((List.range n).filter fun j => j == x || (ldT M n x)[j]? == some true) = rcT M n x := by
  unfold rcT
  refine List.filter_congr fun j hj => ?_
  rw [ldT_get (List.mem_range.1 hj)]
  congr 1
  cases h : @decide (Wy (eM M) x j) (Classical.propDecidable _) <;> rfl
set_option maxRecDepth 100000 in
set_option maxHeartbeats 2000000 in
theorem refRc_any (n : Nat) (v : Value) (M : Wt) (x : Nat) (w : World) (hn : n ≤ 4096) (hM : Okw n M) (hx : x < n) (hv : RowW w v (cst M)) :
    Calls Tryd.prog 20 #[.int .i64 (n : Nat), v, .int .i64 (x : Nat)] w fun e w' => ∃ o, e = .returned o ∧ RowN w' o (rcT M n x) ∧ Below w.heap.size w w' := by
  have HC := Lib.hid (refLd_any n v M x w hn hM hx hv)
  clear hM hv
  go_enter Tryd.func20, Tryd.ntmps20
  go_wp2_with fail
  with_reducible refine HC.out.mono ?_
  rintro e w4 ⟨bt, rfl, hF, hb4, hge⟩
  have HF := Lib.hid (And.intro hF (And.intro hb4 hge))
  clear hF hb4 hge
  go_wp2_with fail
  go_loopw [8, 9] (fun o kv wr => ∃ (k a : Nat) (L : List Nat), kv = .int .i64 k ∧ k ≤ n ∧ L = ((List.range k).filter fun j => j == x || (ldT M n x)[j]? == some true) ∧ L.length = a ∧ wr.ownsRow w4.heap.size 3 1 o a (L.map intC) ∧ Below w4.heap.size w4 wr) (fun _ kv _ => n - (intOf kv).toNat)
  case atStart => exact ⟨0, 0, [], rfl, Nat.zero_le _, rfl, rfl, World.ownsRow_nil _ _ _ _, Below.refl _ _⟩
  case round =>
    obtain ⟨k, a, L, rfl, hk, hL, ha, how, hbw⟩ := hrel
    have HA := Lib.hid (And.intro hL (And.intro ha (And.intro how hbw)))
    have HL := Lib.hid hL
    by_cases hkn : k < n
    · have q0 : (0 : Int) ≤ k := by omega
      have q1 : (k : Int) < n := by omega
      obtain ⟨b, hbt⟩ : ∃ b, (ldT M n x)[k]? = some b := ⟨_, List.getElem?_eq_getElem (by rw [ldT_len]; exact hkn)⟩
      have c1 := (HF.out.1.below hbw).load hbt
      have HB := Lib.hid hbt
      have hal : a ≤ k := by
        rw [← ha, hL]
        exact Nat.le_trans (List.length_filter_le _ _) (by simp)
      clear hL ha how hbw hbt
      have fin : ∀ (v' : Value) (w' : World), (k = x ∨ b = true) → w'.ownsRow w4.heap.size 3 1 v' (a + 1) (L.map intC ++ [.int .i64 (k : Nat)]) → ((List.range (k + 1)).filter fun j => j == x || (ldT M n x)[j]? == some true) = L ++ [k] ∧ w'.ownsRow w4.heap.size 3 1 v' (a + 1) ((L ++ [k]).map intC) := by
        intro v' w' hh ho
        constructor
        · rw [HL.out]
          refine rcT_split hkn (hh.imp id fun hb => ?_)
          have h9 := HB.out
          rw [hb] at h9
          exact ldT_true h9
        · rw [List.map_append, List.map_singleton]
          exact ho
      have FIN := Lib.hid fin
      clear fin
      rcases Nat.decEq k x with hkx | hkx
      case' isTrue =>
        have e2 : ((k : Int) == (x : Int)) = true := by rw [hkx]; exact beq_self_eq_true _
        have hh : k = x ∨ b = true := .inl hkx
      case' isFalse =>
        have e1 : ¬ ((k : Int) = x) := by omega
        have e2 : ((k : Int) == (x : Int)) = false := beq_eq_false_iff_ne.2 e1
        cases b
        case' false =>
          have HX := Lib.hid hkx
          clear hkx
          go_wp2_with fail
          exact ⟨⟨k + 1, a, L, by go_num, hkn, by rw [rcT_skip HX.out HB.out]; exact HL.out, HA.out.2.1, HA.out.2.2.1, HA.out.2.2.2⟩, by simp [intOf]; omega⟩
        case' true => have hh : k = x ∨ true = true := .inr rfl
      all_goals
        have HH := Lib.hid hh
        clear hh hkx
        have HO := Lib.hid HA.out.2.2.1
        go_wp2_with
          (at_builtin
           refine wpList_app rfl (.tmp 28) (.tmp 30) 30 rfl elN w4.heap.size u8 a (L.map intC) rfl (HO.out.alloc _) (some ⟨wr.heap.size, 0, none⟩) 1 1 [.int .i64 k] rfl rfl (Rd.block (MapKept.heap_alloc wr (.cells #[.int .i64 (k : Nat)] 3)).1) (fun u hu => by rw [List.mem_singleton.1 hu]; rfl) (by unfold maxLen; omega) (by omega) (by rw [World.size_alloc]; have := HA.out.2.2.2.size; omega) ?_
           intro v' w'' ho hg hob
           have HN2 := Lib.hid (And.intro ho (And.intro hg hob))
           clear ho hg hob)
        go_wp2_with fail
        have hf := FIN.out _ _ HH.out HN2.out.1
        exact ⟨⟨k + 1, a + 1, L ++ [k], by go_num, hkn, hf.1.symm, by rw [List.length_append, HA.out.2.1]; rfl, hf.2, (HA.out.2.2.2.alloc HA.out.2.2.2.size _).grown HN2.out.2.1 (by rw [World.size_alloc]; have := HA.out.2.2.2.size; omega) (fun k hk => (HO.out.lt k hk).1)⟩, by simp [intOf]; omega⟩
    · obtain rfl : n = k := by omega
      have q3 : ¬ ((n : Int) < n) := by omega
      have HV := Lib.hid (RowN.owned ha how)
      obtain ⟨A5, c5, hv5, h5⟩ := RowN.owned ha how
      subst hv5
      clear hL ha how hbw h5
      go_wp2_with fail
      go_ret
      refine ⟨_, rfl, ?_, HF.out.2.1.trans (HA.out.2.2.2.mono HF.out.2.1.size)⟩
      have e := HA.out.1.trans (rcT_all M n x)
      rw [← e]
      exact HV.out
end Go.Proofs.YthmklmilgcjmlaaDoor

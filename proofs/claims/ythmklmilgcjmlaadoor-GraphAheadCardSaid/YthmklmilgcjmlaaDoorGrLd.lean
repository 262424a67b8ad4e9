/- Contract: the document's leads. -/
import Derived.Test.YthmklmilgcjmlaaDoorGrMem
namespace Go.Proofs.YthmklmilgcjmlaaDoor
open Go.RowKit

set_option maxRecDepth 100000 in
set_option maxHeartbeats 2000000 in
theorem refLd_any (n : Nat) (v : Value) (M : Wt) (x : Nat) (w : World) (hn : n ≤ 4096) (hM : Okw n M) (_ : x < n) (hv : RowW w v (cst M)) :
    Calls Tryd.prog 28 #[.int .i64 (n : Nat), v, .int .i64 (x : Nat)] w fun e w' => ∃ bt, e = .returned (.slice (some ⟨bt, 0, none⟩) n n) ∧ BolB bt (ldT M n x) w' ∧ Below w.heap.size w w' ∧ w.heap.size ≤ bt := by
  obtain ⟨A, c, rfl, hr⟩ := hv.form
  obtain ⟨m, hm⟩ : ∃ m, M.length = m := ⟨_, rfl⟩
  have hm9 : m ≤ 9223372036854775807 := by
    have h1 := hr.parts.2.1
    have h2 := hr.parts.2.2.1
    unfold maxLen at h2
    rw [cst_len, hm] at h1
    omega
  rw [cst_len, hm] at hr ⊢
  obtain ⟨bt, hbt⟩ : ∃ x, w.heap.size = x := ⟨_, rfl⟩
  obtain ⟨V1, hV1⟩ : ∃ x, w.alloc (.cells ((List.replicate n false).map Value.bool).toArray 4) = x := ⟨_, rfl⟩
  have hmb : (Instr.makeSlice 51 (.int .i64 (n : Nat)) (.int .i64 (n : Nat))).run Tryd.prog w = .ok (.slice (some ⟨bt, 0, none⟩) n n) V1 := by
    have h := run_mk (P := Tryd.prog) elBo (n : Nat) (n : Nat) (by omega) (Int.le_refl _) (by omega) (by omega) w
    rw [h, ← hV1, ← hbt]
    congr 3
    rw [Int.toNat_natCast]
    apply Array.toList_inj.1
    have h2 := toList_madeCells_one (Value.bool false) n
    rw [show (Value.bool false : Value).cells = #[Value.bool false] from rfl, h2, List.map_replicate]
  have hK1 : BolB bt (List.replicate n false) V1 := by
    have h := (MapKept.heap_alloc w (.cells ((List.replicate n false).map Value.bool).toArray 4)).1
    rw [hbt, hV1] at h
    exact h
  have hb1 : Below w.heap.size w V1 := by rw [← hV1]; exact (Below.refl _ _).alloc (Nat.le_refl _) _
  have H1 := Lib.hid (And.intro hb1 (And.intro hK1 (And.intro hr (And.intro hm (And.intro hM hbt)))))
  have q0 : (0 : Int) ≤ n := by omega
  have qx : (0 : Int) ≤ x := by omega
  clear hb1 hK1 hr hv hV1 hM hm hbt
  go_enter Tryd.func28, Tryd.ntmps28
  go_wp2_with fail
  clear hmb
  go_loopw [8] (fun kv wr => ∃ (k : Nat) (F : List Bool), kv = .int .i64 k ∧ k ≤ n + 1 ∧ Below w.heap.size w wr ∧ BolB bt F wr ∧ Ldr M n x F ∧ Fry M x k F) (fun kv _ => n + 1 - (intOf kv).toNat)
  case atStart => exact ⟨0, _, rfl, by omega, H1.out.1, H1.out.2.1, Ldr.init M n x, Fry.init M x _⟩
  case round =>
    obtain ⟨k, F0, rfl, hk, hb, hF, hL, hfr⟩ := hrel
    have HK := Lib.hid (And.intro hb (And.intro hF (And.intro hL hfr)))
    clear hb hF hL hfr
    by_cases hkn : k ≤ n
    · have q1 : (k : Int) ≤ n := by omega
      go_wp2_with fail
      go_loopw [9] (fun iv wr => ∃ (i : Nat) (F : List Bool), iv = .int .i64 i ∧ i ≤ m ∧ Below w.heap.size w wr ∧ BolB bt F wr ∧ Ldr M n x F ∧ Swn M x F0 i F) (fun iv _ => m - (intOf iv).toNat)
      case atStart => exact ⟨0, F0, rfl, Nat.zero_le _, HK.out.1, HK.out.2.1, HK.out.2.2.1, Swn.init _ _ _⟩
      case round =>
        obtain ⟨i, F, rfl, hi, hb, hF, hL, hsw⟩ := hrel
        by_cases him : i < m
        · have s0 : (0 : Int) ≤ i := by omega
          have s1 : (i : Int) < m := by omega
          have hil : i < M.length := by rw [H1.out.2.2.2.1]; exact him
          obtain ⟨p, hp⟩ : ∃ p, M[i]? = some p := ⟨_, List.getElem?_eq_getElem hil⟩
          have hpm : p ∈ M := List.mem_of_getElem? hp
          obtain ⟨ad, X, rfl, hX, k0, k1⟩ := (H1.out.2.2.1.below hb).parts.2.2.2 i him _ (cst_get hp)
          obtain ⟨hp1, hp2⟩ := H1.out.2.2.2.2.1 p hpm
          dsimp only at k0 k1
          have c1 := hF.load (k := p.1) (List.getElem?_eq_getElem (by rw [hL.len]; exact hp1))
          have c2 := hF.load (k := p.2) (List.getElem?_eq_getElem (by rw [hL.len]; exact hp2))
          have fz := hF.frz p.2
          obtain ⟨b1, hb1⟩ : ∃ y, F[p.1]'(by rw [hL.len]; exact hp1) = y := ⟨_, rfl⟩
          obtain ⟨b2, hb2⟩ : ∃ y, F[p.2]'(by rw [hL.len]; exact hp2) = y := ⟨_, rfl⟩
          rw [hb1] at c1
          rw [hb2] at c2
          have hhit : hitW x F p = (decide (p.1 = x) || b1) := by
            unfold hitW
            have e : F[p.1]? = some b1 := by rw [List.getElem?_eq_getElem (by rw [hL.len]; exact hp1), hb1]
            rw [e]
            have e3 : (some b1 == some true) = b1 := by cases b1 <;> rfl
            have e4 : (p.1 == x) = decide (p.1 = x) := rfl
            rw [e3, e4]
          have HP := Lib.hid (And.intro hb (And.intro hF (And.intro hL (And.intro hsw (And.intro hp hhit)))))
          have hp2F : p.2 < F.length := by rw [hL.len]; exact hp2
          have HP2 := Lib.hid (And.intro hpm hp2F)
          obtain ⟨a1, ha1⟩ : ∃ y, p.1 = y := ⟨_, rfl⟩
          obtain ⟨a2, ha2⟩ : ∃ y, p.2 = y := ⟨_, rfl⟩
          rw [ha1] at k0 c1 hp1
          rw [ha2] at k1 c2 hp2 fz
          have HA := Lib.hid (And.intro ha1 ha2)
          have z0 : (0 : Int) ≤ a1 := by omega
          have z1 : (a1 : Int) < n := by omega
          have z2 : (0 : Int) ≤ a2 := by omega
          have z3 : (a2 : Int) < n := by omega
          clear hb hF hL hsw hp hpm hhit hb1 hb2 hil hp2F ha1 ha2
          rcases Nat.decEq a1 x with hax | hax
          case' isFalse =>
            have e1 : ¬ ((a1 : Int) = x) := by omega
            have e2 : ((a1 : Int) == (x : Int)) = false := beq_eq_false_iff_ne.2 e1
            cases hbc : b1
            case' false =>
              have hno : hitW x F p = false := by rw [HP.out.2.2.2.2.2, HA.out.1, decide_eq_false hax, hbc]; rfl
              have HN := Lib.hid hno
              subst hbc
              clear hno
              go_wp2_with fail
              exact ⟨⟨i + 1, F, by go_num, him, HP.out.1, HP.out.2.1, HP.out.2.2.1, HP.out.2.2.2.1.no HP.out.2.2.2.2.1 HN.out⟩, by simp [intOf]; omega⟩
            case' true =>
              have hyes : hitW x F p = true := by rw [HP.out.2.2.2.2.2, hbc, Bool.or_true]
              subst hbc
          case' isTrue =>
            have hyes : hitW x F p = true := by rw [HP.out.2.2.2.2.2, HA.out.1, decide_eq_true hax]; rfl
            have e2 : ((a1 : Int) == (x : Int)) = true := by rw [hax]; exact beq_self_eq_true _
            have e1 : (a1 : Int) = x := by rw [hax]
            clear hax
          all_goals
            have HY := Lib.hid hyes
            obtain ⟨V2, hV2⟩ : ∃ x, wr.setCell ⟨bt, a2, none⟩ (.bool true) = x := ⟨_, rfl⟩
            have hF2 : BolB bt (F.set p.2 true) V2 := by rw [← hV2, HA.out.2]; exact HP.out.2.1.set a2 true
            have hb2 : Below w.heap.size w V2 := by rw [← hV2]; exact HP.out.1.setCell (by show _ ≤ bt; rw [H1.out.2.2.2.2.2]; exact Nat.le_refl _) _
            have H2 := Lib.hid (And.intro hb2 hF2)
            clear hF2 hb2 hyes
            go_wp2_with fail
            exact ⟨⟨i + 1, _, by go_num, him, H2.out.1, H2.out.2, HP.out.2.2.1.set HP2.out.1 HY.out, HP.out.2.2.2.1.yes HP.out.2.2.2.2.1 HY.out HP2.out.2⟩, by simp [intOf]; omega⟩
        · obtain rfl : m = i := by omega
          have HP := Lib.hid (And.intro hb (And.intro hF (And.intro hL hsw)))
          clear hb hF hL hsw
          go_wp2_with fail
          have hsl := HP.out.2.2.2
          rw [← H1.out.2.2.2.1] at hsl
          exact ⟨⟨k + 1, F, by go_num, by omega, HP.out.1, HP.out.2.1, HP.out.2.2.1, HK.out.2.2.2.next hsl⟩, by simp [intOf]; omega⟩
    · have q1 : ¬ (k : Int) ≤ n := by omega
      obtain rfl : n + 1 = k := by omega
      go_wp2_with fail
      go_ret
      refine ⟨bt, rfl, ?_, HK.out.1, Nat.le_of_eq H1.out.2.2.2.2.2⟩
      rw [← HK.out.2.2.1.full (HK.out.2.2.2.done HK.out.2.2.1)]
      exact HK.out.2.1
end Go.Proofs.YthmklmilgcjmlaaDoor

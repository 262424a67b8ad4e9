/- Contracts: the document's Int, Flag. -/
import Derived.Test.YtencapplbedcmaaGreatDoorVaInt
import Derived.Test.YtencapplbedcmaaGreatDoorVaR1
namespace Go.Proofs.YtencapplbedcmaaGreatDoor
open Go.RowKit

/-- How the document's Int ends. -/
def RiE (R : Int × Nat) (w : World) (e : Ending) (w' : World) : Prop := e = .returned (.tuple #[.int .i64 R.1, .int .i64 (R.2 : Nat)]) ∧ w = w'
theorem riE_of {R : Int × Nat} {w : World} {v j : Int} {k : Nat} (hR : R = (v, k)) (hj : j = k) : RiE R w (.returned (.tuple #[.int .i64 v, .int .i64 j])) w := by
  subst hR
  subst hj
  exact ⟨rfl, rfl⟩
theorem dg_int (y : UInt8) : (dgB y = true ∧ (48 : Int) ≤ y.toNat ∧ (y.toNat : Int) ≤ 57) ∨ (dgB y = false ∧ (y.toNat : Int) < 48) ∨ (dgB y = false ∧ ¬ (y.toNat : Int) < 48 ∧ (57 : Int) < y.toNat) := by
  unfold dgB
  by_cases h1 : 48 ≤ y.toNat
  · by_cases h2 : y.toNat ≤ 57
    · exact .inl ⟨by rw [decide_eq_true h1, decide_eq_true h2]; rfl, by omega, by omega⟩
    · exact .inr (.inr ⟨by rw [decide_eq_false h2, Bool.and_false], by omega, by omega⟩)
  · exact .inr (.inl ⟨by rw [decide_eq_false h1, Bool.false_and], by omega⟩)
theorem dec_next {d : Tx} {i nn : Nat} (hi : i < d.length) (h : Lib.decFrom 0 (d.take i) = some nn) (hg : dgB d[i] = true) : Lib.decFrom 0 (d.take (i + 1)) = some (nn * 10 + (d[i].toNat - 48)) := by
  rw [List.take_succ_eq_append_getElem hi, decFrom_app, h, Option.bind_some, Lib.decFrom, digit_some hg]
  rfl
theorem all_next {d : Tx} {i : Nat} (hi : i < d.length) (h : (d.take i).all dgB = true) (hg : dgB d[i] = true) : (d.take (i + 1)).all dgB = true := by
  rw [List.take_succ_eq_append_getElem hi, List.all_append, h]
  simp [hg]
theorem all_bad {d : Tx} {i : Nat} (hi : i < d.length) (hg : dgB d[i] = false) : d.all dgB = false := by
  rw [List.all_eq_false]
  exact ⟨d[i], List.getElem_mem hi, by rw [hg]; simp⟩
/-- What a text that has the form of a number is. -/
theorem int_form2 {s d : Tx} {lo hi : Int} {m : Bool} (hs : s ≠ []) (hm : (s.head? == some 45) = m) (hd : (if m = true then s.tail else s) = d) (hne : d ≠ []) (hl : s.length ≤ 19) (hf : ¬ (d.head? = some 48 ∧ (1 < d.length ∨ m = true))) :
    (d.all dgB = false → intT s lo hi = (0, 3)) ∧ ∀ n, Lib.decFrom 0 d = some n → intT s lo hi = if 9223372036854775807 < n then (0, 5) else if (if m = true then -(n : Int) else (n : Int)) < lo ∨ hi < (if m = true then -(n : Int) else (n : Int)) then (0, 5) else (if m = true then -(n : Int) else (n : Int), 0) := by
  have hform : ¬ (d = [] ∨ 19 < s.length ∨ (d.head? = some 48 ∧ (1 < d.length ∨ m = true))) := by
    rintro (h | h | h)
    · exact hne h
    · omega
    · exact hf h
  have hint : intT s lo hi = match Lib.decFrom 0 d with
      | none => (0, 3)
      | some n => if 9223372036854775807 < n then (0, 5) else if (if m = true then -(n : Int) else (n : Int)) < lo ∨ hi < (if m = true then -(n : Int) else (n : Int)) then (0, 5) else (if m = true then -(n : Int) else (n : Int), 0) := by
    unfold intT
    rw [if_neg hs]
    simp only [hm, hd]
    rw [if_neg hform]
    cases Lib.decFrom 0 d <;> rfl
  refine ⟨fun h => ?_, fun n h => ?_⟩
  · rw [hint, dec_none d 0 h]
  · rw [hint, h]
theorem int_bad2 {s d : Tx} {lo hi : Int} {m : Bool} (hs : s ≠ []) (hm : (s.head? == some 45) = m) (hd : (if m = true then s.tail else s) = d) (h : d = [] ∨ 19 < s.length ∨ (d.head? = some 48 ∧ (1 < d.length ∨ m = true))) : intT s lo hi = (0, 3) := by
  unfold intT
  rw [if_neg hs]
  simp only [hm, hd]
  rw [if_pos h]
set_option maxHeartbeats 2000000 in
set_option maxRecDepth 100000 in
theorem refInt_minus (d : Tx) (lo hi : Int) (w : World) (hl : d.length ≤ 1000000) : Calls Tryz.prog 10 #[.string (str (45 :: d)), .int .i64 lo, .int .i64 hi] w (RiE (intT (45 :: d) lo hi) w) := by
  obtain ⟨R, hR⟩ : ∃ R, intT (45 :: d) lo hi = R := ⟨_, rfl⟩
  rw [hR]
  obtain ⟨k, hk⟩ : ∃ k, d.length = k := ⟨_, rfl⟩
  obtain ⟨S, hS, hsz, hx, hc⟩ := cons_facts 45 d k hk
  have t0 : S.toList.isEmpty = false := by rw [← hS, str_toList]; rfl
  have hs : ((45 : UInt8) :: d) ≠ [] := by simp
  have hm : (((45 : UInt8) :: d).head? == some 45) = true := by simp
  have hd : (if true = true then ((45 : UInt8) :: d).tail else 45 :: d) = d := rfl
  rw [hS]
  by_cases h1 : d = []
  · have HR : Hid (R = (0, 3)) := by unfold Hid; rw [← hR, int_bad2 hs hm hd (.inl h1)]
    subst h1
    have e0 : str ([] : Tx) = { data := #[] } := rfl
    rw [e0] at hc
    have hk0 : k = 0 := hk.symm
    subst hk0
    clear hR hs hm hd hl hk hS e0
    go_enter Tryz.func10, Tryz.ntmps10
    go_wp2_with fail
    go_ret2
    exact riE_of HR.out rfl
  · have hsD : (str d).size = k := hk
    have t1 : (str d).toList.isEmpty = false := by rw [str_toList]; simpa using h1
    by_cases h2 : 18 < k
    · have HR : Hid (R = (0, 3)) := by unfold Hid; rw [← hR, int_bad2 hs hm hd (.inr (.inl (by rw [List.length_cons, hk]; omega)))]
      have b1 : (18 : Int) < k := by omega
      have b2 : (19 : Int) < (k : Int) + 1 := by omega
      have b3 : (k : Int) ≤ 1000000 := by omega
      generalize str d = D at *
      clear hR hs hm hd hl hk hS h1 h2
      go_enter Tryz.func10, Tryz.ntmps10
      go_wp2_with fail
      go_ret2
      exact riE_of HR.out rfl
    · have b2 : ¬ (19 : Int) < (k : Int) + 1 := by omega
      have b3 : (k : Int) ≤ 18 := by omega
      obtain ⟨y, d2, rfl⟩ := List.exists_cons_of_ne_nil h1
      have hy0 : ∃ h : 0 < (str (y :: d2)).size, (str (y :: d2))[0] = y := ⟨by rw [hsD, ← hk]; simp, rfl⟩
      obtain ⟨hz0, hy0⟩ := hy0
      have hkp : 0 < k := by rw [← hk]; simp
      by_cases h3 : y = 48
      · subst h3
        have HR : Hid (R = (0, 3)) := by unfold Hid; rw [← hR, int_bad2 hs hm hd (.inr (.inr ⟨rfl, .inr rfl⟩))]
        generalize str (48 :: d2) = D at *
        by_cases h4 : 1 < k
        · have b4 : (1 : Int) < k := by omega
          clear hR hs hm hd hl hk hS h1 h4
          go_enter Tryz.func10, Tryz.ntmps10
          go_wp2_with fail
          go_ret2
          exact riE_of HR.out rfl
        · have b4 : ¬ (1 : Int) < k := by omega
          clear hR hs hm hd hl hk hS h1 h4
          go_enter Tryz.func10, Tryz.ntmps10
          go_wp2_with fail
          go_ret2
          exact riE_of HR.out rfl
      · have e3 : ((y.toNat : Int) == 48) = false := by
          rw [beq_eq_false_iff_ne]
          intro h
          exact h3 (UInt8.toNat_inj.1 (by have : (48 : UInt8).toNat = 48 := rfl; omega))
        have hF := int_form2 (lo := lo) (hi := hi) hs hm hd h1 (by rw [List.length_cons, hk]; omega) (by rintro ⟨h, _⟩; exact h3 (by simpa using h))
        have HB : Hid (∀ i, i < k → ∃ (x : UInt8) , (∃ h : i < (y :: d2).length, (y :: d2)[i] = x) ∧ (∃ h : i < (str (y :: d2)).size, (str (y :: d2))[i] = x)) := fun i hi => ⟨(y :: d2)[i]'(by rw [hk]; exact hi), ⟨_, rfl⟩, ⟨by rw [hsD]; exact hi, rfl⟩⟩
        rw [hR] at hF
        have HF := Lib.hid hF
        have HK := Lib.hid hk
        clear hR hs hm hd hl hk hS h1 hF h3
        generalize y :: d2 = d at *
        generalize str d = D at *
        go_enter Tryz.func10, Tryz.ntmps10
        go_wp2_with fail
        go_loop [10] (fun v => ∃ i : Nat, v = .int .i64 i ∧ i ≤ k ∧ (d.take i).all dgB = true) (fun v => k - (intOf v).toNat)
        case atStart => exact ⟨0, rfl, Nat.zero_le _, rfl⟩
        case round =>
          obtain ⟨i, rfl, hi, hall⟩ := hrel
          have HAll := Lib.hid hall
          clear hall
          rcases Nat.lt_or_ge i k with hlt | hge
          · have q0 : (0 : Int) ≤ i := by omega
            have q1 : (i : Int) < k := by omega
            obtain ⟨y, ⟨_, hy1⟩, ⟨_, hy2⟩⟩ := HB.out i hlt
            have HY := Lib.hid hy1
            clear hy1
            rcases dg_int y with ⟨g0, g1, g2⟩ | ⟨g0, g1⟩ | ⟨g0, g1, g2⟩
            · have HG := Lib.hid g0
              have g3 : ¬ (y.toNat : Int) < 48 := by omega
              have g4 : ¬ (57 : Int) < y.toNat := by omega
              clear g0
              go_wp2_with fail
              go_round
              case rel => exact ⟨i + 1, by go_num, hlt, all_next (by rw [HK.out]; exact hlt) HAll.out (by rw [HY.out]; exact HG.out)⟩
              case measure => simp [intOf]; omega
            · have HR : Hid (R = (0, 3)) := HF.out.1 (all_bad (by rw [HK.out]; exact hlt) (by rw [HY.out]; exact g0))
              clear g0
              go_wp2_with fail
              go_ret2
              exact riE_of HR.out rfl
            · have HR : Hid (R = (0, 3)) := HF.out.1 (all_bad (by rw [HK.out]; exact hlt) (by rw [HY.out]; exact g0))
              clear g0
              go_wp2_with fail
              go_ret2
              exact riE_of HR.out rfl
          · obtain rfl : i = k := by omega
            have q1 : ¬ ((i : Int) < i) := by omega
            have hall : d.all dgB = true := by
              have h := HAll.out
              rwa [List.take_of_length_le (by rw [HK.out]; exact Nat.le_refl _)] at h
            have HAl := Lib.hid hall
            clear hall HAll hge hi
            go_wp2_with fail
            go_loop [11, 12] (fun a v => ∃ j nn : Nat, v = .int .i64 j ∧ a = .int .u64 nn ∧ j ≤ i ∧ Lib.decFrom 0 (d.take j) = some nn ∧ nn < 10 ^ j) (fun _ v => i - (intOf v).toNat)
            case atStart => exact ⟨0, 0, rfl, rfl, Nat.zero_le _, rfl, by decide⟩
            case round =>
              obtain ⟨j, nn, rfl, rfl, hj, hdec, hnn⟩ := hrel
              have HDec := Lib.hid hdec
              clear hdec
              rcases Nat.lt_or_ge j i with hlt | hge
              · have q0 : (0 : Int) ≤ j := by omega
                have q2 : (j : Int) < i := by omega
                obtain ⟨y, ⟨_, hy1⟩, ⟨_, hy2⟩⟩ := HB.out j hlt
                have HY := Lib.hid hy1
                have hg : dgB y = true := by
                  have := List.all_eq_true.1 HAl.out y (by rw [← hy1]; exact List.getElem_mem _)
                  exact this
                have hdn := dec_next (by rw [HK.out]; exact hlt) HDec.out (by rw [hy1]; exact hg)
                rw [hy1] at hdn
                have HDn := Lib.hid hdn
                have hp : 10 ^ (j + 1) ≤ 10 ^ 19 := Nat.pow_le_pow_right (by decide) (by omega)
                have hps : 10 ^ (j + 1) = 10 ^ j * 10 := Nat.pow_succ _ _
                have e19 : (10 : Nat) ^ 19 = 10000000000000000000 := by decide
                have hnn2 : (nn : Int) ≤ 999999999999999999 := by omega
                have hnn0 : (0 : Int) ≤ nn := by omega
                have HP : Hid (nn * 10 + 9 < 10 ^ (j + 1)) := by unfold Hid; omega
                rcases dg_int y with ⟨_, g1, g2⟩ | ⟨g0, _⟩ | ⟨g0, _, _⟩
                · clear hy1 hg hdn hp hps e19 hnn
                  go_wp2_with fail
                  go_round
                  case rel => exact ⟨j + 1, nn * 10 + (y.toNat - 48), by go_num, by go_num, hlt, HDn.out, by have := HP.out; omega⟩
                  case measure => simp [intOf]; omega
                · rw [hg] at g0
                  cases g0
                · rw [hg] at g0
                  cases g0
              · obtain rfl : j = i := by omega
                have q2 : ¬ ((j : Int) < j) := by omega
                have hd2 : Lib.decFrom 0 d = some nn := by
                  have h := HDec.out
                  rwa [List.take_of_length_le (by rw [HK.out]; exact Nat.le_refl _)] at h
                obtain ⟨N, hN⟩ : ∃ N, nn = N := ⟨_, rfl⟩
                subst hN
                have HRR := Lib.hid (HF.out.2 nn hd2)
                have hp : 10 ^ j ≤ 10 ^ 19 := Nat.pow_le_pow_right (by decide) (by omega)
                have e19 : (10 : Nat) ^ 19 = 10000000000000000000 := by decide
                have hnb : (nn : Int) ≤ 10000000000000000000 := by omega
                have hn0 : (0 : Int) ≤ nn := by omega
                clear hd2 hp e19 hnn HDec hge hj
                by_cases hbig : 9223372036854775807 < nn
                · have HR : Hid (R = (0, 5)) := by unfold Hid; rw [HRR.out, if_pos hbig]
                  have b1 : (9223372036854775807 : Int) < nn := by omega
                  clear hbig HRR
                  go_wp2_with fail
                  go_ret2
                  exact riE_of HR.out rfl
                · have b1 : ¬ (9223372036854775807 : Int) < nn := by omega
                  have b2 : (nn : Int) ≤ 9223372036854775807 := by omega
                  have HRV : Hid (R = if -(nn : Int) < lo ∨ hi < -(nn : Int) then (0, 5) else (-(nn : Int), 0)) := by
                    unfold Hid
                    rw [HRR.out, if_neg hbig]
                    rfl
                  clear hbig HRR
                  by_cases c1 : -(nn : Int) < lo
                  · have HR : Hid (R = (0, 5)) := by unfold Hid; rw [HRV.out, if_pos (.inl c1)]
                    go_wp2_with fail
                    go_ret2
                    exact riE_of HR.out rfl
                  · by_cases c2 : hi < -(nn : Int)
                    · have HR : Hid (R = (0, 5)) := by unfold Hid; rw [HRV.out, if_pos (.inr c2)]
                      go_wp2_with fail
                      go_ret2
                      exact riE_of HR.out rfl
                    · have HR : Hid (R = (-(nn : Int), 0)) := by unfold Hid; rw [HRV.out, if_neg (by omega)]
                      go_wp2_with fail
                      go_ret2
                      exact riE_of HR.out rfl
set_option maxHeartbeats 2000000 in
set_option maxRecDepth 100000 in
theorem refInt_plain (y : UInt8) (d2 : Tx) (lo hi : Int) (w : World) (hy : y ≠ 45) (hl : (y :: d2).length ≤ 1000000) : Calls Tryz.prog 10 #[.string (str (y :: d2)), .int .i64 lo, .int .i64 hi] w (RiE (intT (y :: d2) lo hi) w) := by
  obtain ⟨R, hR⟩ : ∃ R, intT (y :: d2) lo hi = R := ⟨_, rfl⟩
  rw [hR]
  obtain ⟨k, hk⟩ : ∃ k, (y :: d2).length = k := ⟨_, rfl⟩
  have hsD : (str (y :: d2)).size = k := hk
  have t1 : (str (y :: d2)).toList.isEmpty = false := by rw [str_toList]; rfl
  have hs : (y :: d2) ≠ [] := by simp
  have hm : ((y :: d2).head? == some 45) = false := by simpa using hy
  have hd : (if false = true then (y :: d2).tail else y :: d2) = y :: d2 := rfl
  have e0 : ((y.toNat : Int) == 45) = false := by
    rw [beq_eq_false_iff_ne]
    intro h
    exact hy (UInt8.toNat_inj.1 (by have : (45 : UInt8).toNat = 45 := rfl; omega))
  have hy0 : ∃ h : 0 < (str (y :: d2)).size, (str (y :: d2))[0] = y := ⟨by rw [hsD, ← hk]; simp, rfl⟩
  obtain ⟨hz0, hy0⟩ := hy0
  have hkp : 0 < k := by rw [← hk]; simp
  by_cases h2 : 19 < k
  · have HR : Hid (R = (0, 3)) := by unfold Hid; rw [← hR, int_bad2 hs hm hd (.inr (.inl (by rw [hk]; exact h2)))]
    have b2 : (19 : Int) < k := by omega
    have b3 : (k : Int) ≤ 1000000 := by omega
    generalize str (y :: d2) = D at *
    clear hR hs hm hd hl hk h2
    go_enter Tryz.func10, Tryz.ntmps10
    go_wp2_with fail
    go_ret2
    exact riE_of HR.out rfl
  · have b2 : ¬ (19 : Int) < k := by omega
    have b3 : (k : Int) ≤ 19 := by omega
    by_cases h34 : y = 48 ∧ 1 < k
    · obtain ⟨h3, h4⟩ := h34
      subst h3
      have HR : Hid (R = (0, 3)) := by unfold Hid; rw [← hR, int_bad2 hs hm hd (.inr (.inr ⟨rfl, .inl (by rw [hk]; exact h4)⟩))]
      have b4 : (1 : Int) < k := by omega
      generalize str (48 :: d2) = D at *
      clear hR hs hm hd hl hk h4
      go_enter Tryz.func10, Tryz.ntmps10
      go_wp2_with fail
      go_ret2
      exact riE_of HR.out rfl
    · have hF := int_form2 (lo := lo) (hi := hi) hs hm hd hs (by rw [hk]; omega) (by rintro ⟨h, h'⟩; exact h34 ⟨by simpa using h, h'.elim (fun h => by rw [hk] at h; exact h) (fun h => by cases h)⟩)
      have HB : Hid (∀ i, i < k → ∃ (x : UInt8) , (∃ h : i < (y :: d2).length, (y :: d2)[i] = x) ∧ (∃ h : i < (str (y :: d2)).size, (str (y :: d2))[i] = x)) := fun i hi => ⟨(y :: d2)[i]'(by rw [hk]; exact hi), ⟨_, rfl⟩, ⟨by rw [hsD]; exact hi, rfl⟩⟩
      rw [hR] at hF
      have HF := Lib.hid hF
      have HK := Lib.hid hk
      have h35 : (((y.toNat : Int) == 48) = false) ∨ (y = 48 ∧ ¬ (1 : Int) < k) := by
        by_cases h3 : y = 48
        · exact .inr ⟨h3, fun h => h34 ⟨h3, by omega⟩⟩
        · left
          rw [beq_eq_false_iff_ne]
          intro h
          exact h3 (UInt8.toNat_inj.1 (by have : (48 : UInt8).toNat = 48 := rfl; omega))
      clear hR hs hm hd hl hk hF h34 hy
      generalize y :: d2 = d at *
      generalize str d = D at *
      rcases h35 with e3 | ⟨rfl, e3⟩
      all_goals
        go_enter Tryz.func10, Tryz.ntmps10
        go_wp2_with fail
        go_loop [10] (fun v => ∃ i : Nat, v = .int .i64 i ∧ i ≤ k ∧ (d.take i).all dgB = true) (fun v => k - (intOf v).toNat)
        case atStart => exact ⟨0, rfl, Nat.zero_le _, rfl⟩
        case round =>
          obtain ⟨i, rfl, hi, hall⟩ := hrel
          have HAll := Lib.hid hall
          clear hall
          rcases Nat.lt_or_ge i k with hlt | hge
          · have q0 : (0 : Int) ≤ i := by omega
            have q1 : (i : Int) < k := by omega
            obtain ⟨y, ⟨_, hy1⟩, ⟨_, hy2⟩⟩ := HB.out i hlt
            have HY := Lib.hid hy1
            clear hy1
            rcases dg_int y with ⟨g0, g1, g2⟩ | ⟨g0, g1⟩ | ⟨g0, g1, g2⟩
            · have HG := Lib.hid g0
              have g3 : ¬ (y.toNat : Int) < 48 := by omega
              have g4 : ¬ (57 : Int) < y.toNat := by omega
              clear g0
              go_wp2_with fail
              go_round
              case rel => exact ⟨i + 1, by go_num, hlt, all_next (by rw [HK.out]; exact hlt) HAll.out (by rw [HY.out]; exact HG.out)⟩
              case measure => simp [intOf]; omega
            · have HR : Hid (R = (0, 3)) := HF.out.1 (all_bad (by rw [HK.out]; exact hlt) (by rw [HY.out]; exact g0))
              clear g0
              go_wp2_with fail
              go_ret2
              exact riE_of HR.out rfl
            · have HR : Hid (R = (0, 3)) := HF.out.1 (all_bad (by rw [HK.out]; exact hlt) (by rw [HY.out]; exact g0))
              clear g0
              go_wp2_with fail
              go_ret2
              exact riE_of HR.out rfl
          · obtain rfl : i = k := by omega
            have q1 : ¬ ((i : Int) < i) := by omega
            have hall : d.all dgB = true := by
              have h := HAll.out
              rwa [List.take_of_length_le (by rw [HK.out]; exact Nat.le_refl _)] at h
            have HAl := Lib.hid hall
            clear hall HAll hge hi
            go_wp2_with fail
            go_loop [11, 12] (fun a v => ∃ j nn : Nat, v = .int .i64 j ∧ a = .int .u64 nn ∧ j ≤ i ∧ Lib.decFrom 0 (d.take j) = some nn ∧ nn < 10 ^ j) (fun _ v => i - (intOf v).toNat)
            case atStart => exact ⟨0, 0, rfl, rfl, Nat.zero_le _, rfl, by decide⟩
            case round =>
              obtain ⟨j, nn, rfl, rfl, hj, hdec, hnn⟩ := hrel
              have HDec := Lib.hid hdec
              clear hdec
              rcases Nat.lt_or_ge j i with hlt | hge
              · have q0 : (0 : Int) ≤ j := by omega
                have q2 : (j : Int) < i := by omega
                obtain ⟨y, ⟨_, hy1⟩, ⟨_, hy2⟩⟩ := HB.out j hlt
                have HY := Lib.hid hy1
                have hg : dgB y = true := by
                  have := List.all_eq_true.1 HAl.out y (by rw [← hy1]; exact List.getElem_mem _)
                  exact this
                have hdn := dec_next (by rw [HK.out]; exact hlt) HDec.out (by rw [hy1]; exact hg)
                rw [hy1] at hdn
                have HDn := Lib.hid hdn
                have hp : 10 ^ (j + 1) ≤ 10 ^ 19 := Nat.pow_le_pow_right (by decide) (by omega)
                have hps : 10 ^ (j + 1) = 10 ^ j * 10 := Nat.pow_succ _ _
                have e19 : (10 : Nat) ^ 19 = 10000000000000000000 := by decide
                have hnn2 : (nn : Int) ≤ 999999999999999999 := by omega
                have hnn0 : (0 : Int) ≤ nn := by omega
                have HP : Hid (nn * 10 + 9 < 10 ^ (j + 1)) := by unfold Hid; omega
                rcases dg_int y with ⟨_, g1, g2⟩ | ⟨g0, _⟩ | ⟨g0, _, _⟩
                · clear hy1 hg hdn hp hps e19 hnn
                  go_wp2_with fail
                  go_round
                  case rel => exact ⟨j + 1, nn * 10 + (y.toNat - 48), by go_num, by go_num, hlt, HDn.out, by have := HP.out; omega⟩
                  case measure => simp [intOf]; omega
                · rw [hg] at g0
                  cases g0
                · rw [hg] at g0
                  cases g0
              · obtain rfl : j = i := by omega
                have q2 : ¬ ((j : Int) < j) := by omega
                have hd2 : Lib.decFrom 0 d = some nn := by
                  have h := HDec.out
                  rwa [List.take_of_length_le (by rw [HK.out]; exact Nat.le_refl _)] at h
                obtain ⟨N, hN⟩ : ∃ N, nn = N := ⟨_, rfl⟩
                subst hN
                have HRR := Lib.hid (HF.out.2 nn hd2)
                have hp : 10 ^ j ≤ 10 ^ 19 := Nat.pow_le_pow_right (by decide) (by omega)
                have e19 : (10 : Nat) ^ 19 = 10000000000000000000 := by decide
                have hnb : (nn : Int) ≤ 10000000000000000000 := by omega
                have hn0 : (0 : Int) ≤ nn := by omega
                clear hd2 hp e19 hnn HDec hge hj
                by_cases hbig : 9223372036854775807 < nn
                · have HR : Hid (R = (0, 5)) := by unfold Hid; rw [HRR.out, if_pos hbig]
                  have b1 : (9223372036854775807 : Int) < nn := by omega
                  clear hbig HRR
                  go_wp2_with fail
                  go_ret2
                  exact riE_of HR.out rfl
                · have b1 : ¬ (9223372036854775807 : Int) < nn := by omega
                  have b2 : (nn : Int) ≤ 9223372036854775807 := by omega
                  have HRV : Hid (R = if (nn : Int) < lo ∨ hi < (nn : Int) then (0, 5) else ((nn : Int), 0)) := by
                    unfold Hid
                    rw [HRR.out, if_neg hbig]
                    rfl
                  clear hbig HRR
                  by_cases c1 : (nn : Int) < lo
                  · have HR : Hid (R = (0, 5)) := by unfold Hid; rw [HRV.out, if_pos (.inl c1)]
                    go_wp2_with fail
                    go_ret2
                    exact riE_of HR.out rfl
                  · by_cases c2 : hi < (nn : Int)
                    · have HR : Hid (R = (0, 5)) := by unfold Hid; rw [HRV.out, if_pos (.inr c2)]
                      go_wp2_with fail
                      go_ret2
                      exact riE_of HR.out rfl
                    · have HR : Hid (R = ((nn : Int), 0)) := by unfold Hid; rw [HRV.out, if_neg (by omega)]
                      go_wp2_with fail
                      go_ret2
                      exact riE_of HR.out rfl
theorem refInt_any (s : Tx) (lo hi : Int) (w : World) (hl : s.length ≤ 1000000) : Calls Tryz.prog 10 #[.string (str s), .int .i64 lo, .int .i64 hi] w (RiE (intT s lo hi) w) := by
  rcases s with _ | ⟨y, d⟩
  · have t0 : str ([] : Tx) = { data := #[] } := rfl
    rw [t0]
    have HR : Hid (intT [] lo hi = (0, 13)) := rfl
    go_enter Tryz.func10, Tryz.ntmps10
    go_wp2_with fail
    go_ret2
    exact riE_of HR.out rfl
  · by_cases hy : y = 45
    · subst hy
      exact refInt_minus d lo hi w (by simpa using Nat.le_of_succ_le hl)
    · exact refInt_plain y d lo hi w hy hl
/-- How the document's Flag ends. -/
def RfE (R : Bool × Nat) (w : World) (e : Ending) (w' : World) : Prop := e = .returned (.tuple #[.bool R.1, .int .i64 (R.2 : Nat)]) ∧ w = w'
theorem rfE_of {R : Bool × Nat} {w : World} {v : Bool} {j : Int} {k : Nat} (hR : R = (v, k)) (hj : j = k) : RfE R w (.returned (.tuple #[.bool v, .int .i64 j])) w := by
  subst hR
  subst hj
  exact ⟨rfl, rfl⟩
set_option maxRecDepth 100000 in
theorem refFlag_any (s : Tx) (w : World) : Calls Tryz.prog 12 #[.string (str s)] w (RfE (flagT s) w) := by
  obtain ⟨R, hR⟩ : ∃ R, flagT s = R := ⟨_, rfl⟩
  rw [hR]
  by_cases h0 : s = []
  · have HR : Hid (R = (false, 13)) := by unfold Hid; rw [← hR, flagT, if_pos h0]
    subst h0
    have t0 : str ([] : Tx) = { data := #[] } := rfl
    rw [t0]
    clear hR t0
    go_enter Tryz.func12, Tryz.ntmps12
    go_wp2_with fail
    go_ret2
    exact rfE_of HR.out rfl
  · by_cases h1 : s = [48]
    · have HR : Hid (R = (false, 0)) := by unfold Hid; rw [← hR, flagT, if_neg h0, if_pos h1]
      subst h1
      have t0 : str ([48] : Tx) = { data := #[48] } := rfl
      rw [t0]
      clear hR t0 h0
      go_enter Tryz.func12, Tryz.ntmps12
      go_wp2_with fail
      go_ret2
      exact rfE_of HR.out rfl
    · by_cases h2 : s = [49]
      · have HR : Hid (R = (true, 0)) := by unfold Hid; rw [← hR, flagT, if_neg h0, if_neg h1, if_pos h2]
        subst h2
        have t0 : str ([49] : Tx) = { data := #[49] } := rfl
        rw [t0]
        clear hR t0 h0 h1
        go_enter Tryz.func12, Tryz.ntmps12
        go_wp2_with fail
        go_ret2
        exact rfE_of HR.out rfl
      · have HR : Hid (R = (false, 3)) := by unfold Hid; rw [← hR, flagT, if_neg h0, if_neg h1, if_neg h2]
        have t1 : (str s).toList.isEmpty = false := by rw [str_toList]; simpa using h0
        have t2 : ((str s).toList == [48]) = false := by rw [str_toList]; exact beq_eq_false_iff_ne.2 h1
        have t3 : ((str s).toList == [49]) = false := by rw [str_toList]; exact beq_eq_false_iff_ne.2 h2
        generalize str s = S at *
        clear hR h0 h1 h2
        go_enter Tryz.func12, Tryz.ntmps12
        go_wp2_with fail
        go_ret2
        exact rfE_of HR.out rfl
end Go.Proofs.YtencapplbedcmaaGreatDoor

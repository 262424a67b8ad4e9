/- Contract: value's Seconds. -/
import Derived.Test.YtencapplbedcmaaGreatDoorVaIt
namespace Go.Proofs.YtencapplbedcmaaGreatDoor
open Go.RowKit

theorem byte_int (x k : UInt8) : ((x.toNat : Int) == ((k.toNat : Nat) : Int)) = (x == k) := by
  rw [Bool.eq_iff_iff]
  simp only [beq_iff_eq]
  exact ⟨fun e => UInt8.toNat_inj.1 (by omega), fun e => by rw [e]⟩
theorem ret_pair {a b : Value} {w : World} : Ending.returned (.tuple #[a, b]) = .returned (.tuple #[a, b]) ∧ w = w := ⟨rfl, rfl⟩
/-- What unitOf tells of a text that ends so. -/
def UnE (x : UInt8) (w : World) (e : Ending) (w' : World) : Prop := e = .returned (.tuple #[.int .i64 (unitT x : Nat), .bool (!(unitT x == 0))]) ∧ w = w'
theorem unE_of {x : UInt8} {w : World} {u : Nat} {i : Int} {b : Bool} (h : unitT x = u) (hi : i = u) (hb : (!(u == 0)) = b) : UnE x w (.returned (.tuple #[.int .i64 i, .bool b])) w := by
  subst h
  subst hi
  subst hb
  exact ⟨rfl, rfl⟩
set_option maxHeartbeats 1000000 in
set_option maxRecDepth 100000 in
theorem unitOf_any (r : Tx) (x : UInt8) (w : World) (hr : r.length ≤ 1000000) : Calls Tryz.prog 27 #[.string (str (r ++ [x]))] w (UnE x w) := by
  obtain ⟨m, hm⟩ : ∃ m, r.length = m := ⟨_, rfl⟩
  obtain ⟨S, hS, hsz, hx, _⟩ := snoc_facts r x m hm
  rw [hm] at hr
  have t1 : S.toList.isEmpty = false := by rw [← hS, str_toList]; simp
  rw [hS]
  have h0 := byte_int x 115
  have h1 := byte_int x 109
  have h2 := byte_int x 104
  have h3 := byte_int x 100
  clear hS hm
  by_cases c0 : x = 115
  · subst c0
    have HU : Hid (unitT 115 = 1) := rfl
    clear h0 h1 h2 h3
    go_enter Tryz.func27, Tryz.ntmps27
    go_wp2_with fail
    go_ret2
    exact unE_of HU.out rfl rfl
  · by_cases c1 : x = 109
    · subst c1
      have HU : Hid (unitT 109 = 60) := rfl
      clear h0 h1 h2 h3 c0
      go_enter Tryz.func27, Tryz.ntmps27
      go_wp2_with fail
      go_ret2
      exact unE_of HU.out rfl rfl
    · by_cases c2 : x = 104
      · subst c2
        have HU : Hid (unitT 104 = 3600) := rfl
        clear h0 h1 h2 h3 c0 c1
        go_enter Tryz.func27, Tryz.ntmps27
        go_wp2_with fail
        go_ret2
        exact unE_of HU.out rfl rfl
      · by_cases c3 : x = 100
        · subst c3
          have HU : Hid (unitT 100 = 86400) := rfl
          clear h0 h1 h2 h3 c0 c1 c2
          go_enter Tryz.func27, Tryz.ntmps27
          go_wp2_with fail
          go_ret2
          exact unE_of HU.out rfl rfl
        · have HU : Hid (unitT x = 0) := by unfold Hid unitT; rw [if_neg c0, if_neg c1, if_neg c2, if_neg c3]
          rw [beq_eq_false_iff_ne.2 c0] at h0
          rw [beq_eq_false_iff_ne.2 c1] at h1
          rw [beq_eq_false_iff_ne.2 c2] at h2
          rw [beq_eq_false_iff_ne.2 c3] at h3
          change ((x.toNat : Int) == 115) = false at h0
          change ((x.toNat : Int) == 109) = false at h1
          change ((x.toNat : Int) == 104) = false at h2
          change ((x.toNat : Int) == 100) = false at h3
          clear c0 c1 c2 c3
          go_enter Tryz.func27, Tryz.ntmps27
          go_wp2_with fail
          go_ret2
          exact unE_of HU.out rfl rfl
theorem unit_none (w : World) : Calls Tryz.prog 27 #[.string { data := #[] }] w fun e w' => e = .returned (.tuple #[.int .i64 0, .bool false]) ∧ w = w' := by
  go_enter Tryz.func27, Tryz.ntmps27
  go_wp2_with fail
  go_ret2
  exact ⟨rfl, rfl⟩
theorem int_cases (s : Tx) (lo hi : Int) : (∃ k, intT s lo hi = (0, k) ∧ k ≠ 0) ∨ ∃ v, intT s lo hi = (v, 0) ∧ lo ≤ v ∧ v ≤ hi := by
  by_cases h0 : s = []
  · exact .inl ⟨13, by rw [intT, if_pos h0], by decide⟩
  by_cases hl : 19 < s.length
  · exact .inl ⟨3, int_bad h0 (.inl hl), by decide⟩
  cases hn : numT s
  · exact .inl ⟨3, int_bad h0 (.inr hn), by decide⟩
  rcases int_num lo hi h0 (by omega) hn with ⟨v, _, h2, _⟩ | ⟨_, h2⟩
  · rw [h2]
    by_cases hv : v < lo ∨ hi < v
    · exact .inl ⟨5, by rw [if_pos hv], by decide⟩
    · exact .inr ⟨v, by rw [if_neg hv], by omega, by omega⟩
  · exact .inl ⟨5, h2, by decide⟩
theorem sec_snoc (r : Tx) (x : UInt8) : secT (r ++ [x]) = if unitT x = 0 then intT (r ++ [x]) 0 10000000 else ((intT r 0 10000000).1 * unitT x, (intT r 0 10000000).2) := by
  unfold secT
  rw [if_neg (by simp), List.getLast?_concat, List.dropLast_concat]
set_option maxHeartbeats 1000000 in
set_option maxRecDepth 100000 in
theorem seconds_any (s : Tx) (w : World) (hl : s.length ≤ 1000000) (he : EsV w) : Calls Tryz.prog 13 #[.string (str s)] w (IntE (secT s) w) := by
  obtain ⟨R, hR⟩ : ∃ R, secT s = R := ⟨_, rfl⟩
  rw [hR]
  have HE := Lib.hid he
  rcases List.eq_nil_or_concat s with rfl | ⟨r, x, rfl⟩
  · have HI := Lib.hid (fun W h => int_any [] 0 10000000 W (by simp) h)
    have hi : intT [] 0 10000000 = (0, 13) := rfl
    rw [hi] at HI
    have HR : Hid (R = (0, 13)) := hR.symm
    have HU := Lib.hid (fun W => unit_none W)
    have t0 : str ([] : Tx) = { data := #[] } := rfl
    rw [t0] at HI ⊢
    clear hi hR hl he t0
    go_enter Tryz.func13, Tryz.ntmps13
    go_wp2_with fail
    refine (HU.out _).mono ?_
    rintro e w' ⟨rfl, rfl⟩
    go_wp2_with fail
    refine (HI.out _ HE.out).mono ?_
    rintro e w1 ⟨rfl, hb⟩
    have HB := Lib.hid hb
    clear hb
    have hE : errE 13 = errK 13 := rfl
    rw [hE]
    unfold errK
    go_wp2_with fail
    go_ret2
    exact intE_of HR.out rfl HB.out
  · rw [List.concat_eq_append] at hl hR ⊢
    rw [sec_snoc] at hR
    obtain ⟨m, hm⟩ : ∃ m, r.length = m := ⟨_, rfl⟩
    have hl2 : m + 1 ≤ 1000000 := by rw [← hm]; simpa using hl
    obtain ⟨S, hS, hsz, _, hc⟩ := snoc_facts r x m hm
    have HU := Lib.hid (fun W => unitOf_any r x W (by omega))
    by_cases hu : unitT x = 0
    · rw [if_pos hu] at hR
      have HI := Lib.hid (fun W h => int_any (r ++ [x]) 0 10000000 W hl h)
      unfold UnE at HU
      unfold IntE at HI
      rw [hu] at HU
      rw [hS] at HI HU ⊢
      rcases int_cases (r ++ [x]) 0 10000000 with ⟨k, h1, h2⟩ | ⟨v, h1, h2, h3⟩
      · rw [h1] at HI hR
        have HR : Hid (R = (0, k)) := hR.symm
        have hE : errE k = errK k := if_neg h2
        have HEE := Lib.hid hE
        dsimp only at HI
        rw [hE] at HI
        unfold errK at HI
        clear hS hm hu hR hl he hc h1 h2 hE
        go_enter Tryz.func13, Tryz.ntmps13
        go_wp2_with fail
        refine (HU.out _).mono ?_
        rintro e w' ⟨rfl, rfl⟩
        go_wp2_with fail
        refine (HI.out _ HE.out).mono ?_
        rintro e w1 ⟨rfl, hb⟩
        have HB := Lib.hid hb
        clear hb
        go_wp2_with fail
        go_ret2
        exact intE_of HR.out HEE.out HB.out
      · rw [h1] at HI hR
        have HR : Hid (R = (v, 0)) := hR.symm
        dsimp only at HI
        rw [errE_zero] at HI
        clear hS hm hu hR hl he hc h1
        go_enter Tryz.func13, Tryz.ntmps13
        go_wp2_with fail
        refine (HU.out _).mono ?_
        rintro e w' ⟨rfl, rfl⟩
        go_wp2_with fail
        refine (HI.out _ HE.out).mono ?_
        rintro e w1 ⟨rfl, hb⟩
        have HB := Lib.hid hb
        clear hb
        go_wp2_with fail
        go_ret2
        exact intE_of HR.out errE_zero HB.out
    · rw [if_neg hu] at hR
      have HI := Lib.hid (fun W h => int_any r 0 10000000 W (by omega) h)
      unfold UnE at HU
      unfold IntE at HI
      have hu2 : (!(unitT x == 0)) = true := by simpa using hu
      have hu3 : unitT x ≤ 86400 := by
        unfold unitT
        repeat' split
        all_goals omega
      obtain ⟨u, hu4⟩ : ∃ u, unitT x = u := ⟨_, rfl⟩
      rw [hu4] at HU hu2 hu3 hR
      rw [hu2] at HU
      rw [hS] at HU ⊢
      obtain ⟨N, hN⟩ : ∃ N, str r = N := ⟨_, rfl⟩
      rw [hN] at hc HI
      have q1 : (u : Int) ≤ 86400 := by omega
      have q2 : (0 : Int) ≤ u := by omega
      have q3 : (m : Int) + 1 ≤ 1000000 := by omega
      rcases int_cases r 0 10000000 with ⟨k, h1, h2⟩ | ⟨v, h1, h2, h3⟩
      · rw [h1] at HI hR
        have HR : Hid (R = (0, k)) := by
          unfold Hid
          rw [← hR]
          simp
        have hE : errE k = errK k := if_neg h2
        have HEE := Lib.hid hE
        dsimp only at HI
        rw [hE] at HI
        unfold errK at HI
        clear hS hm hu hu2 hu3 hu4 hN hR hl he h1 h2 hE
        go_enter Tryz.func13, Tryz.ntmps13
        go_wp2_with fail
        refine (HU.out _).mono ?_
        rintro e w' ⟨rfl, rfl⟩
        go_wp2_with fail
        refine (HI.out _ HE.out).mono ?_
        rintro e w1 ⟨rfl, hb⟩
        have HB := Lib.hid hb
        clear hb
        go_wp2_with fail
        go_ret2
        exact intE_of HR.out HEE.out HB.out
      · rw [h1] at HI hR
        have HR : Hid (R = (v * u, 0)) := hR.symm
        dsimp only at HI
        rw [errE_zero] at HI
        have hmul : 0 ≤ v * u ∧ v * u ≤ 864000000000 := by
          constructor
          · exact Int.mul_nonneg h2 q2
          · calc v * u ≤ 10000000 * u := Int.mul_le_mul_of_nonneg_right h3 q2
              _ ≤ 10000000 * 86400 := Int.mul_le_mul_of_nonneg_left q1 (by decide)
              _ = 864000000000 := by decide
        have hw : wrap64 (v * u) = v * u := IntWalk.wrap64_in _ (by omega)
        obtain ⟨p, hp⟩ : ∃ p, v * u = p := ⟨_, rfl⟩
        rw [hp] at hw HR hmul
        have HW : Hid (wrap64 (v * u) = p) := by unfold Hid; rw [hp, hw]
        clear hS hm hu hu2 hu3 hu4 hN hR hl he h1 hp hw
        go_enter Tryz.func13, Tryz.ntmps13
        go_wp2_with fail
        refine (HU.out _).mono ?_
        rintro e w' ⟨rfl, rfl⟩
        go_wp2_with fail
        refine (HI.out _ HE.out).mono ?_
        rintro e w1 ⟨rfl, hb⟩
        have HB := Lib.hid hb
        clear hb
        go_wp2_with fail
        go_ret2
        exact intE_of (k := 0) (by rw [HW.out]; exact HR.out) errE_zero HB.out
end Go.Proofs.YtencapplbedcmaaGreatDoor

/- The document's Letters. -/
import Derived.Test.YtencapplbedcmaaGreatDoorVaR6
import Derived.Test.YtencapplbedcmaaGreatDoorVaLr
namespace Go.Proofs.YtencapplbedcmaaGreatDoor
open Go.RowKit

/-- Parts with a comma before each. -/
def flatC (l : List Tx) : Tx := (l.map fun p => 44 :: p).flatten
theorem flat_join : ∀ l : List Tx, l ≠ [] → flatC l = 44 :: joinC l
  | [], h => absurd rfl h
  | [p], _ => by simp [flatC, joinC]
  | p :: q :: r, _ => by
    have ih := flat_join (q :: r) (by simp)
    show (44 :: p) ++ flatC (q :: r) = _
    rw [ih, joinC]
    rfl
theorem flat_snoc (l : List Tx) (p : Tx) : flatC (l ++ [p]) = flatC l ++ [44] ++ p := by
  simp [flatC]
theorem flat_le (k : Nat) : ∀ l : List Tx, (∀ x ∈ l, x.length ≤ k) → (flatC l).length ≤ l.length * (k + 1)
  | [], _ => by simp [flatC]
  | p :: l, h => by
    have ih := flat_le k l fun x hx => h x (by simp [hx])
    have h1 := h p (by simp)
    show ((44 :: p) ++ flatC l).length ≤ _
    rw [List.length_append, List.length_cons, List.length_cons, Nat.succ_mul]
    omega
theorem str_comma (T X : ByteArray) (t x : Tx) (hT : str t = T) (hX : str x = X) : T ++ { data := #[44] } ++ X = str (t ++ [44] ++ x) := by
  subst hT
  subst hX
  rw [← str_append, ← str_append]
  rfl
theorem atI_yes {L : Tx} {c : UInt8} (h : c ∈ L) : 0 ≤ atI L c := by
  unfold atI
  rw [if_pos h]
  omega
theorem atI_no {L : Tx} {c : UInt8} (h : c ∉ L) : atI L c = -1 := by
  unfold atI
  rw [if_neg h]
theorem refAt_n (L : Tx) (w : World) (hl : L.length ≤ 1000000) : Calls Tryz.prog 42 #[.string (str L), .int .u8 110] w fun e w' => e = .returned (.int .i64 (atI L 110)) ∧ w = w' := refAt_any L 110 w hl
set_option maxHeartbeats 4000000 in
set_option maxRecDepth 100000 in
theorem refLetters_any (b : Int) (L : Tx) (w : World) (hL : L.length ≤ 1000) (hb1 : -9223372036854775808 ≤ b) (hb2 : b ≤ 9223372036854775807) :
    Calls Tryz.prog 24 #[.int .i64 b, .string (str L)] w (RjE (letT b L) w) := by
  have HA := Lib.hid (refMay_any L w (by omega))
  obtain ⟨R, hR⟩ : ∃ R, letT b L = R := ⟨_, rfl⟩
  rw [hR]
  have HAn := Lib.hid (fun W => refAt_n L W (by omega))
  cases hm : mayT L
  · have HR : Hid (([], 1) = R) := by unfold Hid; rw [← hR, letT, if_pos (.inl hm)]
    rw [hm] at HA
    generalize str L = S at *
    clear hR hm hL
    go_enter Tryz.func24, Tryz.ntmps24
    go_wp2_with fail
    with_reducible refine HA.out.mono ?_
    rintro e w' ⟨rfl, rfl⟩
    go_wp2_with fail
    go_ret2
    exact rjE_of HR.out rfl rfl (Below.refl _ _)
  · rw [hm] at HA
    by_cases hc : 110 ∈ L
    · have HR : Hid (([], 1) = R) := by unfold Hid; rw [← hR, letT, if_pos (.inr (.inl hc))]
      have d1 := atI_yes hc
      generalize atI L 110 = I at *
      generalize str L = S at *
      clear hR hm hL hc
      go_enter Tryz.func24, Tryz.ntmps24
      go_wp2_with fail
      with_reducible refine HA.out.mono ?_
      rintro e w' ⟨rfl, rfl⟩
      go_wp2_with fail
      with_reducible refine (HAn.out _).mono ?_
      rintro e w' ⟨rfl, rfl⟩
      go_wp2_with fail
      go_ret2
      exact rjE_of HR.out rfl rfl (Below.refl _ _)
    · rw [atI_no hc] at HAn
      by_cases hb0 : b < 0
      · have HR : Hid (([], 1) = R) := by unfold Hid; rw [← hR, letT, if_pos (.inr (.inr hb0))]
        generalize str L = S at *
        clear hR hm hL hc
        go_enter Tryz.func24, Tryz.ntmps24
        go_wp2_with fail
        with_reducible refine HA.out.mono ?_
        rintro e w' ⟨rfl, rfl⟩
        go_wp2_with fail
        with_reducible refine (HAn.out _).mono ?_
        rintro e w' ⟨rfl, rfl⟩
        go_wp2_with fail
        go_ret2
        exact rjE_of HR.out rfl rfl (Below.refl _ _)
      · obtain ⟨m, rfl⟩ := Int.eq_ofNat_of_zero_le (show 0 ≤ b by omega)
        obtain ⟨n, hn⟩ : ∃ n, L.length = n := ⟨_, rfl⟩
        have hn16 : n ≤ 16 := by rw [← hn]; exact (may_facts hm).2.2
        have HR : Hid ((if 2 ^ n ≤ m then ([], 1) else if chosen m L = [] then ([110], 0) else (joinC (chosen m L), 0)) = R) := by
          unfold Hid
          rw [← hR, letT, hn, Int.toNat_natCast]
          rw [if_neg (c := mayT L = false ∨ 110 ∈ L ∨ (m : Int) < 0) (fun h => h.elim (fun h => by rw [hm] at h; cases h) (fun h => h.elim hc (fun h => by omega)))]
        have hsz : (str L).size = n := hn
        have hd0 : ¬ ((m : Int) < 0) := by omega
        have HCut : Hid (∀ k, (hk : k < n) → ∃ x : UInt8, (∃ h : k < L.length, L[k] = x) ∧ (str L).extract k (k + 1) = str [x]) := fun k hk => by
          have hk' : k < L.length := by rw [hn]; exact hk
          refine ⟨L[k], ⟨hk', rfl⟩, ?_⟩
          rw [str_cut, Nat.add_sub_cancel_left, List.drop_eq_getElem_cons hk']
          rfl
        have HN := Lib.hid hn
        generalize str L = S at *
        clear hR hm hL hc hn hb0
        go_enter Tryz.func24, Tryz.ntmps24
        go_wp2_with fail
        with_reducible refine HA.out.mono ?_
        rintro e w' ⟨rfl, rfl⟩
        go_wp2_with fail
        with_reducible refine (HAn.out _).mono ?_
        rintro e w' ⟨rfl, rfl⟩
        go_wp2_with fail
        go_loopw [0, 6, 7] (fun bv sv iv wr => ∃ (k : Nat) (T : ByteArray), iv = .int .i64 k ∧ k ≤ n ∧ bv = .int .i64 ((m / 2 ^ k : Nat) : Int) ∧ sv = .string T ∧ str (flatC (chosen m (L.take k))) = T ∧ wr = w) (fun _ _ iv _ => n - (intOf iv).toNat)
        case atStart => exact ⟨0, _, rfl, Nat.zero_le _, by rw [Nat.pow_zero, Nat.div_one], rfl, rfl, rfl⟩
        case round =>
          obtain ⟨k, T, rfl, hk, rfl, rfl, hT, rfl⟩ := hrel
          have hmk : m / 2 ^ k ≤ m := Nat.div_le_self _ _
          have hTl := flat_le 1 (chosen m (L.take k)) (fun x hx => by obtain ⟨c, _, rfl⟩ := chosen_mem _ _ x hx; exact Nat.le_refl _)
          have hTl2 := chosen_len (L.take k) m
          have hTs : T.size = (flatC (chosen m (L.take k))).length := by rw [← hT, str_size]
          rw [List.length_take] at hTl2
          have hTm : T.size ≤ 40 := by omega
          have HT := Lib.hid hT
          clear hTl hTl2 hTs
          rcases Nat.lt_or_ge k n with hlt | hge
          · have q0 : (0 : Int) ≤ k := by omega
            have q1 : (k : Int) < n := by omega
            obtain ⟨x, ⟨hkl, hx⟩, hcut⟩ := HCut.out k hlt
            have hct := chosen_take L m k hkl
            rw [hx] at hct
            have hsl := slice_run S (str [x]) k n hsz hlt (by omega) hcut wr
            have hXs : (str [x]).size = 1 := rfl
            have hdd : m / 2 ^ (k + 1) = m / 2 ^ k / 2 := by rw [Nat.pow_succ, Nat.div_div_eq_div_mul]
            have HD := Lib.hid hdd
            obtain ⟨X, hX⟩ : ∃ X, str [x] = X := ⟨_, rfl⟩
            have HX := Lib.hid hX
            rw [hX] at hsl hXs
            have hM63 : m / 2 ^ k ≤ 9223372036854775807 := by omega
            generalize m / 2 ^ k = M at *
            clear hX hcut hx hdd hmk hT
            by_cases hbit : M % 2 = 1
            · rw [if_pos hbit] at hct
              have HC := Lib.hid hct
              have d1 : (M : Int) % 2 = 1 := by omega
              clear hbit hct
              go_wp2_with fail
              refine ⟨⟨k + 1, _, by go_num, hlt, by rw [HD.out]; go_num, rfl, ?_, trivial⟩, by simp [intOf]; omega⟩
              rw [HC.out, flat_snoc]
              exact (str_comma T X _ _ HT.out HX.out).symm
            · rw [if_neg hbit, List.append_nil] at hct
              have HC := Lib.hid hct
              have d1 : (M : Int) % 2 = 0 := by omega
              clear hbit hct
              go_wp2_with fail
              refine ⟨⟨k + 1, _, by go_num, hlt, by rw [HD.out]; go_num, rfl, ?_, trivial⟩, by simp [intOf]; omega⟩
              rw [HC.out]
              exact HT.out
          · obtain rfl : k = n := by omega
            have q1 : ¬ ((k : Int) < k) := by omega
            have hch : chosen m (L.take k) = chosen m L := by rw [List.take_of_length_le (by rw [HN.out]; exact Nat.le_refl _)]
            rw [hch] at hT
            clear hch HT hge hk
            by_cases hbig : 2 ^ k ≤ m
            · have HRR : Hid (([], 1) = R) := by have h := HR.out; rwa [if_pos hbig] at h
              have hM : 0 < m / 2 ^ k := Nat.div_pos hbig (Nat.two_pow_pos k)
              generalize m / 2 ^ k = M at *
              have d1 : (0 : Int) < M := by omega
              clear hbig hT hM
              go_wp2_with fail
              go_ret2
              exact rjE_of HRR.out rfl rfl (Below.refl _ _)
            · have hM : m / 2 ^ k = 0 := Nat.div_eq_of_lt (by omega)
              have hRR := HR.out
              rw [if_neg hbig] at hRR
              rw [hM]
              clear hM hmk HR hbig
              by_cases hch : chosen m L = []
              · rw [if_pos hch] at hRR
                have HRR := Lib.hid hRR
                rw [hch] at hT
                obtain rfl : T = { data := #[] } := hT.symm
                clear hT hRR hch
                go_wp2_with fail
                go_ret2
                exact rjE_of HRR.out rfl rfl (Below.refl _ _)
              · rw [if_neg hch] at hRR
                have HRR := Lib.hid hRR
                rw [flat_join _ hch] at hT
                have hne : T.toList.isEmpty = false := by rw [← hT, str_toList]; rfl
                have hTs : T.size = (joinC (chosen m L)).length + 1 := by rw [← hT, str_size]; rfl
                have HX : Hid (T.extract 1 ((joinC (chosen m L)).length + 1) = str (joinC (chosen m L))) := by
                  unfold Hid
                  rw [← hT, str_cut]
                  simp
                generalize (joinC (chosen m L)).length = z at *
                have d1 : (1 : Int) ≤ T.size := by omega
                clear hT hRR hch
                go_wp2_with fail
                go_ret2
                exact rjE_of HRR.out HX.out.symm rfl (Below.refl _ _)
end Go.Proofs.YtencapplbedcmaaGreatDoor

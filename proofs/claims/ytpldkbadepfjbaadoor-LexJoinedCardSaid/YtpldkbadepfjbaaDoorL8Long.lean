/- LexLong's walk. -/
import Derived.Test.YtpldkbadepfjbaaDoorL8Num
import Derived.Test.YtpldkbadepfjbaaDoorL8Math
namespace Go.Proofs.YtpldkbadepfjbaaDoor
open Go.RowKit

theorem u64_rem8 (T : Int) (b : Nat) (h0 : 0 < b) : ∃ j : Nat, (IntKind.u64.wrap T).tmod b = (j : Int) ∧ j < b := by
  have e : IntKind.u64.wrap T = T % 18446744073709551616 := by simp [IntKind.wrap, IntKind.bits, IntKind.signed]
  have hn : 0 ≤ IntKind.u64.wrap T := by rw [e]; omega
  rw [Int.tmod_eq_emod_of_nonneg hn]
  have h1 := Int.emod_nonneg (IntKind.u64.wrap T) (show (b : Int) ≠ 0 by omega)
  have h2 := Int.emod_lt_of_pos (IntKind.u64.wrap T) (show (0 : Int) < b by omega)
  exact ⟨((IntKind.u64.wrap T) % b).toNat, by omega, by omega⟩
theorem lay_as (j : Nat) : lay (List.replicate (j + 1) [97]) = lay (List.replicate j [97]) ++ [97, 10] := by
  rw [List.replicate_succ', lay_append, lay_one]
  rfl
theorem lay_as_len (j : Nat) : (lay (List.replicate j [97])).length = j * 2 := by
  induction j with
  | zero => rfl
  | succ j ih => rw [lay_as, List.length_append, ih]; simp; omega
set_option maxHeartbeats 2000000 in
set_option maxRecDepth 100000 in
theorem lexLong_any (n ah : Int) (w : World) (hm : Mx w) (hE : ErrT w) (_ : -9223372036854775808 ≤ n ∧ n ≤ 9223372036854775807) (_ : -9223372036854775808 ≤ ah ∧ ah ≤ 9223372036854775807) :
    Calls Tryd.prog 5 #[.int .i64 n, .int .i64 ah] w fun e w' => e = .returned (.bool true) ∧ Below w.heap.size w w' := by
  obtain ⟨a, ha, ha2⟩ := u64_rem8 n 12 (by omega)
  obtain ⟨b, hb, hb2⟩ := u64_rem8 ah 4 (by omega)
  have ha' : (IntKind.u64.wrap n).tmod 12 = (a : Int) := ha
  have hb' : (IntKind.u64.wrap ah).tmod 4 = (b : Int) := hb
  have hwa : wrap64 (a : Int) = (a : Int) := IntWalk.wrap64_in _ ⟨by omega, by omega⟩
  have hwb : wrap64 (b : Int) = (b : Int) := IntWalk.wrap64_in _ ⟨by omega, by omega⟩
  have hae : wrap64 ((IntKind.u64.wrap n).tmod 12) = (a : Int) := by rw [ha']; exact hwa
  have hbe : wrap64 ((IntKind.u64.wrap ah).tmod 4) = (b : Int) := by rw [hb']; exact hwb
  have HSu := Lib.hid (fun W h => sure_any W h)
  have HM := Lib.hid (And.intro hm hE)
  obtain ⟨k, hk⟩ : ∃ k, 4090 + a = k := ⟨_, rfl⟩
  have hkI : (4090 : Int) + a = k := by omega
  have hk5 : k ≤ 5000 := by omega
  have hk1 : 4090 ≤ k := by omega
  have HK := Lib.hid hk
  have h0 : (0 : Int) ≤ a := by omega
  have h1 : (a : Int) < 12 := by omega
  have h2 : (0 : Int) ≤ b := by omega
  have h3 : (b : Int) < 4 := by omega
  clear hm hE ha hb hk
  go_enter Tryd.func5, Tryd.ntmps5
  go_wp2_with fail
  go_loop [6, 7] (fun s i => ∃ j : Nat, i = .int .i64 j ∧ j ≤ b ∧ s = .string (str (lay (List.replicate j [97])))) (fun _ i => b - (intOf i).toNat)
  case atStart => exact ⟨0, rfl, Nat.zero_le _, rfl⟩
  case round =>
    obtain ⟨j, rfl, hj, rfl⟩ := hrel
    have hsz : (str (lay (List.replicate j [97]))).size = j * 2 := lay_as_len j
    rcases Nat.lt_or_ge j b with hlt | hge
    · have q0 : (0 : Int) ≤ j := by omega
      have q1 : (j : Int) < b := by omega
      have HJ := Lib.hid ((str_append (lay (List.replicate j [97])) [97, 10]).trans (congrArg str (lay_as j).symm))
      generalize str (lay (List.replicate j [97])) = S at *
      go_wp2_with fail
      go_round
      case rel => exact ⟨j + 1, by go_num, hlt, congrArg Value.string HJ.out⟩
      case measure => simp [intOf]; omega
    · obtain rfl : j = b := by omega
      have q1 : ¬ ((j : Int) < j) := by omega
      obtain ⟨S, hS⟩ : ∃ S, str (lay (List.replicate j [97])) = S := ⟨_, rfl⟩
      have HS := Lib.hid hS
      rw [hS] at hsz ⊢
      clear hS
      go_wp2_with fail
      go_loop [8] (fun x => ∃ i : Nat, x = .string (str (List.replicate i 98)) ∧ i ≤ k) (fun x => k - szOf x)
      case atStart => exact ⟨0, rfl, Nat.zero_le _⟩
      case round =>
        obtain ⟨i, rfl, hi⟩ := hrel
        have hxs : (str (List.replicate i 98)).size = i := by rw [str_size, List.length_replicate]
        rcases Nat.lt_or_ge k (i + 64) with hgt | hle
        · have q2 : ¬ ((i : Int) + 64 ≤ k) := by omega
          obtain ⟨X0, hX0⟩ : ∃ X, str (List.replicate i 98) = X := ⟨_, rfl⟩
          have HX0 := Lib.hid hX0
          rw [hX0] at hxs ⊢
          clear hX0
          go_wp2_with fail
          go_loop [8] (fun x => ∃ i : Nat, x = .string (str (List.replicate i 98)) ∧ i ≤ k) (fun x => k - szOf x)
          case atStart => exact ⟨i, congrArg Value.string HX0.out.symm, hi⟩
          case round =>
            obtain ⟨i', rfl, hi'⟩ := hrel
            have hxs' : (str (List.replicate i' 98)).size = i' := by rw [str_size, List.length_replicate]
            rcases Nat.lt_or_ge i' k with hlt' | hge'
            · have q3 : (i' : Int) < k := by omega
              have HJ : Hid (str (List.replicate i' 98) ++ { data := #[98] } = str (List.replicate (i' + 1) 98)) := by
                unfold Hid
                rw [List.replicate_succ']
                exact str_append _ [98]
              generalize str (List.replicate i' 98) = X' at *
              go_wp2_with fail
              go_round
              case rel => exact ⟨i' + 1, congrArg Value.string HJ.out, hlt'⟩
              case measure =>
                have h9 := congrArg ByteArray.size HJ.out
                rw [str_size, List.length_replicate] at h9
                simp only [szOf]
                omega
            · obtain rfl : i' = k := by omega
              have q3 : ¬ ((i' : Int) < i') := by omega
              have HSx := HS
              have hxx := hxs'
              obtain ⟨X, hX⟩ : ∃ X, str (List.replicate i' 98) = X := ⟨_, rfl⟩
              have HX := Lib.hid hX
              have HTx : Hid (S ++ { data := #[32, 32] } ++ X ++ { data := #[32, 59, 32, 109, 111, 114, 101, 10] } = str (lay (List.replicate j [97] ++ [[32, 32] ++ List.replicate i' 98 ++ [32, 59, 32, 109, 111, 114, 101]]))) := by
                unfold Hid
                rw [← HS.out, ← hX]
                show str _ ++ str [32, 32] ++ str _ ++ str [32, 59, 32, 109, 111, 114, 101, 10] = _
                rw [str_append, str_append, str_append, lay_append, lay_one]
                simp
              have hlen : (lay (List.replicate j [97] ++ [[32, 32] ++ List.replicate i' 98 ++ [32, 59, 32, 109, 111, 114, 101]])).length ≤ 9223372036854775807 := by
                rw [lay_append, lay_one, List.length_append, lay_as_len]
                simp
                omega
              have HL := Lib.hid (fun W h => lines_any _ W hlen h)
              rw [← HTx.out, long_ans j i' (by omega) (by omega) (by omega)] at HL
              rw [hX] at hxs' ⊢
              clear hX HTx hlen hxx
              by_cases h4 : 4096 < i'
              · rw [if_pos h4] at HL
                have q4 : (4096 : Int) < i' := by omega
                have HNk := Lib.hid (fun W h => num_E 2 W h)
                go_wp2_with fail
                refine (HL.out _ HM.out.1).mono ?_
                rintro e w1 ⟨v, rfl, ⟨A, c, rfl, hc1, hc2, hrd⟩, hb1⟩
                have H1 := Lib.hid (And.intro hb1 (And.intro (HM.out.1.below hb1) (HM.out.2.below hb1)))
                clear hrd hb1
                have hl0 : ([] : List (Nat × Tx)).length = 0 := rfl
                rw [hl0] at hc1 ⊢
                obtain ⟨b1, hb1⟩ : ∃ b1, j + 1 = b1 := ⟨_, rfl⟩
                have hbI : ((j : Int) + 1) = b1 := by omega
                simp only [hb1]
                obtain ⟨eV, heV⟩ : ∃ eV, errE 2 = eV := ⟨_, rfl⟩
                rw [heV] at HNk
                simp only [heV]
                clear heV hb1
                go_wp2_with fail
                refine (HNk.out _ H1.out.2.2).mono ?_
                rintro e w2 ⟨rfl, hb2⟩
                have H2 := Lib.hid (And.intro (H1.out.1.trans (hb2.mono H1.out.1.size)) (H1.out.2.1.below hb2))
                clear hb2
                go_wp2_with fail
                refine (HSu.out _ H2.out.2).mono ?_
                rintro e w3 ⟨rfl, hb3⟩
                have H3 := Lib.hid (H2.out.1.trans (hb3.mono H2.out.1.size))
                clear hb3
                go_wp2_with fail
                go_ret
                exact ret_true8 H3.out
              · rw [if_neg h4] at HL
                have q4 : ¬ ((4096 : Int) < i') := by omega
                have hlen2 : (num8 0 (List.replicate j [97]) ++ [(j + 1, List.replicate i' 98)]).length = j + 1 := by
                  rw [List.length_append, num8_len, List.length_replicate]
                  rfl
                have hat : ∀ h, (num8 0 (List.replicate j [97]) ++ [(j + 1, List.replicate i' 98)])[j]'h = (j + 1, List.replicate i' 98) := by
                  intro h
                  rw [List.getElem_append_right (by rw [num8_len, List.length_replicate]; exact Nat.le_refl _)]
                  simp [num8_len]
                obtain ⟨R, hR, hRl, hRa⟩ : ∃ R, num8 0 (List.replicate j [97]) ++ [(j + 1, List.replicate i' 98)] = R ∧ R.length = j + 1 ∧ ∀ h, R[j]'h = (j + 1, List.replicate i' 98) := ⟨_, rfl, hlen2, hat⟩
                rw [hR] at HL
                have HR := Lib.hid (And.intro hRl hRa)
                clear hR hlen2 hat hRl hRa
                go_wp2_with fail
                refine (HL.out _ HM.out.1).mono ?_
                rintro e w1 ⟨v, rfl, ⟨A, c, rfl, hc1, hc2, hrd⟩, hb1⟩
                have H1 := Lib.hid (And.intro hb1 (HM.out.1.below hb1))
                simp only [HR.out.1] at hc1 ⊢
                obtain ⟨ad, Y, rfl, hY, k0, k1⟩ := hrd.two j (by rw [HR.out.1]; omega)
                rw [HR.out.2] at k1
                simp only [HX.out] at k1
                rw [errE_zero]
                clear hrd hb1 k0
                have t1 : (X.toList == X.toList) = true := beq_self_eq_true _
                go_wp2_with fail
                refine (HSu.out _ H1.out.2).mono ?_
                rintro e w3 ⟨rfl, hb3⟩
                have H3 := Lib.hid (H1.out.1.trans (hb3.mono H1.out.1.size))
                clear hb3
                go_wp2_with fail
                go_ret
                exact ret_true8 H3.out
        · have q2 : (i : Int) + 64 ≤ k := by omega
          have HJ : Hid (str (List.replicate i 98) ++ str (List.replicate 64 98) = str (List.replicate (i + 64) 98)) := by
            exact (str_append _ _).trans (congrArg str List.replicate_append_replicate)
          generalize str (List.replicate i 98) = X' at *
          go_wp2_with fail
          go_round
          case rel => exact ⟨i + 64, congrArg Value.string HJ.out, by omega⟩
          case measure =>
            have h9 := congrArg ByteArray.size HJ.out
            rw [str_size, List.length_replicate] at h9
            show k - (X' ++ str (List.replicate 64 98)).size < k - X'.size
            rw [h9, hxs]
            omega
end Go.Proofs.YtpldkbadepfjbaaDoor

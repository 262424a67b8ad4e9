/- ValueUnits' walk. -/
import Derived.Test.YtencapplbedcmaaGreatDoorVaSu
import Derived.Test.YtencapplbedcmaaGreatDoorVaNum
import Derived.Test.YtencapplbedcmaaGreatDoorLxRW
namespace Go.Proofs.YtencapplbedcmaaGreatDoor
open Go.RowKit

/-- The digits so far: S in front of those of X. -/
def Dg (k X : Nat) (S : Tx) : Prop := (S = [] ∧ X = k) ∨ (S ≠ [] ∧ (if X = 0 then [] else Lib.decDigits X) ++ S = Lib.decDigits k)
theorem dg_step {k X : Nat} {S : Tx} (h : Dg k X S) (hr : 0 < X ∨ S = []) : Dg k (X / 10) (UInt8.ofNat (48 + X % 10) :: S) := by
  have hd : (if X / 10 = 0 then [] else Lib.decDigits (X / 10)) ++ [UInt8.ofNat (48 + X % 10)] = Lib.decDigits X := by
    by_cases hx : X < 10
    · rw [if_pos (by omega), dec_small hx, Nat.mod_eq_of_lt hx]
      rfl
    · rw [if_neg (by omega), dec_big hx]
  refine .inr ⟨by simp, ?_⟩
  have e : (if X / 10 = 0 then [] else Lib.decDigits (X / 10)) ++ (UInt8.ofNat (48 + X % 10) :: S) = Lib.decDigits X ++ S := by
    rw [← hd, List.append_assoc]
    rfl
  rw [e]
  rcases h with ⟨rfl, rfl⟩ | ⟨h1, h2⟩
  · rw [List.append_nil]
  · have hx : X ≠ 0 := by
      rcases hr with h | h
      · omega
      · exact absurd h h1
    rwa [if_neg hx] at h2
theorem dg_end {k : Nat} {S : Tx} (h : Dg k 0 S) (hs : S ≠ []) : S = Lib.decDigits k := by
  rcases h with ⟨h1, _⟩ | ⟨_, h2⟩
  · exact absurd h1 hs
  · simpa using h2
theorem cut_dg (d : Nat) (h : d < 10) : ({ data := #[48, 49, 50, 51, 52, 53, 54, 55, 56, 57] } : ByteArray).extract d (d + 1) = str [UInt8.ofNat (48 + d)] := by
  have : ∀ i : Fin 10, ({ data := #[48, 49, 50, 51, 52, 53, 54, 55, 56, 57] } : ByteArray).extract i.val (i.val + 1) = str [UInt8.ofNat (48 + i.val)] := by decide
  exact this ⟨d, h⟩

theorem slice_dg (X : Nat) (W : World) :
    (Instr.slice 9 (.string { data := #[48, 49, 50, 51, 52, 53, 54, 55, 56, 57] }) (some (.int .i64 ((X : Int) % 10))) (some (.int .i64 ((X : Int) % 10 + 1))) none).run Tryz.prog W = .ok (.string (str [UInt8.ofNat (48 + X % 10)])) W := by
  have h := slice_run { data := #[48, 49, 50, 51, 52, 53, 54, 55, 56, 57] } _ (X % 10) 10 rfl (by omega) (by omega) (cut_dg (X % 10) (by omega)) W
  rw [show ((X % 10 : Nat) : Int) = (X : Int) % 10 by omega] at h
  exact h
theorem dg_len {k X : Nat} {S : Tx} (h : Dg k X S) (hk : k ≤ 10000000) : S.length ≤ 8 := by
  rcases h with ⟨rfl, _⟩ | ⟨_, h2⟩
  · simp
  · have h8 : (Lib.decDigits k).length ≤ 8 := dec_len k 7 (by omega)
    rw [← h2, List.length_append] at h8
    omega
def em (s : Value) : Nat := match s with
  | .string b => if b.size = 0 then 1 else 0
  | _ => 0
theorem sec_at (k : Nat) (V : Int) (T : ByteArray) (U : Tx) (Ub : ByteArray) (hUb : Ub = str U) (hT : T = str (Lib.decDigits k)) (hk : k ≤ 10000000) (hs : secT (Lib.decDigits k ++ U) = (V, 0)) (hU : U.length ≤ 1) (W : World) (he : EsV W) :
    Calls Tryz.prog 13 #[.string (T ++ Ub)] W fun e w' => e = .returned (.tuple #[.int .i64 V, .nilIface]) ∧ Below W.heap.size W w' := by
  have h := seconds_any (Lib.decDigits k ++ U) W (by rw [List.length_append]; have := dec_len k 7 (by omega); omega) he
  rw [hs] at h
  unfold IntE at h
  dsimp only at h
  rw [errE_zero] at h
  rw [hUb, hT, str_append]
  exact h
theorem sec_w_at (k : Nat) (T : ByteArray) (hT : T = str (Lib.decDigits k)) (hk : k ≤ 10000000) (W : World) (he : EsV W) :
    Calls Tryz.prog 13 #[.string (T ++ { data := #[119] })] W fun e w' => e = .returned (.tuple #[.int .i64 0, errE 3]) ∧ Below W.heap.size W w' := by
  have h := seconds_any (Lib.decDigits k ++ [119]) W (by rw [List.length_append]; have := dec_len k 7 (by omega); simp; omega) he
  rw [sec_w] at h
  unfold IntE at h
  dsimp only at h
  rw [hT, show ({ data := #[119] } : ByteArray) = str [119] from rfl, str_append]
  exact h
theorem sec_0_at (k : Nat) (T : ByteArray) (hT : T = str (Lib.decDigits k)) (hk : k ≤ 10000000) (W : World) (he : EsV W) :
    Calls Tryz.prog 13 #[.string ({ data := #[48] } ++ T)] W fun e w' => e = .returned (.tuple #[.int .i64 0, errE 3]) ∧ Below W.heap.size W w' := by
  have h := seconds_any (48 :: Lib.decDigits k) W (by rw [List.length_cons]; have := dec_len k 7 (by omega); omega) he
  rw [sec_nought] at h
  unfold IntE at h
  dsimp only at h
  rw [hT, show ({ data := #[48] } : ByteArray) = str [48] from rfl, str_append]
  exact h
theorem sec_big_at (W : World) (he : EsV W) :
    Calls Tryz.prog 13 #[.string { data := #[49, 48, 48, 48, 48, 48, 48, 49, 115] }] W fun e w' => e = .returned (.tuple #[.int .i64 0, errE 5]) ∧ Below W.heap.size W w' := by
  have h := seconds_any [49, 48, 48, 48, 48, 48, 48, 49, 115] W (by simp) he
  rw [sec_big] at h
  unfold IntE at h
  exact h
set_option maxHeartbeats 4000000 in
set_option maxRecDepth 100000 in
theorem valueUnits_any (n : Int) (w : World) (hg : ErrT w) (he : EsV w) (_ : -9223372036854775808 ≤ n ∧ n ≤ 9223372036854775807) :
    Calls Tryz.prog 7 #[.int .i64 n] w fun e w' => e = .returned (.bool true) ∧ Below w.heap.size w w' := by
  have HG := Lib.hid (And.intro hg he)
  obtain ⟨k, hk, hku⟩ : ∃ k : Nat, k ≤ 10000000 ∧ wrap64 ((IntKind.u64.wrap n).tmod 10000001) = (k : Int) := by
    have h0 : 0 ≤ IntKind.u64.wrap n := by rw [IntKind.wrap_u64]; omega
    have h1 : (IntKind.u64.wrap n).tmod 10000001 = (IntKind.u64.wrap n) % 10000001 := Int.tmod_eq_emod_of_nonneg h0
    refine ⟨((IntKind.u64.wrap n) % 10000001).toNat, by omega, ?_⟩
    rw [h1, wrap64]
    omega
  have HK := Lib.hid hk
  clear hg he hk
  go_enter Tryz.func7, Tryz.ntmps7
  go_wp2_with fail
  rw [hku]
  clear hku
  go_loopw [4, 5] (fun s x wr => ∃ (S : Tx) (X : Nat), s = .string (str S) ∧ x = .int .i64 X ∧ Dg k X S ∧ X ≤ k ∧ wr = w) (fun s x _ => 2 * (intOf x).toNat + em s)
  case atStart => exact ⟨[], k, rfl, rfl, .inl ⟨rfl, rfl⟩, Nat.le_refl _, rfl⟩
  case round =>
    obtain ⟨S, X, rfl, rfl, hdg, hX, rfl⟩ := hrel
    have HD := Lib.hid (And.intro hdg hX)
    have HD' := Lib.hid hX
    have hX7 : X ≤ 10000000 := Nat.le_trans hX HK.out
    clear hdg hX
    obtain ⟨D, hD⟩ : ∃ D, str [UInt8.ofNat (48 + X % 10)] = D := ⟨_, rfl⟩
    have hc := slice_dg X wr
    rw [hD] at hc
    have hDs : D.size = 1 := by rw [← hD]; rfl
    have hl8 := dg_len HD.out.1 HK.out
    have hTs : (str S).size = S.length := str_size S
    have HT := Lib.hid (show D ++ str S = str (UInt8.ofNat (48 + X % 10) :: S) by rw [← hD, str_append]; rfl)
    have hem : em (.string (D ++ str S)) = 0 := by
      rw [HT.out]
      rfl
    have HM := Lib.hid hem
    obtain ⟨m, hm⟩ : ∃ m, S.length = m := ⟨_, rfl⟩
    rw [hm] at hl8 hTs
    have hms : em (.string (str S)) = if m = 0 then 1 else 0 := by rw [← hm]; unfold em; rw [← str_size]
    have HMS := Lib.hid (And.intro hms hm)
    by_cases h0 : 0 < X
    · have HX := Lib.hid (dg_step HD.out.1 (.inl h0))
      obtain ⟨T, hT⟩ : ∃ T, str S = T := ⟨_, rfl⟩
      rw [hT] at hTs HT HM HMS ⊢
      have d1 : (0 : Int) < X := by omega
      clear hD hem hms hm hT HD
      go_wp2_with fail
      refine ⟨⟨_, X / 10, by rw [HT.out], by go_num, HX.out, by have := HD'.out; omega, trivial⟩, ?_⟩
      rw [HM.out, HMS.out.1]
      simp [intOf]
      omega
    · by_cases hm0 : m = 0
      · subst hm0
        obtain rfl := List.eq_nil_of_length_eq_zero hm
        have HX := Lib.hid (dg_step HD.out.1 (.inr rfl))
        have hT : str ([] : Tx) = { data := #[] } := rfl
        rw [hT] at hTs HT HM HMS ⊢
        obtain rfl : X = 0 := by omega
        clear hD hem hms hm hT HD
        go_wp2_with fail
        exact ⟨⟨[48], 0, rfl, rfl, HX.out, Nat.zero_le _, trivial⟩, by decide⟩
      · have HX := Lib.hid (dg_end (by have := HD.out.1; rwa [show X = 0 by omega] at this) (by rintro rfl; exact hm0 hm.symm))
        obtain ⟨T, hT⟩ : ∃ T, str S = T := ⟨_, rfl⟩
        have HTT := Lib.hid hT
        rw [hT] at hTs HT HM HMS ⊢
        have hne : T.toList.isEmpty = false := by rw [← HTT.out]; exact str_ne8 (by cases S with | nil => exact absurd hm.symm hm0 | cons => rfl)
        have d1 : ¬ (0 : Int) < X := by omega
        have hTk : T = str (Lib.decDigits k) := by rw [← hT, HX.out]
        have hkk : (k : Int) ≤ 10000000 := by have := HK.out; omega
        have HW := Lib.hid (fun W h => sec_w_at k T hTk HK.out W h)
        have HO := Lib.hid (fun W h => sec_0_at k T hTk HK.out W h)
        have HB := Lib.hid (fun W h => sec_big_at W h)
        have HS0 := Lib.hid (fun W h => sec_at k k T [] { data := #[] } rfl hTk HK.out (by rw [List.append_nil]; exact sec_dec k HK.out) (by simp) W h)
        have HS1 := Lib.hid (fun W h => sec_at k k T [115] { data := #[115] } rfl hTk HK.out (by rw [sec_unit k 115 HK.out (by decide), show unitT 115 = 1 by decide]; simp) (by simp) W h)
        have HS2 := Lib.hid (fun W h => sec_at k (k * 60) T [109] { data := #[109] } rfl hTk HK.out (by rw [sec_unit k 109 HK.out (by decide), show unitT 109 = 60 by decide]; simp) (by simp) W h)
        have HS3 := Lib.hid (fun W h => sec_at k (k * 3600) T [104] { data := #[104] } rfl hTk HK.out (by rw [sec_unit k 104 HK.out (by decide), show unitT 104 = 3600 by decide]; simp) (by simp) W h)
        have HS4 := Lib.hid (fun W h => sec_at k (k * 86400) T [100] { data := #[100] } rfl hTk HK.out (by rw [sec_unit k 100 HK.out (by decide), show unitT 100 = 86400 by decide]; simp) (by simp) W h)
        have HN3 := Lib.hid (fun W h => num_E 3 W h)
        have HN5 := Lib.hid (fun W h => num_E 5 W h)
        have HSu := Lib.hid (fun W h => sure_any W h)
        generalize errE 3 = E3 at *
        generalize errE 5 = E5 at *
        clear hD hem hms hm hT HD hTk
        go_wp2_with fail
        obtain ⟨wA, hwA⟩ : ∃ x, (wr.alloc (.cells #[.string { data := #[] }, .string { data := #[115] }, .string { data := #[109] }, .string { data := #[104] }, .string { data := #[100] }] 9)).alloc
          (.cells #[.int .i64 1, .int .i64 1, .int .i64 60, .int .i64 3600, .int .i64 86400] 3) = x := ⟨_, rfl⟩
        have hbA : Below wr.heap.size wr wA := by rw [← hwA]; exact ((Below.refl _ _).alloc (Nat.le_refl _) _).alloc (by simp) _
        have hA1 : wA.heap[wr.heap.size]? = some (.cells #[.string { data := #[] }, .string { data := #[115] }, .string { data := #[109] }, .string { data := #[104] }, .string { data := #[100] }] 9 (0, 0)) := by
          rw [← hwA]
          exact (((Below.refl _ _).alloc (Nat.le_refl _) _).block _ (by simp)).trans (MapKept.heap_alloc wr _).1
        have hA2 : wA.heap[wr.heap.size + 1]? = some (.cells #[.int .i64 1, .int .i64 1, .int .i64 60, .int .i64 3600, .int .i64 86400] 3 (0, 0)) := by
          rw [← hwA]
          have h := (MapKept.heap_alloc (wr.alloc (.cells #[.string { data := #[] }, .string { data := #[115] }, .string { data := #[109] }, .string { data := #[104] }, .string { data := #[100] }] 9)) (.cells #[.int .i64 1, .int .i64 1, .int .i64 60, .int .i64 3600, .int .i64 86400] 3)).1
          rwa [World.size_alloc] at h
        have hsz : wA.heap.size = wr.heap.size + 2 := by rw [← hwA]; simp
        obtain ⟨g, hgE⟩ : ∃ g, wr.heap.size = g := ⟨_, rfl⟩
        rw [hwA]
        rw [hgE] at hA1 hA2 hsz ⊢
        have HA := Lib.hid (And.intro hbA (And.intro hA1 (And.intro hA2 hsz)))
        clear hwA hbA hA1 hA2 hsz
        go_loopw [8] (fun i W => ∃ a : Nat, a ≤ 5 ∧ i = .int .i64 a ∧ Below wA.heap.size wA W) (fun i _ => 5 - (intOf i).toNat)
        case atStart => exact ⟨0, by omega, rfl, Below.refl _ _⟩
        case round =>
          obtain ⟨a, ha, rfl, hb⟩ := hrel
          have HBW := Lib.hid hb
          have b1 := (hb.block _ (by rw [HA.out.2.2.2]; omega)).trans HA.out.2.1
          have hE : Hid (∀ W, Below wA.heap.size wA W → ErrT W ∧ EsV W) := fun W h => ⟨(HG.out.1.below HA.out.1).below h, (HG.out.2.below HA.out.1).below h⟩
          clear hb
          by_cases h5 : a < 5
          · have hcs : a = 0 ∨ a = 1 ∨ a = 2 ∨ a = 3 ∨ a = 4 := by omega
            clear ha h5
            rcases hcs with rfl | rfl | rfl | rfl | rfl
            case' inl =>
              have c1 := blk_cell b1 0 (v := .string { data := #[] }) rfl
              have h5' : 0 + 1 ≤ 5 := by omega
              have HC : Hid (∀ W, Below wA.heap.size wA W → W.cell? ⟨g + 1, 0, none⟩ = some (.int .i64 1)) := fun W hb => blk_cell ((hb.block _ (by rw [HA.out.2.2.2]; omega)).trans HA.out.2.2.1) 0 rfl
              have HS := HS0
            case' inr.inl =>
              have c1 := blk_cell b1 1 (v := .string { data := #[115] }) rfl
              have h5' : 1 + 1 ≤ 5 := by omega
              have HC : Hid (∀ W, Below wA.heap.size wA W → W.cell? ⟨g + 1, 1, none⟩ = some (.int .i64 1)) := fun W hb => blk_cell ((hb.block _ (by rw [HA.out.2.2.2]; omega)).trans HA.out.2.2.1) 1 rfl
              have HS := HS1
            case' inr.inr.inl =>
              have c1 := blk_cell b1 2 (v := .string { data := #[109] }) rfl
              have h5' : 2 + 1 ≤ 5 := by omega
              have HC : Hid (∀ W, Below wA.heap.size wA W → W.cell? ⟨g + 1, 2, none⟩ = some (.int .i64 60)) := fun W hb => blk_cell ((hb.block _ (by rw [HA.out.2.2.2]; omega)).trans HA.out.2.2.1) 2 rfl
              have HS := HS2
            case' inr.inr.inr.inl =>
              have c1 := blk_cell b1 3 (v := .string { data := #[104] }) rfl
              have h5' : 3 + 1 ≤ 5 := by omega
              have HC : Hid (∀ W, Below wA.heap.size wA W → W.cell? ⟨g + 1, 3, none⟩ = some (.int .i64 3600)) := fun W hb => blk_cell ((hb.block _ (by rw [HA.out.2.2.2]; omega)).trans HA.out.2.2.1) 3 rfl
              have HS := HS3
            case' inr.inr.inr.inr =>
              have c1 := blk_cell b1 4 (v := .string { data := #[100] }) rfl
              have h5' : 4 + 1 ≤ 5 := by omega
              have HC : Hid (∀ W, Below wA.heap.size wA W → W.cell? ⟨g + 1, 4, none⟩ = some (.int .i64 86400)) := fun W hb => blk_cell ((hb.block _ (by rw [HA.out.2.2.2]; omega)).trans HA.out.2.2.1) 4 rfl
              have HS := HS4
            all_goals
              clear b1
              go_wp2_with fail
              with_reducible refine (HS.out _ (hE.out _ HBW.out).2).mono ?_
              rintro e w2 ⟨rfl, hb⟩
              have HB2 := Lib.hid (HBW.out.trans (hb.mono HBW.out.size))
              have c2 := HC.out _ HB2.out
              clear hb
              go_wp2_with fail
              exact ⟨⟨_, h5', rfl, HB2.out⟩, by decide⟩
          · have h5' : a = 5 := by omega
            subst h5'
            go_wp2_with fail
            with_reducible refine (HW.out _ (hE.out _ HBW.out).2).mono ?_
            rintro e w2 ⟨rfl, hb⟩
            have HB2 := Lib.hid (HBW.out.trans (hb.mono HBW.out.size))
            clear hb
            go_wp2_with fail
            with_reducible refine (HO.out _ (hE.out _ HB2.out).2).mono ?_
            rintro e w3 ⟨rfl, hb⟩
            have HB3 := Lib.hid (HB2.out.trans (hb.mono HB2.out.size))
            clear hb
            go_wp2_with fail
            with_reducible refine (HB.out _ (hE.out _ HB3.out).2).mono ?_
            rintro e w4 ⟨rfl, hb⟩
            have HB4 := Lib.hid (HB3.out.trans (hb.mono HB3.out.size))
            clear hb
            go_wp2_with fail
            with_reducible refine (HN3.out _ (hE.out _ HB4.out).1).mono ?_
            rintro e w5 ⟨rfl, hb⟩
            have HB5 := Lib.hid (HB4.out.trans (hb.mono HB4.out.size))
            clear hb
            go_wp2_with fail
            with_reducible refine (HN3.out _ (hE.out _ HB5.out).1).mono ?_
            rintro e w6 ⟨rfl, hb⟩
            have HB6 := Lib.hid (HB5.out.trans (hb.mono HB5.out.size))
            clear hb
            go_wp2_with fail
            with_reducible refine (HN5.out _ (hE.out _ HB6.out).1).mono ?_
            rintro e w7 ⟨rfl, hb⟩
            have HB7 := Lib.hid (HB6.out.trans (hb.mono HB6.out.size))
            clear hb
            go_wp2_with fail
            with_reducible refine (HSu.out _ (hE.out _ HB7.out).2).mono ?_
            rintro e w8 ⟨rfl, hb⟩
            have HB8 := Lib.hid (HB7.out.trans (hb.mono HB7.out.size))
            clear hb
            go_wp2_with fail
            go_ret
            exact ret_trueV (HA.out.1.trans (HB8.out.mono HA.out.1.size))
end Go.Proofs.YtencapplbedcmaaGreatDoor

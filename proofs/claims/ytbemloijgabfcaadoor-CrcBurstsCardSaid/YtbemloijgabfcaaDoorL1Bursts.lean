/- CrcBursts' walk. -/
import Derived.Test.YtbemloijgabfcaaDoorL1Sure
import Derived.Test.YtbemloijgabfcaaDoorCrcBurst
import Derived.Test.YtbemloijgabfcaaDoorRef1C
import Derived.Laws.BitsAllLaws
import Derived.StillTailTactics
namespace Go.Proofs.YtbemloijgabfcaaDoor
open Go.RowKit

theorem pick_d (n d : Int) (h0 : 0 < d) (h1 : d ≤ 1000000) : ∃ k : Nat, (k : Int) < d ∧ wrap64 ((IntKind.u64.wrap n).tmod d) = (k : Int) := by
  have e : IntKind.u64.wrap n = n % 18446744073709551616 := by simp [IntKind.wrap, IntKind.bits, IntKind.signed]
  have h0' : 0 ≤ IntKind.u64.wrap n := by rw [e]; omega
  rw [Int.tmod_eq_emod_of_nonneg h0']
  generalize IntKind.u64.wrap n = x at h0' ⊢
  have h2 := Int.emod_nonneg x (show d ≠ 0 by omega)
  have h3 := Int.emod_lt_of_pos x h0
  refine ⟨(x % d).toNat, by omega, ?_⟩
  rw [IntWalk.wrap64_in _ ⟨by omega, by omega⟩]
  omega

theorem pow_u8 (b : Nat) (h : b < 8) : (2 : Nat) ^ b ≤ 128 := by
  have h1 : (2 : Nat) ^ b ≤ 2 ^ 7 := Nat.pow_le_pow_right (by omega) (by omega)
  exact h1
theorem flip_u8 (x b : Nat) (hx : x < 256) (hb : b < 8) : x ^^^ 2 ^ b < 256 ∧ bits BinOp.xor IntKind.u8 (x : Int) (2 ^ b % 256) = ((x ^^^ 2 ^ b : Nat) : Int) := by
  have hp := pow_u8 b hb
  refine ⟨Nat.xor_lt_two_pow (n := 8) hx (by omega), ?_⟩
  have e : (2 : Int) ^ b % 256 = ((2 ^ b : Nat) : Int) := by
    have e1 : ((2 ^ b : Nat) : Int) = (2 : Int) ^ b := by simp
    rw [← e1]
    generalize (2 : Nat) ^ b = y at hp ⊢
    omega
  rw [e]
  exact u8_xor_nat x (2 ^ b) hx (by omega)

set_option maxRecDepth 100000 in
set_option maxHeartbeats 4000000 in
theorem bursts_core (A : Option Addr) (n c : Nat) (l : List UInt8) (at_ : Int) (p : Nat) (w : World) (ht : Tab w) (hg : ErrT w) (hr : Rd w A (bs l)) (hn : l.length = n) (h4 : n ≤ 4000) (hp : p < 4294967296) (hp0 : 0 < p)
    (_ : -9223372036854775808 ≤ at_ ∧ at_ ≤ 9223372036854775807) :
    Calls Tryd.prog 6 #[.slice A n c, .int .i64 at_, .int .u32 p] w fun e w' => e = .returned (.bool true) ∧ Below w.heap.size w w' := by
  have HT := Lib.hid ht
  have HG := Lib.hid hg
  have HR := Lib.hid hr
  have HN := Lib.hid hn
  have hs1 : (sealed l).length = n + 4 := by rw [seal_length, hn]
  have HS1 := Lib.hid hs1
  have CV : ∀ (W : World) (X : Option Addr) (j cc : Nat) (q : List UInt8), q.length = j → Rd W X (bs q) → (convert 22 9 (.slice X j cc)).run Tryd.prog W = .ok (.string (str q)) W := fun W X j cc q hj hR =>
    run_conv_str (P := Tryd.prog) Tryd.underlying22 Tryd.underlying5 Tryd.underlying9 hj hR
  have HCV := Lib.hid CV
  obtain ⟨k, hk, hkw⟩ := pick_d at_ (8 * ((n : Int) + 4) - 31) (by omega) (by omega)
  have hdec : decide (4000 < (n : Int)) = false := by simp; omega
  clear ht hg hr hn hs1 CV
  go_enter Tryd.func6, Tryd.ntmps6
  go_wp2_with fail
  refine (seal_n A n c l _ HN.out HT.out HR.out (by omega)).mono ?_
  rintro e w1 ⟨v1, rfl, hown1, hb1⟩
  obtain ⟨A1, c1, rfl, hc1, _, _, hR1, _⟩ := owns_form hown1
  have HB1 := Lib.hid hb1
  have HR1 := Lib.hid hR1
  clear hown1 hb1 hR1
  go_wp2_with fail
  refine (open_sealed A1 (n + 4) c1 l _ (by rw [HN.out]) (HT.out.below HB1.out) HR1.out (by omega) hc1).mono ?_
  rintro e w3 ⟨v3, rfl, hown3, hb3⟩
  rw [HN.out] at hown3
  obtain ⟨A3, c3, rfl, hc3, _, _, hR3, _⟩ := owns_form hown3
  have HB3 := Lib.hid (HB1.out.trans (hb3.mono HB1.out.size))
  have HR1' := Lib.hid (HR1.out.below hb3)
  have cv4 := HCV.out w3 A3 n c3 l HN.out hR3
  have cv5 := HCV.out w3 A n c l HN.out (HR.out.below HB3.out)
  have hz3 := HB3.out.size
  clear hown3 hb3 hR3
  go_wp2_with (first
    | (at_builtin
       refine wpList_app rfl (.tmp 55) (.tmp 56) _ rfl elU8 w.heap.size (.slice none 0 0) 0 [] rfl (World.ownsRow_nil _ _ _ _) A1 (n + 4) c1 (bs (sealed l)) rfl (by rw [bs_length]; exact HS1.out) HR1'.out (bs_one _) (by unfold maxLen; omega) (by omega) hz3 ?_
       intro v6 w6 hown6 hg6 hat6
       have hown6' : w6.ownsRow w.heap.size 5 1 v6 (n + 4) (bs (sealed l)) := by simpa using hown6
       have HO6 := Lib.hid hown6'
       clear hown6'
       have HB6 := Lib.hid (HB3.out.grown hg6 hz3 (fun k hk => by simp [Value.ownBlock] at hk))
       have hz6 := HB6.out.size
       clear hown6 hg6 hat6))
  obtain ⟨g, cap, rfl, hgb, hgl⟩ := HO6.out.form (by omega)
  go_loopw [12] (fun i wr => ∃ (j : Nat) (z : List UInt8), j ≤ 32 ∧ i = .int .i64 j ∧ wr.ownsRow w.heap.size 5 1 (.slice (some ⟨g, 0, none⟩) (n + 4) cap) (n + 4) (bs z) ∧ z.length = n + 4 ∧ num8 z = num8 (sealed l) ^^^ (2 ^ k * (p % 2 ^ j)) ∧ Below w.heap.size w wr) (fun i _ => 32 - (intOf i).toNat)
  case atStart => exact ⟨0, sealed l, by omega, rfl, HO6.out, HS1.out, by rw [Nat.pow_zero, Nat.mod_one, Nat.mul_zero, Nat.xor_zero], HB6.out⟩
  case round =>
    obtain ⟨j, z, hj, rfl, hown, hzl, hnum, hbw⟩ := hrel
    have HO := Lib.hid hown
    have HZ := Lib.hid hzl
    have HM := Lib.hid hnum
    have HW := Lib.hid hbw
    clear hown hzl hnum hbw
    by_cases hj32 : j < 32
    · have hand : bits BinOp.and IntKind.u32 ((p : Int) / 2 ^ j) 1 = ((p / 2 ^ j % 2 : Nat) : Int) := by
        have h := u32_and_nat (p / 2 ^ j) 1 (Nat.lt_of_le_of_lt (Nat.div_le_self _ _) hp) (by omega)
        rw [nat_mask1] at h
        simpa using h
      have hmod := mod_next p j
      rcases Nat.mod_two_eq_zero_or_one (p / 2 ^ j) with hbit | hbit
      · rw [hbit] at hand
        rw [hbit, if_neg (by omega), Nat.xor_zero] at hmod
        have HMOD := Lib.hid hmod
        have HBIT := Lib.hid hbit
        clear hmod hbit
        go_wp2_with fail
        exact ⟨⟨j + 1, z, by omega, by go_num, HO.out, HZ.out, by rw [HMOD.out]; exact HM.out, HW.out⟩, by simp [intOf]; omega⟩
      · rw [hbit] at hand
        rw [hbit, if_pos rfl] at hmod
        have HMOD := Lib.hid hmod
        have HBIT := Lib.hid hbit
        clear hmod hbit
        have hq : (k + j) / 8 < n + 4 := by omega
        have hcell := HO.out.cellAt ((k + j) / 8) (by omega)
        have hfr := HO.out.frozenAt ((k + j) / 8)
        have hgl' := HO.out.lt g rfl
        have e1 : (bs z)[(k + j) / 8]? = some (.int .u8 ((z[(k + j) / 8]'(by rw [HZ.out]; exact hq)).toNat : Int)) := by
          rw [List.getElem?_eq_getElem (by rw [bs_length, HZ.out]; exact hq), bs_get z _ (by rw [HZ.out]; exact hq)]
        rw [e1] at hcell
        clear e1
        have hzb := (z[(k + j) / 8]'(by rw [HZ.out]; exact hq)).toNat_lt
        generalize hzv : (z[(k + j) / 8]'(by rw [HZ.out]; exact hq)).toNat = zv at *
        have HZV := Lib.hid hzv
        clear hzv
        obtain ⟨t, ht⟩ : ∃ t : Nat, k + j = t := ⟨_, rfl⟩
        obtain ⟨q, hqt⟩ : ∃ q : Nat, t / 8 = q := ⟨_, rfl⟩
        obtain ⟨b, hbt⟩ : ∃ b : Nat, t % 8 = b := ⟨_, rfl⟩
        have f1 : IntKind.i64.wrap ((k : Int) + (j : Int)) = (t : Int) := by rw [IntWalk.i64_in _ (by omega)]; omega
        have g1 : IntKind.i64.wrap ((t : Int) / 8) = (q : Int) := by rw [IntWalk.i64_in _ (by omega)]; omega
        have g2 : (t : Int).tmod 8 = (b : Int) := by rw [Int.tmod_eq_emod_of_nonneg (by omega)]; omega
        have fa : (0 : Int) ≤ (q : Int) := by omega
        have fb : (q : Int) < ((n + 4 : Nat) : Int) := by omega
        have fc : (q : Int) < (n : Int) + 4 := by omega
        have fd : (0 : Int) ≤ (b : Int) := by omega
        have fe : (b : Int) < 8 := by omega
        obtain ⟨hxb, hsh⟩ := flip_u8 zv b hzb (by omega)
        rw [ht, hqt] at hcell hfr
        have HT8 := Lib.hid ht
        have HQ8 := Lib.hid hqt
        have HB8 := Lib.hid hbt
        clear ht hqt hbt hgl'
        go_wp2_with fail
        go_still_tail 19, (by kernel_rfl)
        change wpList _ _ _ _ _ wr.drew
        have hcell' : wr.drew.cell? ⟨g, q, none⟩ = some (.int .u8 (zv : Int)) := hcell
        have hfr' : wr.drew.frozen? ⟨g, q, none⟩ = false := hfr
        go_wp2_with fail
        go_roundw
        case rel =>
          refine ⟨j + 1, z.set q (UInt8.ofNat (zv ^^^ 2 ^ b)), by omega, by go_num, ?_, by rw [List.length_set]; exact HZ.out, ?_, (HW.out.setCell (p := ⟨g, q, none⟩) hgb _).drew⟩
          · have h := HO.out.stored q (.int .u8 ((zv ^^^ 2 ^ b : Nat) : Int))
            have e : bs (z.set q (UInt8.ofNat (zv ^^^ 2 ^ b))) = (bs z).set q (.int .u8 ((zv ^^^ 2 ^ b : Nat) : Int)) := by
              rw [bs, List.map_set, b8, UInt8.toNat_ofNat', Nat.mod_eq_of_lt hxb]
              rfl
            rw [e]
            exact h.1
          · have hqz : q < z.length := by rw [HZ.out]; omega
            have hy : (UInt8.ofNat (zv ^^^ 2 ^ b)).toNat = z[q].toNat ^^^ 2 ^ b := by
              rw [UInt8.toNat_ofNat', Nat.mod_eq_of_lt hxb, ← HZV.out]
              congr 3
              rw [HT8.out, HQ8.out]
            rw [num8_set z q b _ hqz hy, HM.out, Nat.xor_assoc]
            congr 1
            rw [HMOD.out, mulpow_xor]
            congr 1
            have e : 8 * q + b = k + j := by rw [HT8.out, ← HQ8.out, ← HB8.out]; omega
            rw [e, Nat.pow_add]
        case measure => simp [intOf]; omega
    · obtain rfl : j = 32 := by omega
      have hmod : p % 2 ^ 32 = p := Nat.mod_eq_of_lt (by omega)
      have hzne : ¬ z.drop n = le4 (more 0 (z.take n)) := by
        intro h
        have hM := HM.out
        rw [hmod] at hM
        exact burst l z n k p hp (by omega) (by rw [HN.out]; omega) (by rw [HN.out]; exact HZ.out) hM ((sealed_of_cut z n).2 h)
      have HZN := Lib.hid hzne
      clear hmod hzne
      have hRz := Rd.of_own HO.out
      have HRz := Lib.hid hRz
      obtain ⟨_, _, hcz, hccap, _⟩ := owns_form HO.out
      injection hcz with e1 _ e2
      subst e1
      subst e2
      clear hRz
      go_wp2_with fail
      refine (open_bad ⟨g, 0, none⟩ n _ z _ (HT.out.below HW.out) HRz.out HZ.out (by unfold maxLen; omega) hccap HZN.out).mono ?_
      rintro e w7 ⟨rfl, hb7⟩
      have HB7 := Lib.hid (HW.out.trans (hb7.mono HW.out.size))
      clear hb7
      go_wp2_with fail
      refine (num_err 6 _ (HG.out.below HB7.out)).mono ?_
      rintro e w8 ⟨rfl, hb8⟩
      have HB8 := Lib.hid (HB7.out.trans (hb8.mono HB7.out.size))
      clear hb8
      go_wp2_with fail
      refine (sure_any _ (HT.out.below HB8.out)).mono ?_
      rintro e w9 ⟨rfl, hb9⟩
      have HB9 := Lib.hid (HB8.out.trans (hb9.mono HB8.out.size))
      clear hb9
      go_wp2_with fail
      go_ret
      exact ⟨rfl, HB9.out⟩

set_option maxRecDepth 100000 in
set_option maxHeartbeats 1000000 in
theorem bursts_zero (A : Option Addr) (n c : Nat) (l : List UInt8) (at_ : Int) (w : World) (ht : Tab w) (hr : Rd w A (bs l)) (hn : l.length = n) (h4 : n ≤ 4000) :
    Calls Tryd.prog 6 #[.slice A n c, .int .i64 at_, .int .u32 0] w fun e w' => e = .returned (.bool true) ∧ Below w.heap.size w w' := by
  have HT := Lib.hid ht
  have HR := Lib.hid hr
  have HN := Lib.hid hn
  have CV : ∀ (W : World) (X : Option Addr) (j cc : Nat) (q : List UInt8), q.length = j → Rd W X (bs q) → (convert 22 9 (.slice X j cc)).run Tryd.prog W = .ok (.string (str q)) W := fun W X j cc q hj hR =>
    run_conv_str (P := Tryd.prog) Tryd.underlying22 Tryd.underlying5 Tryd.underlying9 hj hR
  have HCV := Lib.hid CV
  clear ht hr hn CV
  go_enter Tryd.func6, Tryd.ntmps6
  go_wp2_with fail
  refine (seal_n A n c l _ HN.out HT.out HR.out (by omega)).mono ?_
  rintro e w1 ⟨v1, rfl, hown1, hb1⟩
  obtain ⟨A1, c1, rfl, hc1, _, _, hR1, _⟩ := owns_form hown1
  have HB1 := Lib.hid hb1
  have HR1 := Lib.hid hR1
  clear hown1 hb1 hR1
  go_wp2_with fail
  refine (open_sealed A1 (n + 4) c1 l _ (by rw [HN.out]) (HT.out.below HB1.out) HR1.out (by omega) hc1).mono ?_
  rintro e w3 ⟨v3, rfl, hown3, hb3⟩
  rw [HN.out] at hown3
  obtain ⟨A3, c3, rfl, hc3, _, _, hR3, _⟩ := owns_form hown3
  have HB3 := Lib.hid (HB1.out.trans (hb3.mono HB1.out.size))
  have cv4 := HCV.out w3 A3 n c3 l HN.out hR3
  have cv5 := HCV.out w3 A n c l HN.out (HR.out.below HB3.out)
  clear hown3 hb3 hR3
  go_wp2_with fail
  refine (sure_any _ (HT.out.below HB3.out)).mono ?_
  rintro e w9 ⟨rfl, hb9⟩
  have HB9 := Lib.hid (HB3.out.trans (hb9.mono HB3.out.size))
  clear hb9
  go_wp2_with fail
  go_ret
  exact ⟨rfl, HB9.out⟩

theorem bursts_any (A : Option Addr) (c : Nat) (l : List UInt8) (at_ p : Int) (w : World) (ht : Tab w) (hg : ErrT w) (hr : Rd w A (bs l)) (_ : l.length ≤ c) (_ : c ≤ maxLen)
    (ha : -9223372036854775808 ≤ at_ ∧ at_ ≤ 9223372036854775807) (hp : 0 ≤ p ∧ p ≤ 4294967295) :
    Calls Tryd.prog 6 #[.slice A l.length c, .int .i64 at_, .int .u32 p] w fun e w' => e = .returned (.bool true) ∧ Below w.heap.size w w' := by
  obtain ⟨m, rfl⟩ := Int.eq_ofNat_of_zero_le hp.1
  rcases Nat.lt_or_ge 4000 l.length with h | h
  · have HT := Lib.hid ht
    clear ht hg hr
    go_enter Tryd.func6, Tryd.ntmps6
    go_wp2_with fail
    refine (sure_any _ HT.out).mono ?_
    rintro e w2 ⟨rfl, hb2⟩
    go_wp2_with fail
    go_ret
    exact ⟨rfl, hb2⟩
  · rcases Nat.eq_zero_or_pos m with h0 | h0
    · subst h0
      exact bursts_zero A l.length c l at_ w ht hr rfl h
    · exact bursts_core A l.length c l at_ m w ht hg hr rfl h (by omega) h0 ha
end Go.Proofs.YtbemloijgabfcaaDoor

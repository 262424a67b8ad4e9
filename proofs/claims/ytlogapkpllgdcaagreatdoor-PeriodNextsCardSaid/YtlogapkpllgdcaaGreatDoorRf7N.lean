/- The document's Next. -/
import Derived.Test.YtlogapkpllgdcaaGreatDoorRf7I
import Derived.Test.YtlogapkpllgdcaaGreatDoorRf7C
import Derived.IntWalk
import Derived.Deep.Cut
namespace Go.Proofs.YtlogapkpllgdcaaGreatDoor
open Go.RowKit

set_option maxRecDepth 100000 in
set_option maxHeartbeats 1000000 in
theorem refNxt_no (l : List Prd) (v : Value) (i t o b : Int) (w : World) (hset : HPd w v l) (he : errX l i t o b ≠ 0) :
    Calls Tryz.prog 15 #[v, .int .i64 i, .int .i64 t, .int .i64 o, .int .i64 b] w fun e w' => e = .returned (.tuple #[.int .i64 0, .bool false, .int .i64 (errX l i t o b)]) ∧ Below w.heap.size w w' := by
  by_cases hI : errI l i t o = 0
  · have hr : b < 0 ∨ 34560000 < b := by
      by_cases h : b < 0 ∨ 34560000 < b
      · exact h
      · exact absurd (by unfold errX; rw [if_pos hI, if_neg h]) he
    have e1 : errX l i t o b = 1 := by unfold errX; rw [if_pos hI, if_pos hr]
    rw [e1]
    obtain ⟨h7, ht1, ht2, ho1, ho2⟩ := errI_zero hI
    obtain ⟨hc, hi1, hi2⟩ := err7_zero h7
    obtain ⟨q, rfl⟩ : ∃ q : Nat, i = q := ⟨i.toNat, by omega⟩
    obtain ⟨d, hd⟩ : ∃ d, (t + o) / 86400 = d := ⟨_, rfl⟩
    obtain ⟨s, hs⟩ : ∃ s : Nat, (t + o) % 86400 = s := ⟨((t + o) % 86400).toNat, by omega⟩
    have HI := Lib.hid (refIn_ok l v q t o d s w hset hI hd hs)
    generalize secF l d q s = bb at *
    have hr2 : b < 0 ∨ (¬ b < 0 ∧ 34560000 < b) := by omega
    clear he hI hr e1 h7 hc hi1 hi2 hd hs hset
    rcases hr2 with h1 | ⟨h1, h2⟩
    · have d1 : decide (b < 0) = true := decide_eq_true h1
      go_enter Tryz.func15, Tryz.ntmps15
      go_wp2_with fail
      refine HI.out.mono ?_
      rintro e w1 ⟨rfl, hb1⟩
      have HB := Lib.hid hb1
      clear hb1
      go_wp2_with fail
      go_ret3
      exact ⟨rfl, HB.out⟩
    · have d1 : decide (b < 0) = false := decide_eq_false h1
      have d2 : decide (34560000 < b) = true := decide_eq_true h2
      go_enter Tryz.func15, Tryz.ntmps15
      go_wp2_with fail
      refine HI.out.mono ?_
      rintro e w1 ⟨rfl, hb1⟩
      have HB := Lib.hid hb1
      clear hb1
      go_wp2_with fail
      go_ret3
      exact ⟨rfl, HB.out⟩
  · have e1 : errX l i t o b = errI l i t o := by unfold errX; rw [if_neg hI]
    rw [e1]
    have HI := Lib.hid (refIn_no l v i t o w hset hI)
    generalize errI l i t o = k at *
    clear he e1 hset
    go_enter Tryz.func15, Tryz.ntmps15
    go_wp2_with fail
    refine HI.out.mono ?_
    rintro e w1 ⟨rfl, hb1⟩
    have HB := Lib.hid hb1
    clear hb1
    go_wp2_with fail
    go_ret3
    exact ⟨rfl, HB.out⟩
/-- What it hands back. -/
def RefX (p : Int → Bool) (t z : Int) (w : World) (e : Ending) (w' : World) : Prop := ∃ x f, e = .returned (.tuple #[.int .i64 x, .bool f, .int .i64 0]) ∧ NextAns p t z f x ∧ Below w.heap.size w w'
set_option maxRecDepth 100000 in
set_option maxHeartbeats 1000000 in
theorem refNxt_ok (l : List Prd) (v : Value) (i : Nat) (t o b : Int) (w : World) (hset : HPd w v l) (he : errX l i t o b = 0) :
    Calls Tryz.prog 15 #[v, .int .i64 i, .int .i64 t, .int .i64 o, .int .i64 b] w (RefX (inT l i o) t (t + lim t b) w) := by
  obtain ⟨hI, hb1, hb2⟩ := errX_zero he
  obtain ⟨h7, ht1, ht2, ho1, ho2⟩ := errI_zero hI
  obtain ⟨hc, hi1, hi2⟩ := err7_zero h7
  obtain ⟨d, hd⟩ : ∃ d, (t + o) / 86400 = d := ⟨_, rfl⟩
  obtain ⟨s, hs⟩ : ∃ s : Nat, (t + o) % 86400 = s := ⟨((t + o) % 86400).toNat, by omega⟩
  have hd1 : -1 ≤ d := by omega
  have hd2 : d ≤ 53375995583655 := by omega
  have HI := Lib.hid (refIn_ok l v i t o d s w hset hI hd hs)
  have HH := Lib.hid (fun W (hW : Below w.heap.size w W) (n q : Nat) (hn : n ≤ 401) => show Calls _ _ _ _ fun e w' => e = .returned (.bool (secF l (d + n) i q)) ∧ Below W.heap.size W w' from refHas_any l v (d + n) q i W (good_of hc) (by omega) (by omega) (by omega) (hset.below hW))
  have HS := Lib.hid (fun W => refSplit_ok t o d s W ht1 ht2 ho1 ho2 hd hs)
  have HBO := Lib.hid (fun W (hW : Below w.heap.size w W) => refBord_any l v W (good_of hc) (hset.below hW))
  have HE := Lib.hid (And.intro hd (And.intro hs hb2))
  have HLM := Lib.hid (show 0 ≤ lim t b by unfold lim; split <;> omega)
  have HLB := Lib.hid (show ∀ X : Int, X ≤ b → X ≤ 4611686018427387904 - t → X ≤ lim t b by intro X h1 h2; unfold lim; split <;> omega)
  have HLC := Lib.hid (show ∀ X : Int, X ≤ lim t b → X ≤ b ∧ X ≤ 4611686018427387904 - t by intro X h1; unfold lim at h1; split at h1 <;> omega)
  have hdb1 : decide (b < 0) = false := decide_eq_false (by omega)
  have hdb2 : decide (34560000 < b) = false := decide_eq_false (by omega)
  have hz1 : ¬ b < 0 := by omega
  have hz2 : ¬ 34560000 < b := by omega
  obtain ⟨si, hsi⟩ : ∃ si : Int, (s : Int) = si := ⟨_, rfl⟩
  have hs0 : 0 ≤ si := by omega
  have hs9 : si < 86400 := by omega
  rw [hsi] at HS
  have HSI := Lib.hid hsi
  obtain ⟨z, hz⟩ : ∃ z, lim t b = z := ⟨_, rfl⟩
  rw [hz] at HLM HLB HLC ⊢
  have HZ := Lib.hid hz
  obtain ⟨A, c, E, U, rfl, _, _, _⟩ := hset
  obtain ⟨n, hn⟩ : ∃ n, l.length = n := ⟨_, rfl⟩
  rw [hn] at HI HH HBO ⊢
  obtain ⟨bb, hbb⟩ : ∃ x, secF l d i s = x := ⟨_, rfl⟩
  rw [hbb] at HI
  have HBB := Lib.hid hbb
  clear he hI h7 hc hi1 hi2 hd hs hz hn hbb hsi
  cases bb with
  | true =>
    have HF := Lib.hid (ref_here (i := i) (b := b) HE.out.1 HE.out.2.1 HBB.out (by rw [HZ.out]; exact HLM.out))
    rw [HZ.out] at HF
    go_enter Tryz.func15, Tryz.ntmps15
    go_wp2_with fail
    refine HI.out.mono ?_
    rintro e w1 ⟨rfl, hb1⟩
    have HB := Lib.hid hb1
    clear hb1
    go_wp2_with fail
    go_ret3
    exact ⟨_, _, rfl, HF.out, HB.out⟩
  | false =>
    go_enter Tryz.func15, Tryz.ntmps15
    go_wp2_with fail
    refine HI.out.mono ?_
    rintro e w1 ⟨rfl, hb1⟩
    have HB1 := Lib.hid hb1
    clear hb1
    go_wp2_with fail
    refine (HS.out _).mono ?_
    rintro e w2 ⟨rfl, rfl⟩
    go_wp2_with fail
    refine (HBO.out _ HB1.out).mono ?_
    rintro e w2 ⟨u, L, rfl, hbr, hown, hb2⟩
    have HB2 := Lib.hid (HB1.out.trans (hb2.mono HB1.out.size))
    have HBR := Lib.hid hbr
    obtain ⟨N, hN⟩ : ∃ N, L.length = N := ⟨_, rfl⟩
    rw [hN] at hown
    obtain ⟨AL, cL, rfl, _, _, _, hrd, _⟩ := owns_form hown
    have hN9 : (N : Int) ≤ 86400 := by have := hbr.len; omega
    have HRD := Lib.hid hrd
    have HLN := Lib.hid hN
    clear hb2 hbr hown hrd hN
    go_wp2_with fail
    go_loopw [19] (fun x wr => ∃ a : Nat, a ≤ 402 ∧ x = .int .i64 a ∧ (∀ m q, m < a → q < L.length → Rej l L i d s z m q) ∧ Below w2.heap.size w2 wr) (fun x _ => 402 - (intOf x).toNat)
    case atStart => exact ⟨0, Nat.zero_le _, rfl, fun m q h => (Nat.not_lt_zero _ h).elim, Below.refl _ _⟩
    case round =>
      obtain ⟨a, ha, rfl, hrj, hb⟩ := hrel
      obtain ⟨w3, hw3⟩ : ∃ w3, w3 = wr := ⟨_, rfl⟩
      subst hw3
      have HBW := Lib.hid hb
      have HRJ := Lib.hid hrj
      clear hb hrj
      by_cases hat : (a : Int) ≤ 401
      · have HA1 := Lib.hid (show a + 1 ≤ 402 by omega)
        have HA4 := Lib.hid (show a ≤ 401 by omega)
        have ha0 : (0 : Int) ≤ a := by omega
        clear ha
        go_wp2_with fail
        go_loopw [20] (fun x wr => ∃ k : Nat, k ≤ N ∧ x = .int .i64 k ∧ (∀ q, q < k → Rej l L i d s z a q) ∧ Below w2.heap.size w2 wr) (fun x _ => N - (intOf x).toNat)
        case atStart => exact ⟨0, Nat.zero_le _, rfl, fun q h => (Nat.not_lt_zero _ h).elim, HBW.out⟩
        case round =>
          obtain ⟨k, hk, rfl, hrk, hb⟩ := hrel
          obtain ⟨w4, hw4⟩ : ∃ w4, w4 = wr := ⟨_, rfl⟩
          subst hw4
          have HBK := Lib.hid hb
          have HRK := Lib.hid hrk
          clear hb hrk
          by_cases hkt : (k : Int) < N
          · have HK1 := Lib.hid (show k + 1 ≤ N by omega)
            have hkl : k < L.length := by rw [HLN.out]; omega
            obtain ⟨ad, hAL, hc⟩ := HRD.out (by rw [natL, List.length_map]; omega)
            have hc := hc k _ (natL_get L k hkl)
            obtain ⟨x, hx⟩ : ∃ x : Nat, L.getD k 0 = x := ⟨_, rfl⟩
            have hx8 := HBR.out.lt k hkl
            rw [hx] at hc hx8
            have y1 := cell_below hc HBK.out
            have HX := Lib.hid hx
            have HKL := Lib.hid hkl
            obtain ⟨xi, hxi⟩ : ∃ xi : Int, (x : Int) = xi := ⟨_, rfl⟩
            have hx0 : 0 ≤ xi := by omega
            have hx9 : xi < 86400 := by omega
            have HHX := Lib.hid (show ∀ W, Below w.heap.size w W → Calls Tryz.prog 22 #[.slice A n c, .int .i64 i, .int .i64 (d + a), .int .i64 xi] W fun e w' => e = .returned (.bool (secF l (d + a) i x)) ∧ Below W.heap.size W w' from fun W hW => by
              have := HH.out W hW a x HA4.out
              rw [hxi] at this
              exact this)
            rw [hxi] at y1
            have HXI := Lib.hid hxi
            obtain ⟨X, hX⟩ : ∃ X : Int, 86400 * (a : Int) + xi - si = X := ⟨_, rfl⟩
            have hXa : -86400 ≤ X := by omega
            have hXb : X ≤ 34732800 := by omega
            have HXE := Lib.hid hX
            have HBW4 := Lib.hid (HB2.out.trans (HBK.out.mono HB2.out.size))
            have HBY := Lib.hid (show 86400 * (a : Int) + (L.getD k 0 : Nat) - s = X by rw [HX.out, HXI.out, HSI.out]; exact HXE.out)
            subst hAL
            clear hx hkl hc hx8 hxi
            go_upto_region 17 with (fail)
            clear hX
            have HNX := Lib.hid (show Rej l L i d s z a k → ∀ q, q < k + 1 → Rej l L i d s z a q from fun h q hq => by
              rcases Nat.lt_or_ge q k with h1 | h1
              · exact HRK.out q h1
              · rw [show q = k by omega]; exact h)
            by_cases c1 : X ≤ 0
            · have d1 : decide (X ≤ 0) = true := decide_eq_true c1
              have HRN := Lib.hid (HNX.out (.inl (by rw [HBY.out]; exact c1)))
              go_wp2_with fail
              go_round
              case rel => exact ⟨k + 1, HK1.out, by go_num, HRN.out, HBK.out⟩
              case measure => simp [intOf]; omega
            have d1 : decide (X ≤ 0) = false := decide_eq_false c1
            by_cases c2 : b < X
            · have d2 : decide (b < X) = true := decide_eq_true c2
              have HRN := Lib.hid (HNX.out (.inr (.inl (by rw [HBY.out]; have := HLC.out X; omega))))
              go_wp2_with fail
              go_round
              case rel => exact ⟨k + 1, HK1.out, by go_num, HRN.out, HBK.out⟩
              case measure => simp [intOf]; omega
            have d2 : decide (b < X) = false := decide_eq_false c2
            by_cases c3 : 4611686018427387904 - t < X
            · have d3 : decide (4611686018427387904 - t < X) = true := decide_eq_true c3
              have HRN := Lib.hid (HNX.out (.inr (.inl (by rw [HBY.out]; have := HLC.out X; omega))))
              go_wp2_with fail
              go_round
              case rel => exact ⟨k + 1, HK1.out, by go_num, HRN.out, HBK.out⟩
              case measure => simp [intOf]; omega
            have d3 : decide (4611686018427387904 - t < X) = false := decide_eq_false c3
            obtain ⟨hv, hhv⟩ : ∃ y, secF l (d + a) i x = y := ⟨_, rfl⟩
            rw [hhv] at HHX
            have HV := Lib.hid hhv
            clear hhv
            cases hv with
            | false =>
              go_wp2_with fail
              refine (HHX.out _ HBW4.out).mono ?_
              rintro e w5 ⟨rfl, hb5⟩
              have HB5 := Lib.hid (HBK.out.trans (hb5.mono HBK.out.size))
              have HRN := Lib.hid (HNX.out (.inr (.inr (by rw [HX.out]; exact HV.out))))
              clear hb5
              go_wp2_with fail
              go_round
              case rel => exact ⟨k + 1, HK1.out, by go_num, HRN.out, HB5.out⟩
              case measure => simp [intOf]; omega
            | true =>
              have HF := Lib.hid (ref_hit (b := b) HBR.out HE.out.1 HE.out.2.1 HBB.out HKL.out (by rw [HZ.out]; exact HRJ.out) (by rw [HZ.out]; exact HRK.out) (by rw [HBY.out]; omega) (by rw [HZ.out, HBY.out]; exact HLB.out X (by omega) (by omega)) (by rw [HX.out]; exact HV.out))
              rw [HZ.out, HBY.out] at HF
              go_wp2_with fail
              refine (HHX.out _ HBW4.out).mono ?_
              rintro e w5 ⟨rfl, hb5⟩
              have HB5 := Lib.hid (HBW4.out.trans (hb5.mono HBW4.out.size))
              clear hb5
              go_wp2_with fail
              go_ret3
              exact ⟨_, _, rfl, HF.out, HB5.out⟩
          · have HF := Lib.hid (show ∀ m q, m < a + 1 → q < L.length → Rej l L i d s z m q from fun m q hm hq => by
              rcases Nat.lt_or_ge m a with h | h
              · exact HRJ.out m q h hq
              · have e : m = a := by omega
                subst e
                exact HRK.out q (by rw [HLN.out] at hq; omega))
            go_wp2_with fail
            go_round
            case rel => exact ⟨a + 1, HA1.out, by go_num, HF.out, HBK.out⟩
            case measure => simp [intOf]; omega
      · have HF := Lib.hid (ref_none HBR.out HE.out.1 HE.out.2.1 HBB.out HE.out.2.2 (by rw [HZ.out]; exact fun m q hm hq => HRJ.out m q (by omega) hq))
        rw [HZ.out] at HF
        go_wp2_with fail
        go_ret3
        exact ⟨_, _, rfl, HF.out, HB2.out.trans (HBW.out.mono HB2.out.size)⟩
end Go.Proofs.YtlogapkpllgdcaaGreatDoor

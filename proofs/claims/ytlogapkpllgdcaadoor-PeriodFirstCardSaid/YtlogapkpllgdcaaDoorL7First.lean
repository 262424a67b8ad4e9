/- PeriodFirst's walk: the first time that is in a period. -/
import Derived.Test.YtlogapkpllgdcaaDoorL7Seconds
import Derived.Deep.Cut
namespace Go.Proofs.YtlogapkpllgdcaaDoor
open Go.RowKit

theorem err_nxt {l : List Prd} {i t o b : Int} (h : errX l i t o b = 0) : errI l i t o = 0 := (errX_zero h).1
set_option maxRecDepth 100000 in
set_option maxHeartbeats 400000 in
theorem first_walk (l : List Prd) (v : Value) (i t o b z : Int) (w : World) (ht : Tab w) (hz : Tz w) (hset : HPd w v l) (_ : -9223372036854775808 ≤ i ∧ i ≤ 9223372036854775807) (_ : -9223372036854775808 ≤ t ∧ t ≤ 9223372036854775807)
    (_ : -9223372036854775808 ≤ o ∧ o ≤ 9223372036854775807) (_ : -9223372036854775808 ≤ b ∧ b ≤ 9223372036854775807) (_ : -9223372036854775808 ≤ z ∧ z ≤ 9223372036854775807) :
    Calls Tryd.prog 3 #[v, .int .i64 i, .agg #[.int .i64 t, .int .i64 o, .int .i64 b, .int .i64 z]] w fun e w' => e = .returned (.bool true) ∧ Below w.heap.size w w' := by
  have hal : Below w.heap.size w (w.alloc (.cells #[.int .i64 t, .int .i64 o, .int .i64 b, .int .i64 z] 23)) := (Below.refl w.heap.size w).alloc (Nat.le_refl _) _
  have G0 := Lib.hid (heap_alloc_new w (.cells #[.int .i64 t, .int .i64 o, .int .i64 b, .int .i64 z] 23))
  have HW0 := Lib.hid hal
  obtain ⟨w0, hw0⟩ : ∃ w0, w.alloc (.cells #[.int .i64 t, .int .i64 o, .int .i64 b, .int .i64 z] 23) = w0 := ⟨_, rfl⟩
  have HS := Lib.hid (fun W (hW : Below w.heap.size w W) => sure_any W (ht.below hW) (hz.below hW))
  have HH := Lib.hid (huge_any l v _ (hset.below hal))
  have HG := Lib.hid (fun h1 h2 => give_any l v _ (hset.below hal) h1 h2)
  rw [hw0] at HH HG G0 HW0
  have HE0 := Lib.hid hw0
  clear hw0 hal
  by_cases hbig : hugeB l = true
  · rw [hbig] at HH
    obtain ⟨A, c, E, U, rfl, _, _, _⟩ := hset
    clear HG
    go_enter Tryd.func3, Tryd.ntmps3
    go_wp2_with fail
    rw [HE0.out]
    refine HH.out.mono ?_
    rintro e w1 ⟨rfl, rfl⟩
    go_wp2_with fail
    refine (HS.out _ HW0.out).mono ?_
    rintro e w2 ⟨rfl, hb⟩
    have HB := Lib.hid (HW0.out.trans (hb.mono HW0.out.size))
    clear hb
    go_wp2_with fail
    go_ret
    exact ⟨rfl, HB.out⟩
  have hsm : hugeB l = false := by simpa using hbig
  rw [hsm] at HH
  obtain ⟨hl, hb⟩ := not_huge hsm
  have HGV := Lib.hid (HG.out hl hb)
  have HI := Lib.hid (fun u x a q W (hW : Below w.heap.size w W) (hs : HPd W u l) (h : errI l x a q = 0) => in_ok l u x a q W (ht.below hW) hs h)
  have HN := Lib.hid (fun u x a q W (hW : Below w.heap.size w W) (hs : HPd W u l) (h : errI l x a q ≠ 0) => in_no l u x a q W (ht.below hW) hs h)
  have HX := Lib.hid (fun u x a q r W (hW : Below w.heap.size w W) (hs : HPd W u l) (h : errX l x a q r ≠ 0) => nxt_no l u x a q r W (ht.below hW) hs h)
  have HY := Lib.hid (fun u (x : Nat) a q r W (hW : Below w.heap.size w W) (hs : HPd W u l) (h : errX l x a q r = 0) => nxt_ok l u x a q r W (ht.below hW) (hz.below hW) hs h)
  obtain ⟨A, c, E, U, rfl, _, _, _⟩ := hset
  obtain ⟨n, hn⟩ : ∃ n, l.length = n := ⟨_, rfl⟩
  rw [hn] at HH HGV ⊢
  have HN9 := Lib.hid hn
  clear hbig hsm hb hl ht hz HG hn
  have hg0 := G0.out
  go_enter Tryd.func3, Tryd.ntmps3
  go_wp2_with fail
  rw [HE0.out]
  refine HH.out.mono ?_
  rintro e w1 ⟨rfl, rfl⟩
  go_wp2_with fail
  refine HGV.out.mono ?_
  rintro e w2 ⟨u, rfl, hset, hb2⟩
  have HB2 := Lib.hid (HW0.out.trans (hb2.mono HW0.out.size))
  have G2 := Lib.hid ((hb2.block _ (Array.getElem?_eq_some_iff.1 hg0).1).trans hg0)
  have HSET := Lib.hid hset
  have z0 := cell_blk G2.out 0 (v := .int .i64 t) rfl
  have z1 := cell_blk G2.out 1 (v := .int .i64 o) rfl
  have z2 := cell_blk G2.out 2 (v := .int .i64 b) rfl
  clear hb2 hg0 hset
  go_wp2_with fail
  go_quiet (fail)
  have HBQ := Lib.hid (HB2.out.trans ((below_drewN w2 nq).mono HB2.out.size))
  have HSQ := Lib.hid (HSET.out.below (below_drewN w2 nq))
  have GQ := Lib.hid (((below_drewN w2 nq).block _ (Array.getElem?_eq_some_iff.1 G2.out).1).trans G2.out)
  obtain ⟨w3, hw3⟩ : ∃ w3, w2.drewN nq = w3 := ⟨_, rfl⟩
  rw [hw3] at HBQ HSQ GQ ⊢
  clear z0 z1 z2 hw3 HB2 HSET G2
  go_wp2_with fail
  by_cases he : errX l i t o b = 0
  case neg =>
    refine (HX.out u i t o b _ HBQ.out HSQ.out he).mono ?_
    rintro e w4 ⟨rfl, hb4⟩
    have HB4 := Lib.hid (HBQ.out.trans (hb4.mono HBQ.out.size))
    have HS4 := Lib.hid (HSQ.out.below hb4)
    rw [errE_ne he]
    unfold errK
    clear hb4 he
    go_wp2_with fail
    by_cases hI : errI l i t o = 0
    · refine (HI.out u i t o _ HB4.out HS4.out hI).mono ?_
      rintro e w5 ⟨rfl, hb5⟩
      have HB5 := Lib.hid (HB4.out.trans (hb5.mono HB4.out.size))
      generalize inT l i o t = bb
      clear hb5 hI
      go_wp2_with fail
      refine (HS.out _ HB5.out).mono ?_
      rintro e w6 ⟨rfl, hb6⟩
      have HB6 := Lib.hid (HB5.out.trans (hb6.mono HB5.out.size))
      clear hb6
      go_wp2_with fail
      go_ret
      exact ⟨rfl, HB6.out⟩
    · refine (HN.out u i t o _ HB4.out HS4.out hI).mono ?_
      rintro e w5 ⟨rfl, hb5⟩
      have HB5 := Lib.hid (HB4.out.trans (hb5.mono HB4.out.size))
      rw [errE_ne hI]
      unfold errK
      clear hb5 hI
      go_wp2_with fail
      refine (HS.out _ HB5.out).mono ?_
      rintro e w6 ⟨rfl, hb6⟩
      have HB6 := Lib.hid (HB5.out.trans (hb6.mono HB5.out.size))
      clear hb6
      go_wp2_with fail
      go_ret
      exact ⟨rfl, HB6.out⟩
  obtain ⟨hI, hbb1, hbb2⟩ := errX_zero he
  obtain ⟨h7, ht1, ht2, ho1, ho2⟩ := errI_zero hI
  obtain ⟨hc, hi1, hi2⟩ := err7_zero h7
  obtain ⟨q, rfl⟩ : ∃ q : Nat, i = q := ⟨i.toNat, by omega⟩
  have HEI := Lib.hid (show ∀ x : Int, 0 ≤ x → x ≤ 4611686018427387904 → errI l q x o = 0 from fun x h1 h2 => errI_none h7 h1 h2 ho1 ho2)
  refine (HY.out u q t o b _ HBQ.out HSQ.out he).mono ?_
  rintro e w4 ⟨x, f, rfl, hans, hb4⟩
  have HB4 := Lib.hid (HBQ.out.trans (hb4.mono HBQ.out.size))
  have HS4 := Lib.hid (HSQ.out.below hb4)
  have G4 := Lib.hid ((hb4.block _ (Array.getElem?_eq_some_iff.1 GQ.out).1).trans GQ.out)
  have HI4 := Lib.hid (HI.out u q t o _ HB4.out HS4.out hI)
  clear hb4 he hI h7 hc
  rcases hans with ⟨rfl, a1, a2, a3, a4⟩ | ⟨rfl, rfl, a1⟩
  · obtain ⟨X, hX⟩ : ∃ X, X = x := ⟨_, rfl⟩
    subst hX
    have hXZ : X ≤ 4611686018427387904 := by unfold lim at a2; split at a2 <;> omega
    have HXZ := Lib.hid (show X ≤ 4611686018427387905 by omega)
    have HXX := Lib.hid (HI.out u q X o)
    have hpt : inT l q o t = decide (X = t) := by
      by_cases h : X = t
      · rw [decide_eq_true h, ← h]; exact a3
      · rw [decide_eq_false h]; exact a4 t (Int.le_refl _) (by omega)
    rw [hpt] at HI4
    have HA4 := Lib.hid a4
    have HA3 := Lib.hid a3
    have HEX := Lib.hid (HEI.out X (by omega) hXZ)
    have d1 : decide (X < t) = false := decide_eq_false (by omega)
    clear a2 a3 a4 hpt hXZ
    go_wp2_with fail
    refine HI4.out.mono ?_
    rintro e w7 ⟨rfl, hb7⟩
    have HB7 := Lib.hid (HB4.out.trans (hb7.mono HB4.out.size))
    have HS7 := Lib.hid (HS4.out.below hb7)
    have G7 := Lib.hid ((hb7.block _ (Array.getElem?_eq_some_iff.1 G4.out).1).trans G4.out)
    have HIX := Lib.hid (HXX.out _ HB7.out HS7.out HEX.out)
    rw [HA3.out] at HIX
    have HPF := Lib.hid (show ∀ u, t ≤ u → u < X → inT l q o u = false from HA4.out)
    clear hb7
    by_cases hXt : X = t
    · subst hXt
      go_wp2_with fail
      refine HIX.out.mono ?_
      rintro e w5 ⟨rfl, hb5⟩
      have HB5 := Lib.hid (HB7.out.trans (hb5.mono HB7.out.size))
      clear hb5
      go_wp2_with fail
      go_loopw [18] (fun s wr => s = .int .i64 0 ∧ w5 = wr) (fun _ _ => 0)
      case atStart => exact ⟨rfl, rfl⟩
      case round =>
        obtain ⟨rfl, rfl⟩ := hrel
        have HSX := Lib.hid (HS.out _ HB5.out)
        go_wp2_with fail
        refine HSX.out.mono ?_
        rintro e w6 ⟨rfl, hb6⟩
        have HB6 := Lib.hid (HB5.out.trans (hb6.mono HB5.out.size))
        clear hb6
        go_wp2_with fail
        go_ret
        exact ⟨rfl, HB6.out⟩
    · have d2 : decide (X = t) = false := decide_eq_false hXt
      rw [d2]

      go_wp2_with fail
      refine HIX.out.mono ?_
      rintro e w5 ⟨rfl, hb5⟩
      have HB5 := Lib.hid (HB7.out.trans (hb5.mono HB7.out.size))
      have HS5 := Lib.hid (HS7.out.below hb5)
      have G5 := Lib.hid ((hb5.block _ (Array.getElem?_eq_some_iff.1 G7.out).1).trans G7.out)
      clear hb5
      go_wp2_with fail
      go_loopw [18] (fun s wr => ∃ k : Nat, k ≤ 12 ∧ s = .int .i64 k ∧ Below w5.heap.size w5 wr) (fun s _ => 12 - (intOf s).toNat)
      case atStart => exact ⟨0, Nat.zero_le _, rfl, Below.refl _ _⟩
      case round =>
        obtain ⟨k, hk, rfl, hb⟩ := hrel
        obtain ⟨w6, hw6⟩ : ∃ w6, w6 = wr := ⟨_, rfl⟩
        subst hw6
        have HBR := Lib.hid hb
        have HBW := Lib.hid (HB5.out.trans (hb.mono HB5.out.size))
        have HSW := Lib.hid (HS5.out.below hb)
        have y3 := cell_blk ((hb.block _ (Array.getElem?_eq_some_iff.1 G5.out).1).trans G5.out) 3 (v := .int .i64 z) rfl
        clear hb
        by_cases hlt : (k : Int) < 12 ∧ t < X
        · obtain ⟨h1, h2⟩ := hlt
          have HK1 := Lib.hid (show k + 1 ≤ 12 by omega)
          have d1 : decide ((k : Int) < 12) = true := decide_eq_true h1
          have d2 : decide (t < X) = true := decide_eq_true h2
          have hX2 : X ≤ 4611686018427387905 := HXZ.out
          have hD1 : IntKind.u64.wrap (X - t) = X - t := by unfold IntKind.wrap; simp [IntKind.signed, IntKind.bits]; omega
          have hD0 : ¬ (X - t = 0) := by omega
          go_wp2_with fail
          obtain ⟨D, hD⟩ : ∃ D : Nat, X - t = D := ⟨(X - t).toNat, by omega⟩
          obtain ⟨j, hj, hj2⟩ := rem_any7 (wrap64 (z + (k : Int) * 7919)) D (by omega) (by omega)
          rw [← hD] at hj
          obtain ⟨S, hS⟩ : ∃ S, t + (j : Int) = S := ⟨_, rfl⟩
          have hw : wrap64 (t + (j : Int)) = S := by rw [IntWalk.wrap64_in _ ⟨by omega, by omega⟩]; exact hS
          have hS1 : t ≤ S := by omega
          have hS2 : S < X := by omega
          have HIS := Lib.hid (HI.out u q S o _ HBW.out HSW.out (HEI.out S (by omega) (by omega)))
          rw [HPF.out S hS1 hS2] at HIS
          rw [hj, hw]
          clear hj hj2 hS hw hS1 hS2 hD
          refine HIS.out.mono ?_
          rintro e w7 ⟨rfl, hb7⟩
          have HB7 := Lib.hid (HBR.out.trans (hb7.mono HBR.out.size))
          clear hb7 hD1 hD0
          go_wp2_with fail
          go_round
          case rel => exact ⟨k + 1, HK1.out, by go_num, HB7.out⟩
          case measure => simp [intOf]; omega
        · have HSX := Lib.hid (HS.out _ HBW.out)
          have hcs : ¬ ((k : Int) < 12) ∨ ((k : Int) < 12 ∧ ¬ t < X) := by omega
          clear hlt
          rcases hcs with h1 | ⟨h1, h2⟩
          · have d1 : decide ((k : Int) < 12) = false := decide_eq_false h1
            go_wp2_with fail
            refine HSX.out.mono ?_
            rintro e w7 ⟨rfl, hb7⟩
            have HB7 := Lib.hid (HBW.out.trans (hb7.mono HBW.out.size))
            clear hb7
            go_wp2_with fail
            go_ret
            exact ⟨rfl, HB7.out⟩
          · have d1 : decide ((k : Int) < 12) = true := decide_eq_true h1
            have d2 : decide (t < X) = false := decide_eq_false h2
            go_wp2_with fail
            refine HSX.out.mono ?_
            rintro e w7 ⟨rfl, hb7⟩
            have HB7 := Lib.hid (HBW.out.trans (hb7.mono HBW.out.size))
            clear hb7
            go_wp2_with fail
            go_ret
            exact ⟨rfl, HB7.out⟩
  · obtain ⟨L, hL⟩ : ∃ L, lim t b = L := ⟨_, rfl⟩
    have hL2 : (if 4611686018427387904 - t < b then 4611686018427387904 - t else b) = L := by rw [← hL]; unfold lim; split <;> split <;> omega
    have hL0 : 0 ≤ L := by rw [← hL]; unfold lim; split <;> omega
    have hL1 : t + L ≤ 4611686018427387904 := by rw [← hL]; unfold lim; split <;> omega
    have hpt : inT l q o t = false := a1 t (Int.le_refl _) (by rw [hL]; omega)
    rw [hpt] at HI4
    have HA1 := Lib.hid a1
    have HLL := Lib.hid hL
    obtain ⟨X, hX⟩ : ∃ X, t + L + 1 = X := ⟨_, rfl⟩
    have d1 : decide (X < t) = false := decide_eq_false (by omega)
    have a1' : t ≤ X := by omega
    have HXZ := Lib.hid (show X ≤ 4611686018427387905 by omega)
    have HPF := Lib.hid (show ∀ u, t ≤ u → u < X → inT l q o u = false from fun u h1 h2 => HA1.out u h1 (by rw [HLL.out]; omega))
    have HXE := Lib.hid hX
    clear a1 hpt hL hX
    go_wp2_with fail
    refine HI4.out.mono ?_
    rintro e w5 ⟨rfl, hb5⟩
    have HB5 := Lib.hid (HB4.out.trans (hb5.mono HB4.out.size))
    have HS5 := Lib.hid (HS4.out.below hb5)
    have G5 := Lib.hid ((hb5.block _ (Array.getElem?_eq_some_iff.1 G4.out).1).trans G4.out)
    clear hb5
    go_upto_region 11 with (fail)
    rw [HXE.out]
    have a1 := a1'
    clear hL2 hL0 hL1
    go_wp2_with fail
    go_loopw [18] (fun s wr => ∃ k : Nat, k ≤ 12 ∧ s = .int .i64 k ∧ Below w5.heap.size w5 wr) (fun s _ => 12 - (intOf s).toNat)
    case atStart => exact ⟨0, Nat.zero_le _, rfl, Below.refl _ _⟩
    case round =>
      obtain ⟨k, hk, rfl, hb⟩ := hrel
      obtain ⟨w6, hw6⟩ : ∃ w6, w6 = wr := ⟨_, rfl⟩
      subst hw6
      have HBR := Lib.hid hb
      have HBW := Lib.hid (HB5.out.trans (hb.mono HB5.out.size))
      have HSW := Lib.hid (HS5.out.below hb)
      have y3 := cell_blk ((hb.block _ (Array.getElem?_eq_some_iff.1 G5.out).1).trans G5.out) 3 (v := .int .i64 z) rfl
      clear hb
      by_cases hlt : (k : Int) < 12 ∧ t < X
      · obtain ⟨h1, h2⟩ := hlt
        have HK1 := Lib.hid (show k + 1 ≤ 12 by omega)
        have d1 : decide ((k : Int) < 12) = true := decide_eq_true h1
        have d2 : decide (t < X) = true := decide_eq_true h2
        have hX2 : X ≤ 4611686018427387905 := HXZ.out
        have hD1 : IntKind.u64.wrap (X - t) = X - t := by unfold IntKind.wrap; simp [IntKind.signed, IntKind.bits]; omega
        have hD0 : ¬ (X - t = 0) := by omega
        go_wp2_with fail
        obtain ⟨D, hD⟩ : ∃ D : Nat, X - t = D := ⟨(X - t).toNat, by omega⟩
        obtain ⟨j, hj, hj2⟩ := rem_any7 (wrap64 (z + (k : Int) * 7919)) D (by omega) (by omega)
        rw [← hD] at hj
        obtain ⟨S, hS⟩ : ∃ S, t + (j : Int) = S := ⟨_, rfl⟩
        have hw : wrap64 (t + (j : Int)) = S := by rw [IntWalk.wrap64_in _ ⟨by omega, by omega⟩]; exact hS
        have hS1 : t ≤ S := by omega
        have hS2 : S < X := by omega
        have HIS := Lib.hid (HI.out u q S o _ HBW.out HSW.out (HEI.out S (by omega) (by omega)))
        rw [HPF.out S hS1 hS2] at HIS
        rw [hj, hw]
        clear hj hj2 hS hw hS1 hS2 hD
        refine HIS.out.mono ?_
        rintro e w7 ⟨rfl, hb7⟩
        have HB7 := Lib.hid (HBR.out.trans (hb7.mono HBR.out.size))
        clear hb7 hD1 hD0
        go_wp2_with fail
        go_round
        case rel => exact ⟨k + 1, HK1.out, by go_num, HB7.out⟩
        case measure => simp [intOf]; omega
      · have HSX := Lib.hid (HS.out _ HBW.out)
        have hcs : ¬ ((k : Int) < 12) ∨ ((k : Int) < 12 ∧ ¬ t < X) := by omega
        clear hlt
        rcases hcs with h1 | ⟨h1, h2⟩
        · have d1 : decide ((k : Int) < 12) = false := decide_eq_false h1
          go_wp2_with fail
          refine HSX.out.mono ?_
          rintro e w7 ⟨rfl, hb7⟩
          have HB7 := Lib.hid (HBW.out.trans (hb7.mono HBW.out.size))
          clear hb7
          go_wp2_with fail
          go_ret
          exact ⟨rfl, HB7.out⟩
        · have d1 : decide ((k : Int) < 12) = true := decide_eq_true h1
          have d2 : decide (t < X) = false := decide_eq_false h2
          go_wp2_with fail
          refine HSX.out.mono ?_
          rintro e w7 ⟨rfl, hb7⟩
          have HB7 := Lib.hid (HBW.out.trans (hb7.mono HBW.out.size))
          clear hb7
          go_wp2_with fail
          go_ret
          exact ⟨rfl, HB7.out⟩
end Go.Proofs.YtlogapkpllgdcaaDoor

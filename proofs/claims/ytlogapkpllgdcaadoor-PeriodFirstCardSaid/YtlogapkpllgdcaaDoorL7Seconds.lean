/- PeriodSeconds' walk: a second of a day is in a period just where it is in one of the day's spans. -/
import Derived.Test.YtlogapkpllgdcaaDoorL7Less
import Derived.Deep.QuietTactic
import Derived.BigQuiet
import Derived.IntWalk
import Derived.Deep.Cut
namespace Go.Proofs.YtlogapkpllgdcaaDoor
open Go.RowKit

theorem Can.at7 {lo : Int} {l : List Spn} (h : Can lo l) : ∀ k, k < l.length → lo < (l.getD k dS).f ∧ (l.getD k dS).f < (l.getD k dS).t ∧ (l.getD k dS).t ≤ 86400 ∧ (0 < k → (l.getD (k - 1) dS).t < (l.getD k dS).f) := by
  induction l generalizing lo with
  | nil => intro k hk; cases hk
  | cons a l ih =>
    obtain ⟨h1, h2, h3, h4⟩ := h
    intro k hk
    cases k with
    | zero => exact ⟨h1, h2, h3, fun h => (Nat.not_lt_zero _ h).elim⟩
    | succ k =>
      have hk' : k < l.length := by simpa using hk
      obtain ⟨g1, g2, g3, g4⟩ := ih h4 k hk'
      refine ⟨?_, by simpa using g2, by simpa using g3, fun _ => ?_⟩
      · simp only [List.getD_cons_succ]; omega
      · cases k with
        | zero => simpa using g1
        | succ k => simpa using g4 (by omega)
theorem Can.len7 {lo : Int} {l : List Spn} (h : Can lo l) (h5 : lo ≤ 86400) : (l.length : Int) + lo ≤ 86400 := by
  induction l generalizing lo with
  | nil => simpa using h5
  | cons a l ih =>
    obtain ⟨h1, h2, h3, h4⟩ := h
    rw [List.length_cons]
    have := ih h4 h3
    omega
theorem err_day {l : List Prd} {i d : Int} (h1 : -70368744177664 ≤ d) (h2 : d ≤ 70368744177664) : errD l i d = err7 l i := by
  unfold errD
  split
  · rw [if_neg (by omega)]; omega
  · rfl
theorem err_in {l : List Prd} {i : Int} : errI l i 0 0 = err7 l i := by
  unfold errI badT
  split
  · rw [if_neg (by omega)]; omega
  · rfl
theorem rem_any7 (T : Int) (b : Nat) (h0 : 0 < b) (hb : b ≤ 4611686018427387905) : ∃ j : Nat, wrap64 ((IntKind.u64.wrap T).tmod b) = (j : Int) ∧ j < b := by
  obtain ⟨j, hj, hj2⟩ := u64_rem7 T b h0
  exact ⟨j, by rw [hj]; exact IntWalk.wrap64_in _ ⟨by omega, by omega⟩, hj2⟩
/-- A time of a day, by its second. -/
theorem inT_sec (l : List Prd) (q dd j : Nat) (hj : j < 86400) : inT l q 0 (86400 * (dd : Int) + j) = secF l dd q j := by
  unfold inT secF
  rw [show (86400 * (dd : Int) + j + 0) / 86400 = dd by omega, show ((86400 * (dd : Int) + j + 0) % 86400).toNat = j by omega, show ((q : Int)).toNat = q by omega]
set_option maxRecDepth 100000 in
set_option maxHeartbeats 2000000 in
theorem seconds_walk (l : List Prd) (v : Value) (i x y : Int) (w : World) (ht : Tab w) (hz : Tz w) (hset : HPd w v l) (_ : -9223372036854775808 ≤ i ∧ i ≤ 9223372036854775807) (_ : -9223372036854775808 ≤ x ∧ x ≤ 9223372036854775807) (_ : -9223372036854775808 ≤ y ∧ y ≤ 9223372036854775807) :
    Calls Tryd.prog 4 #[v, .int .i64 i, .agg #[.int .i64 x, .int .i64 y]] w fun e w' => e = .returned (.bool true) ∧ Below w.heap.size w w' := by
  have hal : Below w.heap.size w (w.alloc (.cells #[.int .i64 x, .int .i64 y] 36)) := (Below.refl w.heap.size w).alloc (Nat.le_refl _) _
  have G0 := Lib.hid (heap_alloc_new w (.cells #[.int .i64 x, .int .i64 y] 36))
  have HW0 := Lib.hid hal
  obtain ⟨w0, hw0⟩ : ∃ w0, w.alloc (.cells #[.int .i64 x, .int .i64 y] 36) = w0 := ⟨_, rfl⟩
  have HS := Lib.hid (fun W (hW : Below w.heap.size w W) => sure_any W (ht.below hW) (hz.below hW))
  have HH := Lib.hid (huge_any l v _ (hset.below hal))
  have HG := Lib.hid (fun h1 h2 => give_any l v _ (hset.below hal) h1 h2)
  rw [hw0] at HH HG G0 HW0
  have HE0 := Lib.hid hw0
  clear hw0 hal
  by_cases hbig : hugeB l = true
  · rw [hbig] at HH
    obtain ⟨A, c, E, U, rfl, _, _, _⟩ := hset
    clear HG
    go_enter Tryd.func4, Tryd.ntmps4
    go_wp2_with fail
    rw [HE0.out]
    refine HH.out.mono ?_
    rintro e w1 ⟨rfl, rfl⟩
    go_wp2_with fail
    refine (HS.out _ HW0.out).mono ?_
    rintro e w2 ⟨rfl, hb⟩
    have HB := Lib.hid (HW0.out.trans (hb.mono HW0.out.size))
    clear hb
    go_wp2_with fail
    go_ret
    exact ⟨rfl, HB.out⟩
  have hsm : hugeB l = false := by simpa using hbig
  rw [hsm] at HH
  obtain ⟨hl, hb⟩ := not_huge hsm
  have HGV := Lib.hid (HG.out hl hb)
  have HI := Lib.hid (fun u x a o W (hW : Below w.heap.size w W) (hs : HPd W u l) (h : errI l x a o = 0) => in_ok l u x a o W (ht.below hW) hs h)
  have HN := Lib.hid (fun u x a o W (hW : Below w.heap.size w W) (hs : HPd W u l) (h : errI l x a o ≠ 0) => in_no l u x a o W (ht.below hW) hs h)
  have HD := Lib.hid (fun u x a W (hW : Below w.heap.size w W) (hs : HPd W u l) (h : errD l x a ≠ 0) => day_no l u x a W (ht.below hW) hs h)
  have HY := Lib.hid (fun u (x : Nat) a W (hW : Below w.heap.size w W) (hs : HPd W u l) (h : errD l x a = 0) => day_ok l u x a W (ht.below hW) (hz.below hW) hs h)
  obtain ⟨A, c, E, U, rfl, _, _, _⟩ := hset
  obtain ⟨n, hn⟩ : ∃ n, l.length = n := ⟨_, rfl⟩
  rw [hn] at HH HGV ⊢
  obtain ⟨a, ha, ha2⟩ := u64_rem7 x 30000 (by omega)
  have ha' : (IntKind.u64.wrap x).tmod 30000 = (a : Int) := ha
  have hw' : wrap64 ((IntKind.u64.wrap x).tmod 30000) = (a : Int) := by rw [ha']; exact IntWalk.wrap64_in _ ⟨by omega, by omega⟩
  have HA2 := Lib.hid ha2
  have HN9 := Lib.hid hn
  clear hbig hsm hb hl ht hz HG ha ha' ha2 hn
  have hg0 := G0.out
  go_enter Tryd.func4, Tryd.ntmps4
  go_wp2_with fail
  rw [HE0.out]
  refine HH.out.mono ?_
  rintro e w1 ⟨rfl, rfl⟩
  go_wp2_with fail
  refine HGV.out.mono ?_
  rintro e w2 ⟨u, rfl, hset, hb2⟩
  have HSET := Lib.hid hset
  have HB2 := Lib.hid (HW0.out.trans (hb2.mono HW0.out.size))
  have G2 := Lib.hid ((hb2.block _ (Array.getElem?_eq_some_iff.1 hg0).1).trans hg0)
  have z0 := cell_blk G2.out 0 (v := .int .i64 x) rfl
  have z1 := cell_blk G2.out 1 (v := .int .i64 y) rfl
  clear hset hb2 hg0
  go_wp2_with fail
  rw [hw']
  clear hw' z0 z1
  by_cases he : err7 l i = 0
  case neg =>
    have heD : errD l i a ≠ 0 := by rw [err_day (by omega) (by have := HA2.out; omega)]; exact he
    have heI : errI l i 0 0 ≠ 0 := by rw [err_in]; exact he
    have HNX := Lib.hid (fun W (hW : Below w.heap.size w W) (hs : HPd W u l) => HN.out u i 0 0 W hW hs heI)
    refine (HD.out u i a _ HB2.out HSET.out heD).mono ?_
    rintro e w3 ⟨rfl, hb3⟩
    have HB3 := Lib.hid (HB2.out.trans (hb3.mono HB2.out.size))
    have HS3 := Lib.hid (HSET.out.below hb3)
    rw [errE_ne heD]
    rw [errE_ne heI] at HNX
    unfold errK at HNX ⊢
    clear hb3 heD heI he
    go_wp2_with fail
    refine (HNX.out _ HB3.out HS3.out).mono ?_
    rintro e w4 ⟨rfl, hb4⟩
    have HB4 := Lib.hid (HB3.out.trans (hb4.mono HB3.out.size))
    clear hb4
    go_wp2_with fail
    refine (HS.out _ HB4.out).mono ?_
    rintro e w5 ⟨rfl, hb5⟩
    have HB5 := Lib.hid (HB4.out.trans (hb5.mono HB4.out.size))
    clear hb5
    go_wp2_with fail
    go_ret
    exact ⟨rfl, HB5.out⟩
  obtain ⟨hc, hi1, hi2⟩ := err7_zero he
  obtain ⟨q, rfl⟩ : ∃ q : Nat, i = q := ⟨i.toNat, by omega⟩
  have heD : errD l q a = 0 := by rw [err_day (by omega) (by have := HA2.out; omega)]; exact he
  have HEI := Lib.hid (show ∀ j : Nat, j < 86400 → errI l q (86400 * (a : Int) + j) 0 = 0 from fun j hj => errI_none he (by omega) (by have := HA2.out; omega) (by omega) (by omega))
  refine (HY.out u q a _ HB2.out HSET.out heD).mono ?_
  rintro e w3 ⟨uo, o, rfl, hsp, hcan, hsec, hb3⟩
  have HB3 := Lib.hid (HB2.out.trans (hb3.mono HB2.out.size))
  have HS3 := Lib.hid (HSET.out.below hb3)
  have G3 := Lib.hid ((hb3.block _ (Array.getElem?_eq_some_iff.1 G2.out).1).trans G2.out)
  have HSEC := Lib.hid hsec
  obtain ⟨ao, co, rfl, _, _, hk⟩ := hsp
  obtain ⟨m, hm⟩ : ∃ m, o.length = m := ⟨_, rfl⟩
  rw [hm] at hk ⊢
  have HK := Lib.hid hk
  have hat := hcan.at7
  rw [hm] at hat
  have HAT := Lib.hid hat
  have HM := Lib.hid hm
  have hm9 : (m : Int) ≤ 86401 := by have := hcan.len7 (by omega); rw [hm] at this; omega
  clear hk hat hm hcan hsec hb3 heD he hc
  go_wp2_with fail
  go_loopw [13] (fun s wr => ∃ k : Nat, k ≤ m ∧ s = .int .i64 k ∧ Below w3.heap.size w3 wr) (fun s _ => m - (intOf s).toNat)
  case atStart => exact ⟨0, Nat.zero_le _, rfl, Below.refl _ _⟩
  case round =>
    obtain ⟨k, hk, rfl, hb⟩ := hrel
    obtain ⟨w4, hw4⟩ : ∃ w4, w4 = wr := ⟨_, rfl⟩
    subst hw4
    have HB := Lib.hid hb
    clear hb
    by_cases hlt : k < m
    · obtain ⟨ad, X, hao, hX, c1, c2⟩ := HK.out k hlt
      obtain ⟨f1, f2, f3, f4⟩ := HAT.out k hlt
      obtain ⟨fk, hfk⟩ : ∃ f, (o.getD k dS).f = f := ⟨_, rfl⟩
      obtain ⟨tk, htk⟩ : ∃ t, (o.getD k dS).t = t := ⟨_, rfl⟩
      rw [hfk] at f1 f2 f4 c1
      rw [htk] at f2 f3 c2
      have y1 := cell_below c1 HB.out
      have y2 := cell_below c2 HB.out
      subst hao
      have hlt2 : (k : Int) < m := by omega
      have d1 : decide (tk ≤ fk) = false := decide_eq_false (by omega)
      have d2 : decide (fk < 0) = false := decide_eq_false (by omega)
      have d3 : decide (86400 < tk) = false := decide_eq_false (by omega)
      have hk1 : k + 1 ≤ m := hlt
      have HK1 := Lib.hid hk1
      have hkb : (k : Int) ≤ 86401 := by omega
      have h0k : (0 : Int) ≤ k := by omega
      by_cases hk0 : k = 0
      · have d4 : decide (0 < (k : Int)) = false := decide_eq_false (by omega)
        have d6 : decide (0 < k) = false := decide_eq_false (by omega)
        clear c1 c2 hfk htk f1 f2 f3 f4 hk0 hk1
        go_wp2_with fail
        go_quiet (fail)
        have HB5 := Lib.hid (HB.out.trans ((below_drewN w4 nq).mono HB.out.size))
        go_wp2_with fail
        go_round
        case rel => exact ⟨k + 1, HK1.out, by go_num, HB5.out⟩
        case measure => simp [intOf]; omega
      · obtain ⟨j, hj⟩ : ∃ j, k = j + 1 := ⟨k - 1, by omega⟩
        have f5 := f4 (by omega)
        rw [show k - 1 = j by omega] at f5
        obtain ⟨ad', X', hao', hX', _, c3⟩ := HK.out j (by omega)
        obtain rfl := Option.some.inj hao'
        obtain ⟨tp, htp⟩ : ∃ t, (o.getD j dS).t = t := ⟨_, rfl⟩
        rw [htp] at f5 c3
        have y3 := cell_below c3 HB.out
        have d4 : decide (0 < (k : Int)) = true := decide_eq_true (by omega)
        have d6 : decide (0 < k) = true := decide_eq_true (by omega)
        have d5 : decide (fk ≤ tp) = false := decide_eq_false (by omega)
        have hjm : (j : Int) < m := by omega
        have h0j : (0 : Int) ≤ j := by omega
        have hsub : IntKind.i64.wrap ((k : Int) - 1) = j := by rw [IntWalk.i64_in _ (by omega)]; omega
        clear c1 c2 c3 hfk htk htp f1 f2 f3 f4 f5 hk0 hk1 hj hao'
        go_wp2_with fail
        go_quiet (fail)
        have HB5 := Lib.hid (HB.out.trans ((below_drewN w4 nq).mono HB.out.size))
        clear hsub
        go_wp2_with fail
        go_round
        case rel => exact ⟨k + 1, HK1.out, by go_num, HB5.out⟩
        case measure => simp [intOf]; omega
    · have hkm : k = m := by omega
      subst hkm
      obtain ⟨m, hmm⟩ : ∃ m, m = k := ⟨_, rfl⟩
      subst hmm
      have HB4 := Lib.hid HB.out
      clear hlt hk
      go_wp2_with fail
      go_loopw [14] (fun s wr => ∃ k : Nat, k ≤ 20 ∧ s = .int .i64 k ∧ Below w3.heap.size w3 wr) (fun s _ => 20 - (intOf s).toNat)
      case atStart => exact ⟨0, Nat.zero_le _, rfl, HB.out⟩
      case round =>
        obtain ⟨k, hk, rfl, hb⟩ := hrel
        obtain ⟨w5, hw5⟩ : ∃ w5, w5 = wr := ⟨_, rfl⟩
        subst hw5
        have HBR := Lib.hid hb
        have HBW := Lib.hid (HB3.out.trans (hb.mono HB3.out.size))
        have HSW := Lib.hid (HS3.out.below hb)
        have z1 := cell_blk ((hb.block _ (Array.getElem?_eq_some_iff.1 G3.out).1).trans G3.out) 1 (v := .int .i64 y) rfl
        clear hb
        by_cases hlt : (k : Int) < 20
        · have hk1 : k + 1 ≤ 20 := by omega
          have HK1 := Lib.hid hk1
          have hk9 : (k : Int) ≤ 20 := by omega
          clear hk1
          by_cases hkm : (k : Int) < m
          · obtain ⟨ad, X, hao, hX, c1, _⟩ := HK.out k (by omega)
            obtain ⟨f1, f2, f3, _⟩ := HAT.out k (by omega)
            obtain ⟨j, hj⟩ : ∃ j : Nat, (o.getD k dS).f = j := ⟨((o.getD k dS).f).toNat, by omega⟩
            have hj2 : j < 86400 := by omega
            rw [hj] at c1
            have y1 := cell_below c1 HBR.out
            subst hao
            clear c1 f1 f2 f3 hj
            have HIN := Lib.hid (HI.out u q (86400 * (a : Int) + j) 0 _ HBW.out HSW.out (HEI.out j hj2))
            rw [inT_sec l q a j hj2, HSEC.out j hj2] at HIN
            obtain ⟨bo, hbo⟩ : ∃ b, (o.any fun s => inS s j) = b := ⟨_, rfl⟩
            rw [hbo] at HIN
            have HBO := Lib.hid hbo
            have ha9 : (a : Int) ≤ 30000 := by have := HA2.out; omega
            have hj9 : (j : Int) ≤ 86400 := by omega
            clear hj2 hbo
            go_wp2_with fail
            refine HIN.out.mono ?_
            rintro e w6 ⟨rfl, hb6⟩
            have HB6 := Lib.hid (HBR.out.trans (hb6.mono HBR.out.size))
            clear hb6
            go_wp2_with fail
            go_loopw [18, 19] (fun h s wr => ∃ z : Nat, z ≤ m ∧ s = .int .i64 z ∧ h = .bool ((o.take z).any fun s => inS s j) ∧ Below w3.heap.size w3 wr) (fun _ s _ => m - (intOf s).toNat)
            case atStart => exact ⟨0, Nat.zero_le _, rfl, rfl, HB6.out⟩
            case round =>
              obtain ⟨z, hz, rfl, rfl, hb⟩ := hrel
              obtain ⟨w7, hw7⟩ : ∃ w7, w7 = wr := ⟨_, rfl⟩
              subst hw7
              have HB7 := Lib.hid hb
              clear hb
              by_cases hlz : z < m
              · have htk := any_take (fun s => inS s j) o dS z (by rw [HM.out]; exact hlz)
                obtain ⟨ad7, X7, hao, hX7, c1, c2⟩ := HK.out z hlz
                obtain ⟨fz, hfz⟩ : ∃ f, (o.getD z dS).f = f := ⟨_, rfl⟩
                obtain ⟨tz, htz⟩ : ∃ t, (o.getD z dS).t = t := ⟨_, rfl⟩
                have hin : inS (o.getD z dS) j = (decide (fz ≤ (j : Int)) && decide ((j : Int) < tz)) := by rw [← hfz, ← htz]; rfl
                rw [hfz] at c1
                rw [htz] at c2
                have y1 := cell_below c1 HB7.out
                have y2 := cell_below c2 HB7.out
                simp only [hin] at htk
                obtain ⟨h1, hh1⟩ : ∃ b, ((o.take z).any fun s => inS s j) = b := ⟨_, rfl⟩
                rw [hh1] at htk ⊢
                have HT := Lib.hid htk
                have HZ1 := Lib.hid (show z + 1 ≤ m by omega)
                have hz9 : (z : Int) ≤ 86401 := by omega
                clear c1 c2 hfz htz hin htk hh1
                cases hao
                cases h1 with
                | true =>
                  go_wp2_with fail
                  go_round
                  case rel => exact ⟨z + 1, HZ1.out, by go_num, by rw [HT.out]; rfl, HB7.out⟩
                  case measure => simp [intOf]; omega
                | false =>
                  by_cases hf : fz ≤ (j : Int)
                  · have d1 : decide (fz ≤ (j : Int)) = true := decide_eq_true hf
                    by_cases hg : (j : Int) < tz
                    · have d2 : decide ((j : Int) < tz) = true := decide_eq_true hg
                      rw [d1, d2] at HT
                      clear hf hg
                      go_wp2_with fail
                      go_round
                      case rel => exact ⟨z + 1, HZ1.out, by go_num, by rw [HT.out]; rfl, HB7.out⟩
                      case measure => simp [intOf]; omega
                    · have d2 : decide ((j : Int) < tz) = false := decide_eq_false hg
                      rw [d1, d2] at HT
                      clear hf hg
                      go_wp2_with fail
                      go_round
                      case rel => exact ⟨z + 1, HZ1.out, by go_num, by rw [HT.out]; rfl, HB7.out⟩
                      case measure => simp [intOf]; omega
                  · have d1 : decide (fz ≤ (j : Int)) = false := decide_eq_false hf
                    rw [d1] at HT
                    clear hf
                    go_wp2_with fail
                    go_round
                    case rel => exact ⟨z + 1, HZ1.out, by go_num, by rw [HT.out]; rfl, HB7.out⟩
                    case measure => simp [intOf]; omega
              · have hzm : z = m := by omega
                have hall : ((o.take z).any fun s => inS s j) = bo := by rw [hzm, List.take_of_length_le (by rw [HM.out]; exact Nat.le_refl _)]; exact HBO.out
                rw [hall]
                have d1 : decide ((z : Int) < m) = false := decide_eq_false (by omega)
                clear hall
                cases bo
                all_goals (go_wp2_with fail; go_round)
                all_goals first | exact ⟨k + 1, HK1.out, by go_num, HB7.out⟩ | (simp [intOf]; omega)
          · have hd : decide ((k : Int) < m) = false := decide_eq_false hkm
            go_upto_region 18 with (fail)
            obtain ⟨j, hj, hj2⟩ := rem_any7 (wrap64 (y + (k : Int) * 4099)) 86400 (by omega) (by omega)
            rw [show wrap64 ((IntKind.u64.wrap (wrap64 (y + (k : Int) * 4099))).tmod 86400) = (j : Int) from hj]
            clear hj
            have HIN := Lib.hid (HI.out u q (86400 * (a : Int) + j) 0 _ HBW.out HSW.out (HEI.out j hj2))
            rw [inT_sec l q a j hj2, HSEC.out j hj2] at HIN
            obtain ⟨bo, hbo⟩ : ∃ b, (o.any fun s => inS s j) = b := ⟨_, rfl⟩
            rw [hbo] at HIN
            have HBO := Lib.hid hbo
            have ha9 : (a : Int) ≤ 30000 := by have := HA2.out; omega
            have hj9 : (j : Int) ≤ 86400 := by omega
            clear hj2 hbo
            go_wp2_with fail
            refine HIN.out.mono ?_
            rintro e w6 ⟨rfl, hb6⟩
            have HB6 := Lib.hid (HBR.out.trans (hb6.mono HBR.out.size))
            clear hb6
            go_wp2_with fail
            go_loopw [18, 19] (fun h s wr => ∃ z : Nat, z ≤ m ∧ s = .int .i64 z ∧ h = .bool ((o.take z).any fun s => inS s j) ∧ Below w3.heap.size w3 wr) (fun _ s _ => m - (intOf s).toNat)
            case atStart => exact ⟨0, Nat.zero_le _, rfl, rfl, HB6.out⟩
            case round =>
              obtain ⟨z, hz, rfl, rfl, hb⟩ := hrel
              obtain ⟨w7, hw7⟩ : ∃ w7, w7 = wr := ⟨_, rfl⟩
              subst hw7
              have HB7 := Lib.hid hb
              clear hb
              by_cases hlz : z < m
              · have htk := any_take (fun s => inS s j) o dS z (by rw [HM.out]; exact hlz)
                obtain ⟨ad7, X7, hao, hX7, c1, c2⟩ := HK.out z hlz
                obtain ⟨fz, hfz⟩ : ∃ f, (o.getD z dS).f = f := ⟨_, rfl⟩
                obtain ⟨tz, htz⟩ : ∃ t, (o.getD z dS).t = t := ⟨_, rfl⟩
                have hin : inS (o.getD z dS) j = (decide (fz ≤ (j : Int)) && decide ((j : Int) < tz)) := by rw [← hfz, ← htz]; rfl
                rw [hfz] at c1
                rw [htz] at c2
                have y1 := cell_below c1 HB7.out
                have y2 := cell_below c2 HB7.out
                simp only [hin] at htk
                obtain ⟨h1, hh1⟩ : ∃ b, ((o.take z).any fun s => inS s j) = b := ⟨_, rfl⟩
                rw [hh1] at htk ⊢
                have HT := Lib.hid htk
                have HZ1 := Lib.hid (show z + 1 ≤ m by omega)
                have hz9 : (z : Int) ≤ 86401 := by omega
                clear c1 c2 hfz htz hin htk hh1
                cases hao
                cases h1 with
                | true =>
                  go_wp2_with fail
                  go_round
                  case rel => exact ⟨z + 1, HZ1.out, by go_num, by rw [HT.out]; rfl, HB7.out⟩
                  case measure => simp [intOf]; omega
                | false =>
                  by_cases hf : fz ≤ (j : Int)
                  · have d1 : decide (fz ≤ (j : Int)) = true := decide_eq_true hf
                    by_cases hg : (j : Int) < tz
                    · have d2 : decide ((j : Int) < tz) = true := decide_eq_true hg
                      rw [d1, d2] at HT
                      clear hf hg
                      go_wp2_with fail
                      go_round
                      case rel => exact ⟨z + 1, HZ1.out, by go_num, by rw [HT.out]; rfl, HB7.out⟩
                      case measure => simp [intOf]; omega
                    · have d2 : decide ((j : Int) < tz) = false := decide_eq_false hg
                      rw [d1, d2] at HT
                      clear hf hg
                      go_wp2_with fail
                      go_round
                      case rel => exact ⟨z + 1, HZ1.out, by go_num, by rw [HT.out]; rfl, HB7.out⟩
                      case measure => simp [intOf]; omega
                  · have d1 : decide (fz ≤ (j : Int)) = false := decide_eq_false hf
                    rw [d1] at HT
                    clear hf
                    go_wp2_with fail
                    go_round
                    case rel => exact ⟨z + 1, HZ1.out, by go_num, by rw [HT.out]; rfl, HB7.out⟩
                    case measure => simp [intOf]; omega
              · have hzm : z = m := by omega
                have hall : ((o.take z).any fun s => inS s j) = bo := by rw [hzm, List.take_of_length_le (by rw [HM.out]; exact Nat.le_refl _)]; exact HBO.out
                rw [hall]
                have d1 : decide ((z : Int) < m) = false := decide_eq_false (by omega)
                clear hall
                cases bo
                all_goals (go_wp2_with fail; go_round)
                all_goals first | exact ⟨k + 1, HK1.out, by go_num, HB7.out⟩ | (simp [intOf]; omega)
        · have HSX := Lib.hid (HS.out _ HBW.out)
          go_wp2_with fail
          refine HSX.out.mono ?_
          rintro e w6 ⟨rfl, hb6⟩
          have HB6 := Lib.hid (HBW.out.trans (hb6.mono HBW.out.size))
          clear hb6
          go_wp2_with fail
          go_ret
          exact ⟨rfl, HB6.out⟩
end Go.Proofs.YtlogapkpllgdcaaDoor

/- The document's Check. -/
import Derived.Test.YtlogapkpllgdcaaGreatDoorRf7A
import Derived.Test.YtlogapkpllgdcaaGreatDoorRlQ
import Derived.Test.YtlogapkpllgdcaaGreatDoorPdKe
import Derived.Test.YtlogapkpllgdcaaGreatDoorRf7G
import Derived.Deep.QuietTactic
import Derived.BigQuiet
import Derived.IntWalk
namespace Go.Proofs.YtlogapkpllgdcaaGreatDoor
open Go.RowKit

theorem long_es {p : Prd} (h : 64 < p.es.length) : longP p = true := by unfold longP; rw [decide_eq_true h]; rfl
theorem long_ex {p : Prd} (h : 64 < p.ex.length) : longP p = true := by unfold longP; rw [decide_eq_true h]; simp
theorem long_no {p : Prd} (h1 : ¬ 64 < p.es.length) (h2 : ¬ 64 < p.ex.length) (h3 : p.es.any longE = false) : longP p = false := by
  unfold longP
  rw [decide_eq_false h1, decide_eq_false h2, h3]
  rfl
theorem long_sp {p : Prd} {e : Ent} (h : e ∈ p.es) (h1 : 32 < e.sp.length) : longP p = true := by
  have : p.es.any longE = true := List.any_eq_true.2 ⟨e, h, decide_eq_true h1⟩
  unfold longP
  rw [this]
  simp
theorem short_of7 {l : List Prd} {p : Prd} (hp : p ∈ l) (h : ¬ (64 < l.length ∨ l.any longP = true)) : p.es.length ≤ 64 ∧ p.ex.length ≤ 64 ∧ ∀ e ∈ p.es, e.sp.length ≤ 32 := by
  have hl : ¬ longP p = true := fun hx => h (.inr (List.any_eq_true.2 ⟨p, hp, hx⟩))
  refine ⟨?_, ?_, fun e he => ?_⟩
  · exact Nat.le_of_not_lt fun hx => hl (long_es hx)
  · exact Nat.le_of_not_lt fun hx => hl (long_ex hx)
  · exact Nat.le_of_not_lt fun hx => hl (long_sp he hx)
theorem wrong_may {p : Prd} {e : Ent} (h : e ∈ p.es) (h1 : mayR e.r = false) : wrongP p = true :=
  List.any_eq_true.2 ⟨e, h, by unfold wrongE; rw [h1]; rfl⟩
theorem wrong_sp {p : Prd} {e : Ent} {s : Spn} (h : e ∈ p.es) (hs : s ∈ e.sp) (hb : badS s = true) : wrongP p = true :=
  List.any_eq_true.2 ⟨e, h, by unfold wrongE; rw [List.any_eq_true.2 ⟨s, hs, hb⟩]; simp⟩
set_option maxRecDepth 100000 in
set_option maxHeartbeats 600000 in
theorem refChk_any (l : List Prd) (v : Value) (w : World) (hset : HPd w v l) :
    Calls Tryz.prog 13 #[v] w fun e w' => e = .returned (.int .i64 (chk l)) ∧ Below w.heap.size w w' := by
  obtain ⟨A, c, E, U, rfl, _, _, hk⟩ := hset
  obtain ⟨n, hn⟩ : ∃ n, l.length = n := ⟨_, rfl⟩
  have HK := Lib.hid hk
  have HN := Lib.hid hn
  rw [hn]
  clear hk hn
  by_cases h64 : 64 < n
  · have d1 : decide (64 < (n : Int)) = true := decide_eq_true (by omega)
    have HC := Lib.hid (chk_long (l := l) (.inl (by rw [HN.out]; exact h64)))
    go_enter Tryz.func13, Tryz.ntmps13
    go_wp2_with fail
    go_ret
    exact ⟨by rw [HC.out]; rfl, Below.refl _ _⟩
  have hn9 : (n : Int) ≤ 64 := by omega
  have H64 := Lib.hid (show ¬ 64 < l.length by rw [HN.out]; exact h64)
  go_enter Tryz.func13, Tryz.ntmps13
  go_wp2_with fail
  clear h64
  go_loopw [3] (fun s wr => ∃ i : Nat, i ≤ n ∧ s = .int .i64 i ∧ (l.take i).any longP = false ∧ w = wr) (fun s _ => n - (intOf s).toNat)
  case atStart => exact ⟨0, Nat.zero_le _, rfl, rfl, rfl⟩
  case round =>
    obtain ⟨i, hi, rfl, hnl, rfl⟩ := hrel
    have HNL := Lib.hid hnl
    clear hnl
    by_cases hlt : (i : Int) < n
    · have HI1 := Lib.hid (show i + 1 ≤ n by omega)
      obtain ⟨⟨ad, X, hA, hX, x1, x2⟩, hes, hex⟩ := HK.out i (by rw [HN.out]; omega)
      obtain ⟨p, hp⟩ : ∃ p, l.getD i dP = p := ⟨_, rfl⟩
      have hpm : p ∈ l := by rw [← hp]; exact getD_mem (by rw [HN.out]; omega) dP
      rw [hp] at hes hex
      obtain ⟨Ae, ce, S, hE, _, _, hks⟩ := hes
      obtain ⟨Au, cu, hU, _, _, hku⟩ := hex
      obtain ⟨ne, hne⟩ : ∃ n, p.es.length = n := ⟨_, rfl⟩
      obtain ⟨mu, hmu⟩ : ∃ n, p.ex.length = n := ⟨_, rfl⟩
      rw [hne] at hE hks
      rw [hmu] at hU hku
      rw [hE] at x1
      rw [hU] at x2
      cases hA
      have HX1 := Lib.hid (fun W (hW : Below w.heap.size w W) => cell_below x1 hW)
      have HX2 := Lib.hid (fun W (hW : Below w.heap.size w W) => cell_below x2 hW)
      have HKS := Lib.hid hks
      have HKU := Lib.hid hku
      have HNE := Lib.hid hne
      have HMU := Lib.hid hmu
      have HPM := Lib.hid hpm
      have HPE := Lib.hid hp
      have y1 := HX1.out _ (Below.refl _ _)
      have y2 := HX2.out _ (Below.refl _ _)
      have hlp := any_take longP l dP i (by rw [HN.out]; omega)
      rw [hp] at hlp
      have hwp := any_take wrongP l dP i (by rw [HN.out]; omega)
      rw [hp] at hwp
      have hop := any_take (noneP l.length) l dP i (by rw [HN.out]; omega)
      rw [hp] at hop
      have HLP := Lib.hid hlp
      have HWP := Lib.hid hwp
      have HOP := Lib.hid hop
      clear x1 x2 hks hku hne hmu hpm hE hU hp hlp hwp hop
      by_cases h1 : 64 < ne
      · have d1 : decide (64 < (ne : Int)) = true := decide_eq_true (by omega)
        have HC := Lib.hid (chk_long (l := l) (.inr (List.any_eq_true.2 ⟨p, HPM.out, long_es (by rw [HNE.out]; exact h1)⟩)))
        go_wp2_with fail
        go_ret
        exact ⟨by rw [HC.out]; rfl, Below.refl _ _⟩
      · have d1 : decide (64 < (ne : Int)) = false := decide_eq_false (by omega)
        by_cases h2 : 64 < mu
        · have d2 : decide (64 < (mu : Int)) = true := decide_eq_true (by omega)
          have HC := Lib.hid (chk_long (l := l) (.inr (List.any_eq_true.2 ⟨p, HPM.out, long_ex (by rw [HMU.out]; exact h2)⟩)))
          go_wp2_with fail
          go_ret
          exact ⟨by rw [HC.out]; rfl, Below.refl _ _⟩
        · have d2 : decide (64 < (mu : Int)) = false := decide_eq_false (by omega)
          have hne9 : (ne : Int) ≤ 64 := by omega
          have HL := Lib.hid (show p.es.any longE = false → ((l.take (i + 1)).any longP = false) from fun h => by
            rw [HLP.out, HNL.out, long_no (by rw [HNE.out]; exact h1) (by rw [HMU.out]; exact h2) h]; rfl)
          go_wp2_with fail
          go_loopw [4] (fun s wr => ∃ k : Nat, k ≤ ne ∧ s = .int .i64 k ∧ (p.es.take k).any longE = false ∧ w = wr) (fun s _ => ne - (intOf s).toNat)
          case atStart => exact ⟨0, Nat.zero_le _, rfl, rfl, rfl⟩
          case round =>
            obtain ⟨k, hk, rfl, hnk, rfl⟩ := hrel
            by_cases hkt : (k : Int) < ne
            · obtain ⟨⟨ae, Y, hAe, hY, hat⟩, hsp⟩ := HKS.out k (by omega)
              obtain ⟨en, hen⟩ : ∃ en, p.es.getD k dE = en := ⟨_, rfl⟩
              have hmem : en ∈ p.es := by rw [← hen]; exact getD_mem (by rw [HNE.out]; omega) dE
              have hle := any_take longE p.es dE k (by rw [HNE.out]; omega)
              rw [hen] at hat hsp hle
              obtain ⟨_, _, _, _, _, _, _, _, _, _, c10⟩ := hat
              obtain ⟨As, cs, hS, _, _, _⟩ := hsp
              obtain ⟨m, hm⟩ : ∃ m, en.sp.length = m := ⟨_, rfl⟩
              rw [hm] at hS
              rw [hS] at c10
              cases hAe
              by_cases h3 : 32 < m
              · have d3 : decide (32 < (m : Int)) = true := decide_eq_true (by omega)
                have HC := Lib.hid (chk_long (l := l) (.inr (List.any_eq_true.2 ⟨p, HPM.out, long_sp hmem (by rw [hm]; exact h3)⟩)))
                clear hle hmem hen hm hS hnk
                go_wp2_with fail
                go_ret
                exact ⟨by rw [HC.out]; rfl, Below.refl _ _⟩
              · have d3 : decide (32 < (m : Int)) = false := decide_eq_false (by omega)
                have HT := Lib.hid (show (p.es.take (k + 1)).any longE = false by rw [hle, hnk]; unfold longE; rw [hm, decide_eq_false h3]; rfl)
                have HK1 := Lib.hid (show k + 1 ≤ ne by omega)
                clear hle hmem hen hm hS hnk
                go_wp2_with fail
                go_round
                case rel => exact ⟨k + 1, HK1.out, by go_num, HT.out, by trivial⟩
                case measure => simp [intOf]; omega
            · have HT := Lib.hid (HL.out (by rw [← hnk, List.take_of_length_le (by rw [HNE.out]; omega)]))
              clear hnk
              go_wp2_with fail
              go_round
              case rel => exact ⟨i + 1, HI1.out, by go_num, HT.out, by trivial⟩
              case measure => simp [intOf]; omega
    · have HNLA := Lib.hid (show ¬ (64 < l.length ∨ l.any longP = true) from fun h => by
        rcases h with h | h
        · exact H64.out h
        · rw [← List.take_of_length_le (l := l) (i := i) (by rw [HN.out]; omega), HNL.out] at h
          cases h)
      go_wp2_with fail
      clear hlt hi
      go_loopw [5] (fun s wr => ∃ i : Nat, i ≤ n ∧ s = .int .i64 i ∧ (l.take i).any wrongP = false ∧ Below w.heap.size w wr) (fun s _ => n - (intOf s).toNat)
      case atStart => exact ⟨0, Nat.zero_le _, rfl, rfl, Below.refl _ _⟩
      case round =>
        obtain ⟨i, hi, rfl, hnl, hb⟩ := hrel
        have HNW := Lib.hid hnl
        obtain ⟨w1, hw1⟩ : ∃ w1, w1 = wr := ⟨_, rfl⟩
        subst hw1
        have HB := Lib.hid hb
        clear hnl hb
        by_cases hlt : (i : Int) < n
        · have HI1 := Lib.hid (show i + 1 ≤ n by omega)
          obtain ⟨⟨ad, X, hA, hX, x1, x2⟩, hes, hex⟩ := HK.out i (by rw [HN.out]; omega)
          obtain ⟨p, hp⟩ : ∃ p, l.getD i dP = p := ⟨_, rfl⟩
          have hpm : p ∈ l := by rw [← hp]; exact getD_mem (by rw [HN.out]; omega) dP
          rw [hp] at hes hex
          obtain ⟨Ae, ce, S, hE, _, _, hks⟩ := hes
          obtain ⟨Au, cu, hU, _, _, hku⟩ := hex
          obtain ⟨ne, hne⟩ : ∃ n, p.es.length = n := ⟨_, rfl⟩
          obtain ⟨mu, hmu⟩ : ∃ n, p.ex.length = n := ⟨_, rfl⟩
          rw [hne] at hE hks
          rw [hmu] at hU hku
          rw [hE] at x1
          rw [hU] at x2
          cases hA
          have HX1 := Lib.hid (fun W (hW : Below w.heap.size w W) => cell_below x1 hW)
          have HX2 := Lib.hid (fun W (hW : Below w.heap.size w W) => cell_below x2 hW)
          have HKS := Lib.hid hks
          have HKU := Lib.hid hku
          have HNE := Lib.hid hne
          have HMU := Lib.hid hmu
          have HPM := Lib.hid hpm
          have HPE := Lib.hid hp
          have y1 := HX1.out _ HB.out
          have y2 := HX2.out _ HB.out
          have hlp := any_take longP l dP i (by rw [HN.out]; omega)
          rw [hp] at hlp
          have hwp := any_take wrongP l dP i (by rw [HN.out]; omega)
          rw [hp] at hwp
          have hop := any_take (noneP l.length) l dP i (by rw [HN.out]; omega)
          rw [hp] at hop
          have HLP := Lib.hid hlp
          have HWP := Lib.hid hwp
          have HOP := Lib.hid hop
          clear x1 x2 hks hku hne hmu hpm hE hU hp hlp hwp hop
          have hne9 : (ne : Int) ≤ 64 := by have := (short_of7 HPM.out HNLA.out).1; rw [HNE.out] at this; omega
          go_wp2_with fail
          go_loopw [6] (fun s wr => ∃ k : Nat, k ≤ ne ∧ s = .int .i64 k ∧ (p.es.take k).any wrongE = false ∧ Below w.heap.size w wr) (fun s _ => ne - (intOf s).toNat)
          case atStart => exact ⟨0, Nat.zero_le _, rfl, rfl, HB.out⟩
          case round =>
            obtain ⟨k, hk, rfl, hnk, hb⟩ := hrel
            obtain ⟨w2, hw2⟩ : ∃ w2, w2 = wr := ⟨_, rfl⟩
            subst hw2
            have HB2 := Lib.hid hb
            have y1 := HX1.out _ hb
            clear hb
            by_cases hkt : (k : Int) < ne
            · obtain ⟨⟨ae, Y, hAe, hY, hat⟩, hsp⟩ := HKS.out k (by omega)
              obtain ⟨en, hen⟩ : ∃ en, p.es.getD k dE = en := ⟨_, rfl⟩
              have hmem : en ∈ p.es := by rw [← hen]; exact getD_mem (by rw [HNE.out]; omega) dE
              have hle := any_take wrongE p.es dE k (by rw [HNE.out]; omega)
              rw [hen] at hat hsp hle
              obtain ⟨c0, c1, c2, c3, c4, c5, c6, c7, c8, c9, c10⟩ := hat.below HB2.out
              obtain ⟨As, cs, hS, _, _, hkk⟩ := hsp
              have HMT := Lib.hid (fun W => refMay_any en.r W)
              obtain ⟨⟨k0, k1, k2, k3, k4, k5, k6, k7, k8, k9⟩, sp⟩ := en
              simp only at HMT hS hkk c0 c1 c2 c3 c4 c5 c6 c7 c8 c9
              unfold rv at HMT
              simp only at HMT
              obtain ⟨m, hm⟩ : ∃ m, sp.length = m := ⟨_, rfl⟩
              rw [hm] at hS hkk
              rw [hS] at c10
              have hm9 : (m : Int) ≤ 32 := by have := (short_of7 HPM.out HNLA.out).2.2 _ hmem; simp only at this; rw [hm] at this; omega
              have HKK := Lib.hid hkk
              have HSM := Lib.hid hm
              have HMEM := Lib.hid hmem
              obtain ⟨bm, hbm⟩ : ∃ b, mayR ⟨k0, k1, k2, k3, k4, k5, k6, k7, k8, k9⟩ = b := ⟨_, rfl⟩
              rw [hbm] at HMT
              have HBM := Lib.hid hbm
              have HWN := Lib.hid (show bm = true → sp.any badS = false → (p.es.take (k + 1)).any wrongE = false from fun h1 h2 => by
                rw [hle, hnk]; unfold wrongE; simp only; rw [hbm, h1, h2]; rfl)
              have HK1 := Lib.hid (show k + 1 ≤ ne by omega)
              have hal := HB2.out.alloc HB2.out.size (.cells #[.int .i64 k0, .int .i64 k1, .int .i64 k2, .int .i64 k3, .int .i64 k4, .int .i64 k5, .int .i64 k6, .int .i64 k7, .int .i64 k8, .int .i64 k9, .slice As m cs] 63)
              have hg := heap_alloc_new w2 (.cells #[.int .i64 k0, .int .i64 k1, .int .i64 k2, .int .i64 k3, .int .i64 k4, .int .i64 k5, .int .i64 k6, .int .i64 k7, .int .i64 k8, .int .i64 k9, .slice As m cs] 63)
              obtain ⟨w3, hw3⟩ : ∃ w3, w2.alloc (.cells #[.int .i64 k0, .int .i64 k1, .int .i64 k2, .int .i64 k3, .int .i64 k4, .int .i64 k5, .int .i64 k6, .int .i64 k7, .int .i64 k8, .int .i64 k9, .slice As m cs] 63) = w3 := ⟨_, rfl⟩
              rw [hw3] at hal hg
              have HW3 := Lib.hid hw3
              have HB3 := Lib.hid hal
              have G3 := Lib.hid hg
              have g0 := cell_blk hg 0 (v := .int .i64 k0) rfl
              have g1 := cell_blk hg 1 (v := .int .i64 k1) rfl
              have g2 := cell_blk hg 2 (v := .int .i64 k2) rfl
              have g3 := cell_blk hg 3 (v := .int .i64 k3) rfl
              have g4 := cell_blk hg 4 (v := .int .i64 k4) rfl
              have g5 := cell_blk hg 5 (v := .int .i64 k5) rfl
              have g6 := cell_blk hg 6 (v := .int .i64 k6) rfl
              have g7 := cell_blk hg 7 (v := .int .i64 k7) rfl
              have g8 := cell_blk hg 8 (v := .int .i64 k8) rfl
              have g9 := cell_blk hg 9 (v := .int .i64 k9) rfl
              cases hAe
              clear hle hmem hen hat hS hnk hkk hm hbm hal hg hw3
              go_wp2_with fail
              rw [HW3.out]
              go_wp2_with fail
              refine (HMT.out _).mono ?_
              rintro e w4 ⟨rfl, hb4⟩
              have HB4 := Lib.hid (HB3.out.trans (hb4.mono HB3.out.size))
              have G4 := Lib.hid ((hb4.block _ (Array.getElem?_eq_some_iff.1 G3.out).1).trans G3.out)
              clear hb4 g0 g1 g2 g3 g4 g5 g6 g7 g8 g9
              cases bm with
              | false =>
                have HC := Lib.hid (chk_wrong HNLA.out (List.any_eq_true.2 ⟨p, HPM.out, wrong_may HMEM.out HBM.out⟩))
                go_wp2_with fail
                go_ret
                exact ⟨by rw [HC.out]; rfl, HB4.out⟩
              | true =>
                have HBMT := Lib.hid (HWN.out rfl)
                go_wp2_with fail
                go_loopw [8] (fun s wr => ∃ j : Nat, j ≤ m ∧ s = .int .i64 j ∧ (sp.take j).any badS = false ∧ Below w4.heap.size w4 wr) (fun s _ => m - (intOf s).toNat)
                case atStart => exact ⟨0, Nat.zero_le _, rfl, rfl, Below.refl _ _⟩
                case round =>
                  obtain ⟨j, hj, rfl, hnj, hb⟩ := hrel
                  obtain ⟨w5, hw5⟩ : ∃ w5, w5 = wr := ⟨_, rfl⟩
                  subst hw5
                  have HBR := Lib.hid hb
                  have HB5 := Lib.hid (HB4.out.trans (hb.mono HB4.out.size))
                  have g10 := cell_blk ((hb.block _ (Array.getElem?_eq_some_iff.1 G4.out).1).trans G4.out) 10 (v := .slice As m cs) rfl
                  clear hb
                  by_cases hjt : (j : Int) < m
                  · have hbj := any_take badS sp dS j (by rw [HSM.out]; omega)
                    obtain ⟨ad7, X7, hao, hX7, e1, e2⟩ := HKK.out j (by omega)
                    obtain ⟨sx, hsx⟩ : ∃ s, sp.getD j dS = s := ⟨_, rfl⟩
                    have hsm : sx ∈ sp := by rw [← hsx]; exact getD_mem (by rw [HSM.out]; omega) dS
                    rw [hsx] at hbj e1 e2
                    obtain ⟨fz, tz⟩ := sx
                    simp only at e1 e2
                    have y1 := cell_below e1 HB5.out
                    have y2 := cell_below e2 HB5.out
                    have HJ1 := Lib.hid (show j + 1 ≤ m by omega)
                    have h0j : (0 : Int) ≤ j := by omega
                    have HBAD := Lib.hid (fun (hb : badS ⟨fz, tz⟩ = true) => chk_wrong HNLA.out (List.any_eq_true.2 ⟨p, HPM.out, wrong_sp HMEM.out hsm hb⟩))
                    have HOK := Lib.hid (show badS ⟨fz, tz⟩ = false → (sp.take (j + 1)).any badS = false from fun h => by rw [hbj, hnj, h]; rfl)
                    cases hao
                    clear e1 e2 hsx hbj hsm hnj
                    by_cases hf : fz < 0
                    · have d1 : decide (fz < 0) = true := decide_eq_true hf
                      have HC := Lib.hid (HBAD.out (by unfold badS; simp only; rw [d1]; rfl))
                      go_wp2_with fail
                      go_quiet (fail)
                      have HB6 := Lib.hid (HB5.out.trans ((below_drewN w5 nq).mono HB5.out.size))
                      go_wp2_with fail
                      go_ret
                      exact ⟨by rw [HC.out]; rfl, HB6.out⟩
                    have d1 : decide (fz < 0) = false := decide_eq_false hf
                    by_cases hg : 86400 < tz
                    · have d2 : decide (86400 < tz) = true := decide_eq_true hg
                      have HC := Lib.hid (HBAD.out (by unfold badS; simp only; rw [d1, d2]; rfl))
                      go_wp2_with fail
                      go_quiet (fail)
                      have HB6 := Lib.hid (HB5.out.trans ((below_drewN w5 nq).mono HB5.out.size))
                      go_wp2_with fail
                      go_ret
                      exact ⟨by rw [HC.out]; rfl, HB6.out⟩
                    have d2 : decide (86400 < tz) = false := decide_eq_false hg
                    by_cases hh : tz ≤ fz
                    · have d3 : decide (tz ≤ fz) = true := decide_eq_true hh
                      have HC := Lib.hid (HBAD.out (by unfold badS; simp only; rw [d1, d2, d3]; rfl))
                      go_wp2_with fail
                      go_quiet (fail)
                      have HB6 := Lib.hid (HB5.out.trans ((below_drewN w5 nq).mono HB5.out.size))
                      go_wp2_with fail
                      go_ret
                      exact ⟨by rw [HC.out]; rfl, HB6.out⟩
                    have d3 : decide (tz ≤ fz) = false := decide_eq_false hh
                    have HT := Lib.hid (HOK.out (by unfold badS; simp only; rw [d1, d2, d3]; rfl))
                    go_wp2_with fail
                    go_quiet (fail)
                    have HB6 := Lib.hid (HBR.out.trans ((below_drewN w5 nq).mono HBR.out.size))
                    go_wp2_with fail
                    go_round
                    case rel => exact ⟨j + 1, HJ1.out, by go_num, HT.out, HB6.out⟩
                    case measure => simp [intOf]; omega
                  · have HT := Lib.hid (HBMT.out (by rw [← hnj, List.take_of_length_le (by rw [HSM.out]; omega)]))
                    clear hnj
                    go_wp2_with fail
                    go_round
                    case rel => exact ⟨k + 1, HK1.out, by go_num, HT.out, HB5.out⟩
                    case measure => simp [intOf]; omega
            · have HT := Lib.hid (show (l.take (i + 1)).any wrongP = false by
                have h : p.es.any wrongE = false := by rw [← hnk, List.take_of_length_le (by rw [HNE.out]; omega)]
                rw [HWP.out, HNW.out]
                exact h)
              clear hnk
              go_wp2_with fail
              go_round
              case rel => exact ⟨i + 1, HI1.out, by go_num, HT.out, HB2.out⟩
              case measure => simp [intOf]; omega
        · have HNWA := Lib.hid (show l.any wrongP = false by rw [← HNW.out, List.take_of_length_le (by rw [HN.out]; omega)])
          go_wp2_with fail
          clear hlt hi
          go_loopw [9] (fun s wr => ∃ i : Nat, i ≤ n ∧ s = .int .i64 i ∧ (l.take i).any (noneP l.length) = false ∧ Below w.heap.size w wr) (fun s _ => n - (intOf s).toNat)
          case atStart => exact ⟨0, Nat.zero_le _, rfl, rfl, HB.out⟩
          case round =>
            obtain ⟨i, hi, rfl, hnl, hb⟩ := hrel
            have HNO := Lib.hid hnl
            obtain ⟨w2, hw2⟩ : ∃ w2, w2 = wr := ⟨_, rfl⟩
            subst hw2
            have HB2 := Lib.hid hb
            clear hnl hb
            by_cases hlt : (i : Int) < n
            · have HI1 := Lib.hid (show i + 1 ≤ n by omega)
              obtain ⟨⟨ad, X, hA, hX, x1, x2⟩, hes, hex⟩ := HK.out i (by rw [HN.out]; omega)
              obtain ⟨p, hp⟩ : ∃ p, l.getD i dP = p := ⟨_, rfl⟩
              have hpm : p ∈ l := by rw [← hp]; exact getD_mem (by rw [HN.out]; omega) dP
              rw [hp] at hes hex
              obtain ⟨Ae, ce, S, hE, _, _, hks⟩ := hes
              obtain ⟨Au, cu, hU, _, _, hku⟩ := hex
              obtain ⟨ne, hne⟩ : ∃ n, p.es.length = n := ⟨_, rfl⟩
              obtain ⟨mu, hmu⟩ : ∃ n, p.ex.length = n := ⟨_, rfl⟩
              rw [hne] at hE hks
              rw [hmu] at hU hku
              rw [hE] at x1
              rw [hU] at x2
              cases hA
              have HX1 := Lib.hid (fun W (hW : Below w.heap.size w W) => cell_below x1 hW)
              have HX2 := Lib.hid (fun W (hW : Below w.heap.size w W) => cell_below x2 hW)
              have HKS := Lib.hid hks
              have HKU := Lib.hid hku
              have HNE := Lib.hid hne
              have HMU := Lib.hid hmu
              have HPM := Lib.hid hpm
              have HPE := Lib.hid hp
              have y1 := HX1.out _ HB2.out
              have y2 := HX2.out _ HB2.out
              have hlp := any_take longP l dP i (by rw [HN.out]; omega)
              rw [hp] at hlp
              have hwp := any_take wrongP l dP i (by rw [HN.out]; omega)
              rw [hp] at hwp
              have hop := any_take (noneP l.length) l dP i (by rw [HN.out]; omega)
              rw [hp] at hop
              have HLP := Lib.hid hlp
              have HWP := Lib.hid hwp
              have HOP := Lib.hid hop
              clear x1 x2 hks hku hne hmu hpm hE hU hp hlp hwp hop
              have hmu9 : (mu : Int) ≤ 64 := by have := (short_of7 HPM.out HNLA.out).2.1; rw [HMU.out] at this; omega
              go_wp2_with fail
              go_loopw [10] (fun s wr => ∃ k : Nat, k ≤ mu ∧ s = .int .i64 k ∧ ((p.ex.take k).any fun x => !isOneB l.length x) = false ∧ w2 = wr) (fun s _ => mu - (intOf s).toNat)
              case atStart => exact ⟨0, Nat.zero_le _, rfl, rfl, rfl⟩
              case round =>
                obtain ⟨k, hk, rfl, hnk, rfl⟩ := hrel
                by_cases hkt : (k : Int) < mu
                · have hle := any_take (fun x => !isOneB l.length x) p.ex 0 k (by rw [HMU.out]; omega)
                  obtain ⟨ad7, hao, e1⟩ := HKU.out k (by omega)
                  obtain ⟨x, hx⟩ : ∃ x, p.ex.getD k 0 = x := ⟨_, rfl⟩
                  have hxm : x ∈ p.ex := by rw [← hx]; exact getD_mem (by rw [HMU.out]; omega) 0
                  rw [hx] at e1
                  simp only [hx] at hle
                  have y3 := cell_below e1 HB2.out
                  have HBAD := Lib.hid (fun (hb : isOneB l.length x = false) => chk_none HNLA.out HNWA.out (List.any_eq_true.2 ⟨p, HPM.out, List.any_eq_true.2 ⟨x, hxm, by rw [hb]; rfl⟩⟩))
                  have HOK := Lib.hid (show isOneB l.length x = true → ((p.ex.take (k + 1)).any fun x => !isOneB l.length x) = false from fun h => by rw [hle, hnk, h]; rfl)
                  have HK1 := Lib.hid (show k + 1 ≤ mu by omega)
                  cases hao
                  clear e1 hx hxm hle hnk
                  by_cases hf : x < 0
                  · have d1 : decide (x < 0) = true := decide_eq_true hf
                    have HC := Lib.hid (HBAD.out (by unfold isOneB; rw [decide_eq_false (by omega)]; rfl))
                    go_wp2_with fail
                    go_ret
                    exact ⟨by rw [HC.out]; rfl, HB2.out⟩
                  have d1 : decide (x < 0) = false := decide_eq_false hf
                  by_cases hg : (n : Int) ≤ x
                  · have d2 : decide ((n : Int) ≤ x) = true := decide_eq_true hg
                    have HC := Lib.hid (HBAD.out (by unfold isOneB; rw [HN.out, decide_eq_false (show ¬ x < (n : Int) by omega)]; simp))
                    go_wp2_with fail
                    go_ret
                    exact ⟨by rw [HC.out]; rfl, HB2.out⟩
                  have d2 : decide ((n : Int) ≤ x) = false := decide_eq_false hg
                  have HT := Lib.hid (HOK.out (by unfold isOneB; rw [HN.out, decide_eq_true (show 0 ≤ x by omega), decide_eq_true (show x < (n : Int) by omega)]; rfl))
                  go_wp2_with fail
                  go_round
                  case rel => exact ⟨k + 1, HK1.out, by go_num, HT.out, by trivial⟩
                  case measure => simp [intOf]; omega
                · have HT := Lib.hid (show (l.take (i + 1)).any (noneP l.length) = false by
                    have h : noneP l.length p = false := by unfold noneP; rw [← hnk, List.take_of_length_le (by rw [HMU.out]; omega)]
                    rw [HOP.out, HNO.out]
                    exact h)
                  clear hnk
                  go_wp2_with fail
                  go_round
                  case rel => exact ⟨i + 1, HI1.out, by go_num, HT.out, HB2.out⟩
                  case measure => simp [intOf]; omega
            · have HNOA := Lib.hid (show l.any (noneP l.length) = false by rw [← HNO.out, List.take_of_length_le (by rw [HN.out]; omega)])
              go_wp2_with fail
              clear hlt hi
              go_loopw [11] (fun s wr => ∃ i : Nat, i ≤ n ∧ s = .int .i64 i ∧ (∀ k, k < i → ¬ Way l k k) ∧ Below w.heap.size w wr) (fun s _ => n - (intOf s).toNat)
              case atStart => exact ⟨0, Nat.zero_le _, rfl, fun k h => (Nat.not_lt_zero _ h).elim, HB2.out⟩
              case round =>
                obtain ⟨i, hi, rfl, hnw, hb⟩ := hrel
                have HNL2 := Lib.hid hnw
                obtain ⟨w3, hw3⟩ : ∃ w3, w3 = wr := ⟨_, rfl⟩
                subst hw3
                have HB3 := Lib.hid hb
                clear hnw hb
                by_cases hlt : (i : Int) < n
                · have HI1 := Lib.hid (show i + 1 ≤ n by omega)
                  obtain ⟨⟨ad, X, hA, hX, x1, x2⟩, hes, hex⟩ := HK.out i (by rw [HN.out]; omega)
                  obtain ⟨p, hp⟩ : ∃ p, l.getD i dP = p := ⟨_, rfl⟩
                  have hpm : p ∈ l := by rw [← hp]; exact getD_mem (by rw [HN.out]; omega) dP
                  rw [hp] at hes hex
                  obtain ⟨Ae, ce, S, hE, _, _, hks⟩ := hes
                  obtain ⟨Au, cu, hU, _, _, hku⟩ := hex
                  obtain ⟨ne, hne⟩ : ∃ n, p.es.length = n := ⟨_, rfl⟩
                  obtain ⟨mu, hmu⟩ : ∃ n, p.ex.length = n := ⟨_, rfl⟩
                  rw [hne] at hE hks
                  rw [hmu] at hU hku
                  rw [hE] at x1
                  rw [hU] at x2
                  cases hA
                  have HX1 := Lib.hid (fun W (hW : Below w.heap.size w W) => cell_below x1 hW)
                  have HX2 := Lib.hid (fun W (hW : Below w.heap.size w W) => cell_below x2 hW)
                  have HKS := Lib.hid hks
                  have HKU := Lib.hid hku
                  have HNE := Lib.hid hne
                  have HMU := Lib.hid hmu
                  have HPM := Lib.hid hpm
                  have HPE := Lib.hid hp
                  have y1 := HX1.out _ HB3.out
                  have y2 := HX2.out _ HB3.out
                  have hlp := any_take longP l dP i (by rw [HN.out]; omega)
                  rw [hp] at hlp
                  have hwp := any_take wrongP l dP i (by rw [HN.out]; omega)
                  rw [hp] at hwp
                  have hop := any_take (noneP l.length) l dP i (by rw [HN.out]; omega)
                  rw [hp] at hop
                  have HLP := Lib.hid hlp
                  have HWP := Lib.hid hwp
                  have HOP := Lib.hid hop
                  clear x1 x2 hks hku hne hmu hpm hE hU hp hlp hwp hop
                  have hmu9 : (mu : Int) ≤ 64 := by have := (short_of7 HPM.out HNLA.out).2.1; rw [HMU.out] at this; omega
                  have hmk2 : ∀ W : World, (Instr.makeSlice 91 (.int .i64 (n : Int)) (.int .i64 (n : Int))).run Tryz.prog W = .ok (.slice (some ⟨W.heap.size, 0, none⟩) n n) (W.alloc (.cells (madeCells #[.bool false] n) 4)) := fun W => by
                    have := run_mk elB (n : Int) (n : Int) (by omega) (Int.le_refl _) (by omega) (by omega) W
                    exact this
                  have HRG := Lib.hid (inRange_of HNOA.out)
                  have HPI := Lib.hid (show l[i]? = some p by rw [← HPE.out]; exact getD_some (by rw [HN.out]; omega) dP)
                  have HMK := Lib.hid (Mk.start (l := l) (i := i) HB3.out n)
                  obtain ⟨b, hb⟩ : ∃ b, w3.heap.size = b := ⟨_, rfl⟩
                  rw [hb] at HMK
                  have HBB := Lib.hid hb
                  obtain ⟨w4, hw4⟩ : ∃ w4, w3.alloc (.cells (madeCells #[.bool false] n) 4) = w4 := ⟨_, rfl⟩
                  rw [hw4] at HMK
                  have HW4 := Lib.hid hw4
                  clear hb hw4
                  go_wp2_with fail
                  rw [HBB.out, HW4.out]
                  go_loopw [13] (fun s wr => ∃ k : Nat, k ≤ mu ∧ s = .int .i64 k ∧ ∃ B, Mk l w n b i B wr ∧ MkAll (p.ex.take k) B) (fun s _ => mu - (intOf s).toNat)
                  case atStart => exact ⟨0, Nat.zero_le _, rfl, _, HMK.out, MkAll.nil _⟩
                  case round =>
                    obtain ⟨k, hk, rfl, B, hmk, hall⟩ := hrel
                    obtain ⟨w5, hw5⟩ : ∃ w5, w5 = wr := ⟨_, rfl⟩
                    subst hw5
                    have y2 := HX2.out _ hmk.below
                    have HM5 := Lib.hid hmk
                    have HAL := Lib.hid hall
                    clear hmk hall
                    by_cases hkt : (k : Int) < mu
                    · obtain ⟨ad7, hao, e1⟩ := HKU.out k (by omega)
                      obtain ⟨x, hx⟩ : ∃ x, p.ex.getD k 0 = x := ⟨_, rfl⟩
                      have hxm : x ∈ p.ex := by rw [← hx]; exact getD_mem (by rw [HMU.out]; omega) 0
                      obtain ⟨hx0, hx1⟩ := HRG.out p HPM.out x hxm
                      obtain ⟨y, rfl⟩ : ∃ y : Nat, x = y := ⟨x.toNat, by omega⟩
                      rw [HN.out] at hx1
                      have hst : Step l i y := ⟨p, HPI.out, hxm⟩
                      have hm6 := HM5.out.set (.one hst)
                      have ha6 := HAL.out.step (by rw [HMU.out]; omega) hx (by rw [HM5.out.len]; omega)
                      have HM6 := Lib.hid hm6
                      have HA6 := Lib.hid ha6
                      rw [hx] at e1
                      have y3 := cell_below e1 HM5.out.below
                      have y4 := HM5.out.load (k := y) (by omega)
                      have y5 := frz_blk HM5.out.blk y
                      have HK1 := Lib.hid (show k + 1 ≤ mu by omega)
                      cases hao
                      clear e1 hx hxm hst hm6 ha6
                      go_wp2_with fail
                      go_round
                      case rel => exact ⟨k + 1, HK1.out, by go_num, B.set y true, HM6.out, HA6.out⟩
                      case measure => simp [intOf]; omega
                    · have HA6 := Lib.hid (show MkAll p.ex B by have := HAL.out; rw [List.take_of_length_le (by rw [HMU.out]; omega)] at this; exact this)
                      have HR0 := Lib.hid (RndS.start (n := n) HPI.out HA6.out)
                      go_wp2_with fail
                      clear hkt hk y2 y1
                      go_loopw [14] (fun s wr => ∃ r : Nat, r ≤ n ∧ s = .int .i64 r ∧ ∃ B, Mk l w n b i B wr ∧ RndS l n i r B) (fun s _ => n - (intOf s).toNat)
                      case atStart => exact ⟨0, Nat.zero_le _, rfl, B, HM5.out, HR0.out⟩
                      case round =>
                        obtain ⟨r, hr, rfl, B0, hm0, hrs⟩ := hrel
                        obtain ⟨w6, hw6⟩ : ∃ w6, w6 = wr := ⟨_, rfl⟩
                        subst hw6
                        have HM0 := Lib.hid hm0
                        have HRS := Lib.hid hrs
                        clear hm0 hrs
                        by_cases hrt : (r : Int) < n
                        · have HR1 := Lib.hid (show r + 1 ≤ n by omega)
                          go_wp2_with fail
                          go_loopw [15] (fun s wr => ∃ a : Nat, a ≤ n ∧ s = .int .i64 a ∧ ∃ B, Mk l w n b i B wr ∧ Gone l B0 a B) (fun s _ => n - (intOf s).toNat)
                          case atStart => exact ⟨0, Nat.zero_le _, rfl, B0, HM0.out, Gone.start l B0⟩
                          case round =>
                            obtain ⟨a, ha, rfl, B1, hm1, hgo⟩ := hrel
                            obtain ⟨w7, hw7⟩ : ∃ w7, w7 = wr := ⟨_, rfl⟩
                            subst hw7
                            have HM1 := Lib.hid hm1
                            have HGO := Lib.hid hgo
                            clear hm1 hgo
                            by_cases hat : (a : Int) < n
                            · have HA1 := Lib.hid (show a + 1 ≤ n by omega)
                              obtain ⟨⟨ad, X, hA, hX, x1, x2⟩, hes, hex⟩ := HK.out a (by rw [HN.out]; omega)
                              obtain ⟨p, hp⟩ : ∃ p, l.getD a dP = p := ⟨_, rfl⟩
                              have hpm : p ∈ l := by rw [← hp]; exact getD_mem (by rw [HN.out]; omega) dP
                              rw [hp] at hes hex
                              obtain ⟨Ae, ce, S, hE, _, _, hks⟩ := hes
                              obtain ⟨Au, cu, hU, _, _, hku⟩ := hex
                              obtain ⟨ne, hne⟩ : ∃ n, p.es.length = n := ⟨_, rfl⟩
                              obtain ⟨mu, hmu⟩ : ∃ n, p.ex.length = n := ⟨_, rfl⟩
                              rw [hne] at hE hks
                              rw [hmu] at hU hku
                              rw [hE] at x1
                              rw [hU] at x2
                              cases hA
                              have HX1 := Lib.hid (fun W (hW : Below w.heap.size w W) => cell_below x1 hW)
                              have HX2 := Lib.hid (fun W (hW : Below w.heap.size w W) => cell_below x2 hW)
                              have HKS := Lib.hid hks
                              have HKU := Lib.hid hku
                              have HNE := Lib.hid hne
                              have HMU := Lib.hid hmu
                              have HPM := Lib.hid hpm
                              have HPE := Lib.hid hp
                              have y1 := HX1.out _ HM1.out.below
                              have y2 := HX2.out _ HM1.out.below
                              have hlp := any_take longP l dP a (by rw [HN.out]; omega)
                              rw [hp] at hlp
                              have hwp := any_take wrongP l dP a (by rw [HN.out]; omega)
                              rw [hp] at hwp
                              have hop := any_take (noneP l.length) l dP a (by rw [HN.out]; omega)
                              rw [hp] at hop
                              have HLP := Lib.hid hlp
                              have HWP := Lib.hid hwp
                              have HOP := Lib.hid hop
                              clear x1 x2 hks hku hne hmu hpm hE hU hp hlp hwp hop
                              have hmu9 : (mu : Int) ≤ 64 := by have := (short_of7 HPM.out HNLA.out).2.1; rw [HMU.out] at this; omega
                              have HPA := Lib.hid (show l[a]? = some p by rw [← HPE.out]; exact getD_some (by rw [HN.out]; omega) dP)
                              clear y1 y2 HLP HWP HOP
                              go_wp2_with fail
                              go_loopw [16] (fun s wr => ∃ j : Nat, j ≤ mu ∧ s = .int .i64 j ∧ ∃ B, Mk l w n b i B wr ∧ Gone l B0 a B ∧ (B.getD a false = true → MkAll (p.ex.take j) B)) (fun s _ => mu - (intOf s).toNat)
                              case atStart => exact ⟨0, Nat.zero_le _, rfl, B1, HM1.out, HGO.out, fun _ => MkAll.nil _⟩
                              case round =>
                                obtain ⟨j, hj, rfl, B2, hm2, hg2, hal2⟩ := hrel
                                obtain ⟨w8, hw8⟩ : ∃ w8, w8 = wr := ⟨_, rfl⟩
                                subst hw8
                                have y2 := HX2.out _ hm2.below
                                have HM2 := Lib.hid hm2
                                have HG2 := Lib.hid hg2
                                have HAL2 := Lib.hid hal2
                                clear hm2 hg2 hal2
                                have y3 := HM2.out.load (k := a) (by omega)
                                obtain ⟨bf, hbf⟩ : ∃ x, B2.getD a false = x := ⟨_, rfl⟩
                                rw [hbf] at y3
                                cases bf with
                                | false =>
                                  have HF := Lib.hid (HG2.out.skip hbf)
                                  clear hbf
                                  go_wp2_with fail
                                  go_round
                                  case rel => exact ⟨a + 1, HA1.out, by go_num, B2, HM2.out, HF.out⟩
                                  case measure => simp [intOf]; omega
                                | true =>
                                  have HT := Lib.hid (HAL2.out hbf)
                                  have HBF := Lib.hid hbf
                                  clear hbf
                                  by_cases hjt : (j : Int) < mu
                                  · obtain ⟨ad7, hao, e1⟩ := HKU.out j (by omega)
                                    obtain ⟨x, hx⟩ : ∃ x, p.ex.getD j 0 = x := ⟨_, rfl⟩
                                    have hxm : x ∈ p.ex := by rw [← hx]; exact getD_mem (by rw [HMU.out]; omega) 0
                                    obtain ⟨hx0, hx1⟩ := HRG.out p HPM.out x hxm
                                    obtain ⟨y, rfl⟩ : ∃ y : Nat, x = y := ⟨x.toNat, by omega⟩
                                    rw [HN.out] at hx1
                                    have hst : Step l a y := ⟨p, HPA.out, hxm⟩
                                    have HM3 := Lib.hid (HM2.out.set ((HM2.out.sound a HBF.out).snoc hst))
                                    have HG3 := Lib.hid (HG2.out.set y)
                                    have HA3 := Lib.hid (HT.out.step (by rw [HMU.out]; omega) hx (by rw [HM2.out.len]; omega))
                                    rw [hx] at e1
                                    have y4 := cell_below e1 HM2.out.below
                                    have y5 := HM2.out.load (k := y) (by omega)
                                    have y6 := frz_blk HM2.out.blk y
                                    have HJ1 := Lib.hid (show j + 1 ≤ mu by omega)
                                    cases hao
                                    clear e1 hx hxm hst
                                    go_wp2_with fail
                                    go_round
                                    case rel => exact ⟨j + 1, HJ1.out, by go_num, B2.set y true, HM3.out, HG3.out, fun _ => HA3.out⟩
                                    case measure => simp [intOf]; omega
                                  · have HF := Lib.hid (HG2.out.more HPA.out (by have := HT.out; rw [List.take_of_length_le (by rw [HMU.out]; omega)] at this; exact this))
                                    go_wp2_with fail
                                    go_round
                                    case rel => exact ⟨a + 1, HA1.out, by go_num, B2, HM2.out, HF.out⟩
                                    case measure => simp [intOf]; omega
                            · have HF := Lib.hid (show RndS l n i (r + 1) B1 from HRS.out.step HM1.out.len HN.out ((show a = n by omega) ▸ HGO.out))
                              go_wp2_with fail
                              go_round
                              case rel => exact ⟨r + 1, HR1.out, by go_num, B1, HM1.out, HF.out⟩
                              case measure => simp [intOf]; omega
                        · have HFU := Lib.hid (show FullB l i B0 from RndS.fin (n := n) ((show r = n by omega) ▸ HRS.out) HN.out HRG.out)
                          have y3 := HM0.out.load (k := i) (by omega)
                          obtain ⟨bf, hbf⟩ : ∃ x, B0.getD i false = x := ⟨_, rfl⟩
                          rw [hbf] at y3
                          cases bf with
                          | true =>
                            have HC := Lib.hid (chk_loop HNLA.out HNWA.out HNOA.out ⟨i, HM0.out.sound i hbf⟩)
                            clear hbf
                            go_wp2_with fail
                            go_ret
                            exact ⟨by rw [HC.out]; rfl, HM0.out.below⟩
                          | false =>
                            have HF := Lib.hid (show ∀ k, k < i + 1 → ¬ Way l k k from fun k hk hw => by
                              rcases Nat.lt_or_ge k i with h | h
                              · exact HNL2.out k h hw
                              · have e : k = i := by omega
                                subst e
                                have := HFU.out k hw
                                rw [hbf] at this
                                cases this)
                            clear hbf
                            go_wp2_with fail
                            go_round
                            case rel => exact ⟨i + 1, HI1.out, by go_num, HF.out, HM0.out.below⟩
                            case measure => simp [intOf]; omega
                · have HC := Lib.hid (chk_good HNLA.out HNWA.out HNOA.out (fun ⟨k, hk⟩ => HNL2.out k (by have := hk.lt; rw [HN.out] at this; omega) hk))
                  go_wp2_with fail
                  go_ret
                  exact ⟨by rw [HC.out]; rfl, HB3.out⟩
end Go.Proofs.YtlogapkpllgdcaaGreatDoor

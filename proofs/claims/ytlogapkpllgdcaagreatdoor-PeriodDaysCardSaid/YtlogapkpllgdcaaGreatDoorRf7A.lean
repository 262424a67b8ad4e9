/- The document's has: is a second of a day in a period? -/
import Derived.Test.YtlogapkpllgdcaaGreatDoorPdCk
import Derived.Test.YtlogapkpllgdcaaGreatDoorPdInA
import Derived.Test.YtlogapkpllgdcaaGreatDoorRlS8
namespace Go.Proofs.YtlogapkpllgdcaaGreatDoor
open Go.RowKit

/-- The document's Match, by hitD. -/
theorem refHit (r : Rl) (a : Int) (w : World) (ha1 : -70368744177664 ≤ a) (ha2 : a ≤ 70368744177664) (h : mayR r = true) :
    Calls Tryz.prog 47 #[rv r, .int .i64 a] w fun e w' => e = .returned (.bool (hitD r a)) ∧ Below w.heap.size w w' := by
  obtain ⟨y, m, d, hi, hn⟩ := date_ex a
  rw [hitD_eq hi hn]
  exact refMatch_any r y m d a w hi hn ha1 ha2 h
theorem has_more {b1 y : Bool} {sp : List Spn} {s j : Nat} (h : (b1 || ((sp.take j).any (fun x => inS x s) && y)) = true) : (b1 || (sp.any (fun x => inS x s) && y)) = true := by
  simp only [Bool.or_eq_true, Bool.and_eq_true, List.any_eq_true] at h ⊢
  rcases h with h | ⟨⟨x, hx, h1⟩, h2⟩
  · exact .inl h
  · exact .inr ⟨⟨x, List.mem_of_mem_take hx, h1⟩, h2⟩
theorem ex_less {H : Bool} {L : List Int} {f : Int → Bool} {z : Nat} (h : (H && !((L.take z).any f)) = false) : (H && !(L.any f)) = false := by
  cases H with
  | false => rfl
  | true =>
    simp only [Bool.true_and, Bool.not_eq_false', List.any_eq_true] at h ⊢
    obtain ⟨x, hx, h1⟩ := h
    exact ⟨x, List.mem_of_mem_take hx, h1⟩
set_option maxRecDepth 100000 in
set_option maxHeartbeats 2000000 in
theorem refHas_rk (l : List Prd) (v : Value) (day : Int) (s : Nat) (hg : Good l) (hd1 : -70368744177664 ≤ day) (hd2 : day ≤ 70368744177664) : ∀ (k i : Nat) (w : World), rk l i < k → i < l.length → HPd w v l →
    Calls Tryz.prog 22 #[v, .int .i64 i, .int .i64 day, .int .i64 s] w fun e w' => e = .returned (.bool (inn l (hitE day s) i)) ∧ Below w.heap.size w w' := by
  intro k
  induction k with
  | zero => exact fun i w h => (Nat.not_lt_zero _ h).elim
  | succ k ih =>
    intro i w hrk hi hset
    obtain ⟨p, hp⟩ : ∃ p, l.getD i dP = p := ⟨_, rfl⟩
    have hpi : l[i]? = some p := by rw [← hp]; exact getD_some hi dP
    have hpm := List.mem_of_getElem? hpi
    rw [inn_eq (hitE day s) hg.loops hg.range hpi]
    have HIH := Lib.hid (show ∀ x ∈ p.ex, ∀ W, Below w.heap.size w W → Calls Tryz.prog 22 #[v, .int .i64 x, .int .i64 day, .int .i64 s] W fun e w' => e = .returned (.bool (inn l (hitE day s) x.toNat)) ∧ Below W.heap.size W w' from by
      intro x hx W hW
      obtain ⟨h1, h2⟩ := hg.range p hpm x hx
      have hst : Step l i x.toNat := ⟨p, hpi, by rw [show ((x.toNat : Nat) : Int) = x by omega]; exact hx⟩
      have := ih x.toNat W (by have := rk_lt hg.loops hst (by omega); omega) (by omega) (hset.below hW)
      rw [show ((x.toNat : Nat) : Int) = x by omega] at this
      exact this)
    have HM := Lib.hid (show ∀ e ∈ p.es, ∀ W, Calls Tryz.prog 47 #[rv e.r, .int .i64 day] W fun e' w' => e' = .returned (.bool (hitD e.r day)) ∧ Below W.heap.size W w' from fun e he W => refHit e.r day W hd1 hd2 (hg.may p hpm e he))
    obtain ⟨A, c, E, U, rfl, _, _, hk⟩ := hset
    obtain ⟨⟨ad, X, rfl, hX, x1, x2⟩, hes, hex⟩ := hk i hi
    rw [hp] at hes hex
    obtain ⟨Ae, ce, S, hE, _, _, hks⟩ := hes
    obtain ⟨Au, cu, hU, _, _, hku⟩ := hex
    obtain ⟨n, hn⟩ : ∃ n, l.length = n := ⟨_, rfl⟩
    obtain ⟨ne, hne⟩ : ∃ n, p.es.length = n := ⟨_, rfl⟩
    obtain ⟨mu, hmu⟩ : ∃ n, p.ex.length = n := ⟨_, rfl⟩
    have hne9 : (ne : Int) ≤ 64 := by have := hg.es p hpm; omega
    have hmu9 : (mu : Int) ≤ 64 := by have := hg.ex p hpm; omega
    have HSL := Lib.hid (hg.sp p hpm)
    rw [hne] at hE hks
    rw [hmu] at hU hku
    rw [hE] at x1
    rw [hU] at x2
    rw [hn] at hi HIH ⊢
    have HX1 := Lib.hid (fun W (hW : Below w.heap.size w W) => cell_below x1 hW)
    have HX2 := Lib.hid (fun W (hW : Below w.heap.size w W) => cell_below x2 hW)
    have HKS := Lib.hid hks
    have HKU := Lib.hid hku
    have HNE := Lib.hid hne
    have HMU := Lib.hid hmu
    clear ih hk hks hku hne hmu hE hU x1 x2 hrk hp hpi hn
    go_enter Tryz.func22, Tryz.ntmps22
    go_wp2_with fail
    go_loopw [9, 10] (fun b s' wr => ∃ q : Nat, q ≤ ne ∧ s' = .int .i64 q ∧ b = .bool ((p.es.take q).any (hitE day s)) ∧ Below w.heap.size w wr) (fun _ s' _ => ne - (intOf s').toNat)
    case atStart => exact ⟨0, Nat.zero_le _, rfl, rfl, Below.refl _ _⟩
    case round =>
      obtain ⟨q, hq, rfl, rfl, hb⟩ := hrel
      obtain ⟨w1, hw1⟩ : ∃ w1, w1 = wr := ⟨_, rfl⟩
      subst hw1
      have HB := Lib.hid hb
      have x1 := HX1.out _ hb
      clear hb
      by_cases hlt : (q : Int) < ne
      · have hlt' : q < p.es.length := by rw [HNE.out]; omega
        obtain ⟨⟨ae, Y, hAe, hY, hat⟩, hsp⟩ := HKS.out q (by omega)
        obtain ⟨en, hen⟩ : ∃ en, p.es.getD q dE = en := ⟨_, rfl⟩
        have hmem : en ∈ p.es := by rw [← hen]; exact getD_mem hlt' dE
        have hnx := any_take (hitE day s) p.es dE q hlt'
        rw [hen] at hat hsp hnx
        subst hAe
        obtain ⟨c0, c1, c2, c3, c4, c5, c6, c7, c8, c9, c10⟩ := hat.below HB.out
        obtain ⟨As, cs, hS, _, _, hkk⟩ := hsp
        have hm9 := HSL.out en hmem
        have HMT := Lib.hid (HM.out en hmem)
        have hhit : hitE day s en = (en.sp.any (fun x => inS x s) && hitD en.r day) := rfl
        rw [hhit] at hnx
        obtain ⟨⟨k0, k1, k2, k3, k4, k5, k6, k7, k8, k9⟩, sp⟩ := en
        simp only at hm9 HMT hnx hS hkk c0 c1 c2 c3 c4 c5 c6 c7 c8 c9
        unfold rv at HMT
        simp only at HMT
        obtain ⟨m, hm⟩ : ∃ m, sp.length = m := ⟨_, rfl⟩
        rw [hm] at hS hkk hm9
        rw [hS] at c10
        have hm9' : (m : Int) ≤ 32 := by omega
        generalize hitD ⟨k0, k1, k2, k3, k4, k5, k6, k7, k8, k9⟩ day = y at *
        obtain ⟨b1, hb1⟩ : ∃ b, (p.es.take q).any (hitE day s) = b := ⟨_, rfl⟩
        rw [hb1] at hnx ⊢
        have HNX := Lib.hid hnx
        have HKK := Lib.hid hkk
        have HSM := Lib.hid hm
        have hal := HB.out.alloc HB.out.size (.cells #[.int .i64 k0, .int .i64 k1, .int .i64 k2, .int .i64 k3, .int .i64 k4, .int .i64 k5, .int .i64 k6, .int .i64 k7, .int .i64 k8, .int .i64 k9, .slice As m cs] 63)
        have G := Lib.hid (heap_alloc_new w1 (.cells #[.int .i64 k0, .int .i64 k1, .int .i64 k2, .int .i64 k3, .int .i64 k4, .int .i64 k5, .int .i64 k6, .int .i64 k7, .int .i64 k8, .int .i64 k9, .slice As m cs] 63))
        obtain ⟨w2, hw2⟩ : ∃ w2, w1.alloc (.cells #[.int .i64 k0, .int .i64 k1, .int .i64 k2, .int .i64 k3, .int .i64 k4, .int .i64 k5, .int .i64 k6, .int .i64 k7, .int .i64 k8, .int .i64 k9, .slice As m cs] 63) = w2 := ⟨_, rfl⟩
        rw [hw2] at hal G
        have HW2 := Lib.hid hw2
        have HB2 := Lib.hid hal
        have HQ1 := Lib.hid (show q + 1 ≤ ne by omega)
        clear hlt' hen hmem hat hS hkk hm9 hhit hm hb1 hnx hal hw2
        go_wp2_with fail
        rw [HW2.out]
        go_loopw [9, 12] (fun b s' wr => ∃ j : Nat, j ≤ m ∧ s' = .int .i64 j ∧ b = .bool (b1 || ((sp.take j).any (fun x => inS x s) && y)) ∧ Below w2.heap.size w2 wr) (fun _ s' _ => m - (intOf s').toNat)
        case atStart => exact ⟨0, Nat.zero_le _, rfl, by simp, Below.refl _ _⟩
        case round =>
          obtain ⟨j, hj, rfl, rfl, hb⟩ := hrel
          obtain ⟨w3, hw3⟩ : ∃ w3, w3 = wr := ⟨_, rfl⟩
          subst hw3
          have HB3 := Lib.hid (HB2.out.trans (hb.mono HB2.out.size))
          have HBR := Lib.hid hb
          have hg := (hb.block _ (Array.getElem?_eq_some_iff.1 G.out).1).trans G.out
          have g10 := cell_blk hg 10 (v := .slice As m cs) rfl
          have HGR := Lib.hid hg
          clear hb hg
          obtain ⟨cb, hcb⟩ : ∃ b, (b1 || ((sp.take j).any (fun x => inS x s) && y)) = b := ⟨_, rfl⟩
          rw [hcb]
          cases cb with
          | true =>
            have HFIN := Lib.hid (has_more hcb)
            clear hcb
            by_cases hjm : (j : Int) < m
            · go_wp2_with fail
              go_round
              case rel => exact ⟨q + 1, HQ1.out, by go_num, by rw [HNX.out, HFIN.out], HB3.out⟩
              case measure => simp [intOf]; omega
            · go_wp2_with fail
              go_round
              case rel => exact ⟨q + 1, HQ1.out, by go_num, by rw [HNX.out, HFIN.out], HB3.out⟩
              case measure => simp [intOf]; omega
          | false =>
            by_cases hjm : (j : Int) < m
            · have htk := any_take (fun x => inS x s) sp dS j (by rw [HSM.out]; omega)
              obtain ⟨ad7, X7, hao, hX7, e1, e2⟩ := HKK.out j (by omega)
              obtain ⟨fz, hfz⟩ : ∃ f, (sp.getD j dS).f = f := ⟨_, rfl⟩
              obtain ⟨tz, htz⟩ : ∃ t, (sp.getD j dS).t = t := ⟨_, rfl⟩
              have hin : inS (sp.getD j dS) s = (decide (fz ≤ (s : Int)) && decide ((s : Int) < tz)) := by rw [← hfz, ← htz]; rfl
              rw [hfz] at e1
              rw [htz] at e2
              have y1 := cell_below e1 HB3.out
              have y2 := cell_below e2 HB3.out
              have hnew : (b1 || ((sp.take (j + 1)).any (fun x => inS x s) && y)) = (decide (fz ≤ (s : Int)) && decide ((s : Int) < tz) && y) := by
                rw [htk, hin]
                revert hcb
                cases b1 <;> cases y <;> cases ((sp.take j).any fun x => inS x s) <;> simp
              have HT := Lib.hid hnew
              have HJ1 := Lib.hid (show j + 1 ≤ m by omega)
              have hj9 : (j : Int) ≤ 32 := by omega
              cases hao
              clear e1 e2 hfz htz hin htk hnew hcb
              by_cases hf : fz ≤ (s : Int)
              · have d1 : decide (fz ≤ (s : Int)) = true := decide_eq_true hf
                by_cases hg : (s : Int) < tz
                · have d2 : decide ((s : Int) < tz) = true := decide_eq_true hg
                  rw [d1, d2] at HT
                  have g0 := cell_blk HGR.out 0 (v := .int .i64 k0) rfl
                  have g1 := cell_blk HGR.out 1 (v := .int .i64 k1) rfl
                  have g2 := cell_blk HGR.out 2 (v := .int .i64 k2) rfl
                  have g3 := cell_blk HGR.out 3 (v := .int .i64 k3) rfl
                  have g4 := cell_blk HGR.out 4 (v := .int .i64 k4) rfl
                  have g5 := cell_blk HGR.out 5 (v := .int .i64 k5) rfl
                  have g6 := cell_blk HGR.out 6 (v := .int .i64 k6) rfl
                  have g7 := cell_blk HGR.out 7 (v := .int .i64 k7) rfl
                  have g8 := cell_blk HGR.out 8 (v := .int .i64 k8) rfl
                  have g9 := cell_blk HGR.out 9 (v := .int .i64 k9) rfl
                  clear hf hg
                  go_wp2_with fail
                  refine (HMT.out _).mono ?_
                  rintro e w4 ⟨rfl, hb4⟩
                  have HB4 := Lib.hid (HBR.out.trans (hb4.mono HBR.out.size))
                  clear hb4
                  go_wp2_with fail
                  go_round
                  case rel => exact ⟨j + 1, HJ1.out, by go_num, by rw [HT.out]; rfl, HB4.out⟩
                  case measure => simp [intOf]; omega
                · have d2 : decide ((s : Int) < tz) = false := decide_eq_false hg
                  rw [d1, d2] at HT
                  clear hf hg
                  go_wp2_with fail
                  go_round
                  case rel => exact ⟨j + 1, HJ1.out, by go_num, by rw [HT.out]; rfl, HBR.out⟩
                  case measure => simp [intOf]; omega
              · have d1 : decide (fz ≤ (s : Int)) = false := decide_eq_false hf
                rw [d1] at HT
                clear hf
                go_wp2_with fail
                go_round
                case rel => exact ⟨j + 1, HJ1.out, by go_num, by rw [HT.out]; rfl, HBR.out⟩
                case measure => simp [intOf]; omega
            · have hall : (b1 || (sp.any (fun x => inS x s) && y)) = false := by
                rw [← hcb, List.take_of_length_le (by rw [HSM.out]; omega)]
              have HFIN := Lib.hid hall
              clear hcb hall
              go_wp2_with fail
              go_round
              case rel => exact ⟨q + 1, HQ1.out, by go_num, by rw [HNX.out, HFIN.out], HB3.out⟩
              case measure => simp [intOf]; omega
      · have hall : (p.es.take q).any (hitE day s) = p.es.any (hitE day s) := by rw [List.take_of_length_le (by rw [HNE.out]; omega)]
        rw [hall]
        obtain ⟨H, hH⟩ : ∃ H, p.es.any (hitE day s) = H := ⟨_, rfl⟩
        rw [hH]
        have HH := Lib.hid hH
        clear hH
        clear hall
        go_wp2_with fail
        go_loopw [9, 13] (fun b s' wr => ∃ z : Nat, z ≤ mu ∧ s' = .int .i64 z ∧ b = .bool (H && !((p.ex.take z).any fun x => inn l (hitE day s) x.toNat)) ∧ Below w.heap.size w wr) (fun _ s' _ => mu - (intOf s').toNat)
        case atStart => exact ⟨0, Nat.zero_le _, rfl, by simp, HB.out⟩
        case round =>
          obtain ⟨z, hz, rfl, rfl, hb⟩ := hrel
          obtain ⟨w3, hw3⟩ : ∃ w3, w3 = wr := ⟨_, rfl⟩
          subst hw3
          have HB3 := Lib.hid hb
          have x2 := HX2.out _ hb
          clear hb
          obtain ⟨cb, hcb⟩ : ∃ b, (H && !((p.ex.take z).any fun x => inn l (hitE day s) x.toNat)) = b := ⟨_, rfl⟩
          rw [hcb]
          cases cb with
          | false =>
            have HFIN := Lib.hid (ex_less hcb)
            clear hcb
            go_wp2_with fail
            go_ret
            exact ⟨ret_bool (by rw [HH.out]; exact HFIN.out.symm), HB3.out⟩
          | true =>
            by_cases hjm : (z : Int) < mu
            · have htk := any_take (fun x => inn l (hitE day s) x.toNat) p.ex 0 z (by rw [HMU.out]; omega)
              obtain ⟨ad7, hao, e1⟩ := HKU.out z (by omega)
              obtain ⟨x, hx⟩ : ∃ x, p.ex.getD z 0 = x := ⟨_, rfl⟩
              have hxm : x ∈ p.ex := by rw [← hx]; exact getD_mem (by rw [HMU.out]; omega) 0
              rw [hx] at e1
              simp only [hx] at htk
              have y1 := cell_below e1 HB3.out
              have HC := Lib.hid (HIH.out x hxm _ HB3.out)
              obtain ⟨r, hr⟩ : ∃ r, inn l (hitE day s) x.toNat = r := ⟨_, rfl⟩
              rw [hr] at HC
              have hnew : (H && !((p.ex.take (z + 1)).any fun x => inn l (hitE day s) x.toNat)) = !r := by
                rw [htk, hr]
                revert hcb
                cases H <;> cases ((p.ex.take z).any fun x => inn l (hitE day s) x.toNat) <;> simp
              have HT := Lib.hid hnew
              have HZ1 := Lib.hid (show z + 1 ≤ mu by omega)
              cases hao
              clear e1 hx hxm htk hr hnew hcb
              go_wp2_with fail
              refine HC.out.mono ?_
              rintro e w4 ⟨rfl, hb4⟩
              have HB4 := Lib.hid (HB3.out.trans (hb4.mono HB3.out.size))
              clear hb4
              go_wp2_with fail
              go_round
              case rel => exact ⟨z + 1, HZ1.out, by go_num, by rw [HT.out], HB4.out⟩
              case measure => simp [intOf]; omega
            · have hall : (H && !(p.ex.any fun x => inn l (hitE day s) x.toNat)) = true := by
                rw [← hcb, List.take_of_length_le (by rw [HMU.out]; omega)]
              have HFIN := Lib.hid hall
              clear hcb hall
              go_wp2_with fail
              go_ret
              exact ⟨ret_bool (by rw [HH.out]; exact HFIN.out.symm), HB3.out⟩
theorem refHas_any (l : List Prd) (v : Value) (day : Int) (s i : Nat) (w : World) (hg : Good l) (hd1 : -70368744177664 ≤ day) (hd2 : day ≤ 70368744177664) (hi : i < l.length) (hset : HPd w v l) :
    Calls Tryz.prog 22 #[v, .int .i64 i, .int .i64 day, .int .i64 s] w fun e w' => e = .returned (.bool (inn l (hitE day s) i)) ∧ Below w.heap.size w w' :=
  refHas_rk l v day s hg hd1 hd2 (rk l i + 1) i w (by omega) hi hset
end Go.Proofs.YtlogapkpllgdcaaGreatDoor

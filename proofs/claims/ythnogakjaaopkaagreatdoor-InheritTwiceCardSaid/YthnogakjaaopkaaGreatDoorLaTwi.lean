/- Law InheritTwice: its walk. -/
import Derived.Test.YthnogakjaaopkaaGreatDoorLaSz
import Derived.Test.YthnogakjaaopkaaGreatDoorIhSi
import Derived.Test.YthnogakjaaopkaaGreatDoorBg
import Derived.Deep.Cut
import Derived.Deep.QuietTactic
import Derived.BigQuiet
import Derived.Laws.Cover1
namespace Go.Proofs.YthnogakjaaopkaaGreatDoor
open Go.RowKit

theorem rfF_len (l : List MB) (i : Nat) (q : List Tx) : (rfF l i q).length ≤ q.length := List.length_filterMap_le _ _
/-- Lengths of what is resolved. -/
theorem rs_szs {l : List MB} (h : chkI l = none) (hl : l.length ≤ 60) (hs : ∀ b ∈ l, Smal 9000 b) : Szs (rsK l l.length) := by
  obtain ⟨hc, hno⟩ := chk_none h
  have hR := rsK_len l l.length
  have hn : (nmsT l).length ≤ 4800 := by
    have h1 := fold_len (nmsA l) []
    have h2 : (nmsA l).length ≤ l.length * 80 := by
      have e : nmsA l = allN l := rfl
      rw [e]
      exact allN_len fun b hb => (hs b hb).1
    unfold nmsT
    simp only [List.length_nil, Nat.zero_add] at h1
    omega
  have key : ∀ b ∈ rsK l l.length, b.2.1.length ≤ 9000 ∧ b.2.2.length ≤ 4800 ∧ ∀ f ∈ b.2.2, f.2.1.length ≤ 9000 := by
    intro b hb
    unfold rsK at hb
    obtain ⟨i, hi, hb⟩ := List.mem_filterMap.1 hb
    have hil : i < l.length := List.mem_range.1 hi
    rw [rsB_doc hc (List.getElem?_eq_getElem hil) (hno i hil)] at hb
    split at hb
    · have e := Option.some.inj hb
      subst e
      dsimp only
      refine ⟨(smal_len (hs _ (List.getElem_mem hil))).1, Nat.le_trans (rfF_len _ _ _) hn, fun f hf => ?_⟩
      unfold rfF at hf
      obtain ⟨nm, hnm, hf⟩ := List.mem_filterMap.1 hf
      obtain ⟨v, _, rfl⟩ := Option.map_eq_some_iff.1 hf
      obtain ⟨⟨c, hc2, g, hg, rfl⟩, _⟩ := nmsT_mem.1 hnm
      exact ((smal_len (hs c hc2)).2.2 g hg).1
    · cases hb
  refine ⟨by omega, fun b hb => ?_, ?_⟩
  · obtain ⟨h1, h2, h3⟩ := key b hb
    refine ⟨by omega, by omega, fun f hf => ?_⟩
    have h4 := h3 f hf
    have h5 := ((rs_fields h hb).1 f hf).2
    omega
  · have h1 := allN_len (l := rsK l l.length) (m := 4800) fun b hb => (key b hb).2.1
    have h2 : (rsK l l.length).length * 4800 ≤ 60 * 4800 := Nat.mul_le_mul_right _ (by omega)
    omega
theorem blk_of {w : World} {ad : Addr} {n c i : Nat} {L : List MB} (h : RowB w (.slice (some ad) n c) L) (hi : i < n) {b : MB} (hb : L[i]? = some b) : ∃ X AF cF, ad.add (i * 3) = X ∧ w.cell? X = some (.int .i64 b.1) ∧ w.cell? { block := X.block, off := X.off + 1 } = some (.string (str b.2.1)) ∧ w.cell? { block := X.block, off := X.off + 2 } = some (.slice AF b.2.2.length cF) ∧ RowF w (.slice AF b.2.2.length cF) b.2.2 := by
  obtain ⟨ad', X, vF, e, hX, k0, k1, k2, hrf⟩ := h.parts.2.2.2 i hi b hb
  injection e with e
  subst e
  obtain ⟨AF, cF, rfl, hF⟩ := hrf.form
  exact ⟨X, AF, cF, hX, k0, k1, k2, hF⟩
theorem upto_onB {R : List MB} {P : MB → Prop} {i : Nat} {b : MB} (h : ∀ (j : Nat) (c : MB), j < i → R[j]? = some c → P c) (hb : R[i]? = some b) (hp : P b) : ∀ (j : Nat) (c : MB), j < i + 1 → R[j]? = some c → P c := fun j c hj hc => by
  rcases Nat.lt_succ_iff_lt_or_eq.1 hj with h1 | rfl
  · exact h j c h1 hc
  · rw [hb] at hc
    rw [← Option.some.inj hc]
    exact hp
/-- A field that would not be read anew. -/
def Nrd (f : MF) : Prop := f.2.2 ≠ nmZ ∧ f.2.2.head? ≠ some 43
set_option maxHeartbeats 4000000 in
set_option maxRecDepth 100000 in
theorem twice_walk (L : List MB) (v : Value) (w : World) (hg : ErrT w) (hset : RowB w v L) :
    Calls Tryz.prog 6 #[v] w fun e w' => e = .returned (.bool true) ∧ Below w.heap.size w w' := by
  have hL : L.length ≤ 9223372036854775807 := by
    obtain ⟨A, c, rfl, hr⟩ := hset.form
    exact Nat.le_trans hr.parts.2.1 (Nat.le_trans hr.parts.2.2.1 (by decide))
  have HLg := Lib.hid (large_any v L w hL hset)
  have HSu := Lib.hid (fun W h => sure_any W h)
  obtain ⟨A, c, rfl, hrs⟩ := hset.form
  obtain ⟨n, hn⟩ : ∃ n, L.length = n := ⟨_, rfl⟩
  rw [hn] at hrs hL HLg ⊢
  have HM := Lib.hid (And.intro hg (And.intro hrs hn))
  clear hg hset hrs hn
  go_enter Tryz.func6, Tryz.ntmps6
  go_wp2_with fail
  with_reducible refine HLg.out.mono ?_
  rintro e w1 ⟨B, rfl, hb, himp⟩
  have HB1 := Lib.hid hb
  have HI := Lib.hid himp
  clear hb himp HLg
  cases B
  case true =>
    go_wp2_with fail
    with_reducible refine (HSu.out _ (HM.out.1.below HB1.out)).mono ?_
    rintro e w9 ⟨rfl, hb⟩
    have HB9 := Lib.hid (HB1.out.trans (hb.mono HB1.out.size))
    clear hb
    go_wp2_with fail
    go_ret
    exact ret_trueI HB9.out
  case false =>
    have hIf := HI.out rfl
    rw [HM.out.2.2] at hIf
    have HIf := Lib.hid hIf
    clear hIf
    by_cases h20 : 20 < n
    · have d : (20 : Int) < n := by omega
      clear h20
      go_wp2_with fail
      with_reducible refine (HSu.out _ (HM.out.1.below HB1.out)).mono ?_
      rintro e w9 ⟨rfl, hb⟩
      have HB9 := Lib.hid (HB1.out.trans (hb.mono HB1.out.size))
      clear hb
      go_wp2_with fail
      go_ret
      exact ret_trueI HB9.out
    · have d : ¬ (20 : Int) < n := by omega
      have HSi := Lib.hid (single_any (.slice A n c) L w1 (by rw [HM.out.2.2]; omega) (fun b hb => by have := (HIf.out.2 b hb).1; omega) (HM.out.2.1.below HB1.out))
      go_wp2_with fail
      with_reducible refine HSi.out.mono ?_
      rintro e w2 ⟨B2, rfl, hb, hsg⟩
      have HB2 := Lib.hid (HB1.out.trans (hb.mono HB1.out.size))
      have HSg := Lib.hid hsg
      clear hb hsg HSi
      cases B2
      case false =>
        go_wp2_with fail
        with_reducible refine (HSu.out _ (HM.out.1.below HB2.out)).mono ?_
        rintro e w9 ⟨rfl, hb⟩
        have HB9 := Lib.hid (HB2.out.trans (hb.mono HB2.out.size))
        clear hb
        go_wp2_with fail
        go_ret
        exact ret_trueI HB9.out
      case true =>
        have hszs : Szs L := szs_of (by rw [HM.out.2.2]; omega) HIf.out.2
        have HGv := Lib.hid (give_any (.slice A n c) L w2 (by rw [HM.out.2.2]; omega) (fun b hb => by have := (HIf.out.2 b hb).1; omega) (HM.out.2.1.below HB2.out))
        have HSz := Lib.hid (And.intro hszs (HSg.out rfl))
        clear hszs
        go_wp2_with fail
        with_reducible refine HGv.out.mono ?_
        rintro e w3 ⟨v3, rfl, hrow, hb⟩
        have HB3 := Lib.hid (HB2.out.trans (hb.mono HB2.out.size))
        have HR3 := Lib.hid hrow
        clear hb hrow HGv
        obtain ⟨A3, c3, rfl, hr3⟩ := HR3.out.form
        rw [HM.out.2.2] at hr3 ⊢
        have HV3 := Lib.hid hr3
        clear hr3
        cases hck : chkI L with
        | some q =>
          have HRs := Lib.hid (resolve_no hck (.slice A3 n c3) w3 HSz.out.1 (HM.out.1.below HB3.out) HV3.out)
          clear hck
          unfold plV errK at HRs
          obtain ⟨q1, hq1⟩ : ∃ x, q.1 = x := ⟨_, rfl⟩
          obtain ⟨q2, hq2⟩ : ∃ x, ((q.2 : Nat) : Int) = x := ⟨_, rfl⟩
          rw [hq1, hq2] at HRs
          clear hq1 hq2
          go_wp2_with fail
          with_reducible refine HRs.out.mono ?_
          rintro e w4 ⟨rfl, hb⟩
          have HB4 := Lib.hid ((HB3.out.trans (hb.mono HB3.out.size)).alloc (HB3.out.trans (hb.mono HB3.out.size)).size (.cells #[.int .i64 q1, .int .i64 q2] 29))
          clear hb
          go_wp2_with fail
          with_reducible refine (HSu.out _ (HM.out.1.below HB4.out)).mono ?_
          rintro e w9 ⟨rfl, hb⟩
          have HB9 := Lib.hid (HB4.out.trans (hb.mono HB4.out.size))
          clear hb
          go_wp2_with fail
          go_ret
          exact ret_trueI HB9.out
        | none =>
          have HRs := Lib.hid (resolve_ok hck (.slice A3 n c3) w3 HSz.out.1 (HM.out.1.below HB3.out) HV3.out)
          have HCk := Lib.hid hck
          clear hck
          unfold plV at HRs
          go_wp2_with fail
          with_reducible refine HRs.out.mono ?_
          rintro e w4 ⟨⟨v4, rfl, hrow⟩, hb⟩
          obtain ⟨R, hR⟩ : ∃ R, rsK L L.length = R := ⟨_, rfl⟩
          rw [hR] at hrow
          obtain ⟨p, hp⟩ : ∃ p, R.length = p := ⟨_, rfl⟩
          obtain ⟨A4, c4, rfl, hr4⟩ := hrow.form
          rw [hp] at hr4 ⊢
          have hp60 : p ≤ 60 := by have := rsK_len L L.length; rw [hR, HM.out.2.2] at this; omega
          have HRR := Lib.hid (And.intro (show Szs R by rw [← hR]; exact rs_szs HCk.out (by rw [HM.out.2.2]; omega) HIf.out.2) (And.intro (show ∀ b ∈ R, (∀ f ∈ b.2.2, three f.2.1 = false ∧ f.2.2.length ≤ 4096) ∧ b.2.2.Pairwise fun f g => Op.bytesLess f.2.1 g.2.1 = true by rw [← hR]; exact fun b hb => rs_fields HCk.out hb) hp))
          have HB5 := Lib.hid ((HB3.out.trans (hb.mono HB3.out.size)).alloc (HB3.out.trans (hb.mono HB3.out.size)).size (.cells #[.int .i64 0, .int .i64 0] 29))
          have HR5 := Lib.hid (hr4.below ((Below.refl w4.heap.size w4).alloc (Nat.le_refl _) (.cells #[.int .i64 0, .int .i64 0] 29)))
          obtain ⟨w5, hw5⟩ : ∃ x, w4.alloc (.cells #[.int .i64 0, .int .i64 0] 29) = x := ⟨_, rfl⟩
          rw [hw5] at HB5 HR5
          have HW5 := Lib.hid hw5
          clear hb hw5 hrow hr4 hR hp
          go_upto_region 6 with fail
          rw [HW5.out]
          go_wp2_with fail
          go_loopw [6] (fun iv wr => ∃ i : Nat, iv = .int .i64 i ∧ i ≤ p ∧ Below w5.heap.size w5 wr ∧ ∀ (j : Nat) (b : MB), j < i → R[j]? = some b → ∀ f ∈ b.2.2, Nrd f) (fun iv _ => p - (intOf iv).toNat)
          case atStart => exact ⟨0, rfl, Nat.zero_le _, Below.refl _ _, fun j b hj => absurd hj (Nat.not_lt_zero j)⟩
          case round =>
            obtain ⟨i, rfl, hi, hb, hno⟩ := hrel
            have HO := Lib.hid (And.intro hb hno)
            obtain ⟨wo, hwo⟩ : ∃ x, x = wr := ⟨_, rfl⟩
            subst hwo
            clear hb hno
            by_cases hip : i < p
            · have q0 : (0 : Int) ≤ i := by omega
              have q1 : (i : Int) < p := by omega
              obtain ⟨b, hbi⟩ : ∃ b, R[i]? = some b := ⟨_, List.getElem?_eq_getElem (by rw [HRR.out.2.2]; exact hip)⟩
              have hbm : b ∈ R := List.mem_of_getElem? hbi
              obtain ⟨m, hm⟩ : ∃ m, b.2.2.length = m := ⟨_, rfl⟩
              have hm9 : m ≤ 1000000 := by rw [← hm]; exact (HRR.out.1.2.1 b hbm).2.1
              obtain ⟨hfl, hsr⟩ := HRR.out.2.1 b hbm
              have hA4 : ∃ ad, A4 = some ad := by
                obtain ⟨ad, _, _, e, _⟩ := HR5.out.parts.2.2.2 i hip b hbi
                exact ⟨ad, e⟩
              obtain ⟨ad, rfl⟩ := hA4
              obtain ⟨X, AF, cF, hX, k0', k1', k2', hF'⟩ := blk_of HR5.out hip hbi
              rw [hm] at k2' hF'
              have HK : Hid (∀ W, Below w5.heap.size w5 W → W.cell? { block := X.block, off := X.off + 2 } = some (.slice AF m cF) ∧ RowF W (.slice AF m cF) b.2.2) := fun W h => ⟨cell9_below k2' h, hF'.below h⟩
              obtain ⟨k2, hF⟩ := HK.out wo HO.out.1
              have HBk := Lib.hid (And.intro hbi (And.intro hm (And.intro hfl hsr)))
              clear hbi hbm hm hfl hsr k0' k1' k2' hF' hF
              go_wp2_with fail
              go_loopw [7] (fun kv wr => ∃ k : Nat, kv = .int .i64 k ∧ k ≤ m ∧ Below w5.heap.size w5 wr ∧ ∀ f ∈ b.2.2.take k, Nrd f) (fun kv _ => m - (intOf kv).toNat)
              case atStart => exact ⟨0, rfl, Nat.zero_le _, HO.out.1, fun f hf => by simp at hf⟩
              case round =>
                obtain ⟨k, rfl, hk, hb, hno⟩ := hrel
                obtain ⟨k2, hF⟩ := HK.out wr hb
                have HN := Lib.hid (And.intro hb hno)
                by_cases hkm : k < m
                · have s0 : (0 : Int) ≤ k := by omega
                  have s1 : (k : Int) < m := by omega
                  have hkl : k < b.2.2.length := by rw [HBk.out.2.1]; exact hkm
                  obtain ⟨f, hf⟩ : ∃ f, b.2.2[k]? = some f := ⟨_, List.getElem?_eq_getElem hkl⟩
                  have hfm : f ∈ b.2.2 := List.mem_of_getElem? hf
                  obtain ⟨adF, Y, rfl, hY, m0, m1, m2⟩ := hF.parts.2.2.2 k hkm f hf
                  obtain ⟨N1, hN1⟩ : ∃ x, str f.2.1 = x := ⟨_, rfl⟩
                  obtain ⟨N2, hN2⟩ : ∃ x, str f.2.2 = x := ⟨_, rfl⟩
                  rw [hN1] at m1
                  rw [hN2] at m2
                  obtain ⟨g6, hg6⟩ : ∃ x, wr.heap.size = x := ⟨_, rfl⟩
                  obtain ⟨w6, hw6⟩ : ∃ x, wr.alloc (.cells #[.int .i64 f.1, .string N1, .string N2] 45) = x := ⟨_, rfl⟩
                  have hb6 : Below wr.heap.size wr w6 := by rw [← hw6]; exact (Below.refl _ _).alloc (Nat.le_refl _) _
                  have h6 : w6.heap[g6]? = some (.cells #[.int .i64 f.1, .string N1, .string N2] 45 (0, 0)) := by rw [← hw6, ← hg6]; exact (MapKept.heap_alloc wr _).1
                  have c1 := cell9_blk h6 1 rfl
                  have c2 := cell9_blk h6 2 rfl
                  have h3 : three f.2.1 = false := (HBk.out.2.2.1 f hfm).1
                  have h3' : (f.2.1 == nmN || f.2.1 == nmU || f.2.1 == nmR) = false := h3
                  simp only [Bool.or_eq_false_iff] at h3'
                  have t1 : (N1.toList == [110, 97, 109, 101]) = false := by rw [← hN1, str_toList]; exact h3'.1.1
                  have t2 : (N1.toList == [117, 115, 101]) = false := by rw [← hN1, str_toList]; exact h3'.1.2
                  have t3 : (N1.toList == [114, 101, 103, 105, 115, 116, 101, 114]) = false := by rw [← hN1, str_toList]; exact h3'.2
                  have hlen := (HBk.out.2.2.1 f hfm).2
                  have hbw6 := hb.trans (hb6.mono hb.size)
                  have htk : b.2.2.take (k + 1) = b.2.2.take k ++ [f] := by rw [List.take_succ_eq_append_getElem hkl]; rw [List.getElem?_eq_getElem hkl] at hf; rw [Option.some.inj hf]
                  have hnext : Nrd f → ∀ x ∈ b.2.2.take (k + 1), Nrd x := fun h x hx => by
                    rw [htk] at hx
                    rcases List.mem_append.1 hx with h1 | h1
                    · exact hno x h1
                    · rw [List.mem_singleton.1 h1]; exact h
                  have k26 := cell9_below k2 hb6
                  have hprev : k = 0 ∨ ∃ (k1 : Nat) (g : MF) (Y1 : Addr), k = k1 + 1 ∧ adF.add (k1 * 3) = Y1 ∧ w6.cell? { block := Y1.block, off := Y1.off + 1 } = some (.string (str g.2.1)) ∧ Op.bytesLess g.2.1 f.2.1 = true := by
                    rcases Nat.eq_zero_or_pos k with h0 | h0
                    · exact .inl h0
                    · obtain ⟨k1, rfl⟩ : ∃ k1, k = k1 + 1 := ⟨k - 1, by omega⟩
                      have hk1 : k1 < b.2.2.length := by omega
                      obtain ⟨ad', Y1, e, hY1, _, n1, _⟩ := hF.parts.2.2.2 k1 (by omega) b.2.2[k1] (List.getElem?_eq_getElem hk1)
                      injection e with e
                      subst e
                      refine .inr ⟨k1, b.2.2[k1], Y1, rfl, hY1, cell9_below n1 hb6, ?_⟩
                      have := List.pairwise_iff_getElem.1 HBk.out.2.2.2 k1 (k1 + 1) hk1 hkl (by omega)
                      rw [List.getElem?_eq_getElem hkl] at hf
                      rw [Option.some.inj hf] at this
                      exact this
                  have HF := Lib.hid (And.intro hlen (And.intro hbw6 (And.intro hnext (And.intro hN1 (And.intro hN2 h6)))))
                  have HZ : Hid ((N2.toList == [110, 117, 108, 108]) = (f.2.2 == nmZ)) := by unfold Hid; rw [← hN2, str_toList]
                  clear hb hno hF hkl hf hfm hb6 h3 h3' hlen hbw6 htk hnext hN2 h6
                  rcases hprev with h0 | ⟨k1, g, Y1, hkk, hY1, n1, hless⟩
                  case' inl =>
                    have z2 : ¬ (0 : Int) < (k : Int) := by omega
                    have z3 : decide (0 < k) = false := decide_eq_false (by omega)
                    clear hN1 h0
                    go_wp2_with fail
                    go_quiet (fail)
                    obtain ⟨w7, hw7⟩ : ∃ x, w6.drewN nq = x := ⟨_, rfl⟩
                    have c29 : w7.cell? { block := g6, off := 2 } = some (.string N2) := by rw [← hw7]; exact c2
                    have HB7 : Hid (Below w5.heap.size w5 w7) := by unfold Hid; rw [← hw7]; exact HF.out.2.1.trans ((below_drewN _ _).mono HF.out.2.1.size)
                    rw [hw7]
                    clear hw7 c1 c2
                  case' inr =>
                    obtain ⟨N3, hN3⟩ : ∃ x, str g.2.1 = x := ⟨_, rfl⟩
                    rw [hN3] at n1
                    have hle : Op.bytesLess N3.toList N1.toList = true := by rw [← hN3, ← hN1, str_toList, str_toList]; exact hless
                    have z1 : IntKind.i64.wrap ((k : Int) - 1) = (k1 : Int) := by
                      have e : (k : Int) - 1 = k1 := by omega
                      rw [e]
                      exact IntWalk.i64_in _ (by omega)
                    have z2 : (0 : Int) < (k : Int) := by omega
                    have z3 : decide (0 < k) = true := decide_eq_true (by omega)
                    have z4 : (0 : Int) ≤ k1 := by omega
                    have z5 : (k1 : Int) < m := by omega
                    clear hless hN1 hN3 hkk
                    go_wp2_with fail
                    go_quiet (fail)
                    obtain ⟨w7, hw7⟩ : ∃ x, w6.drewN nq = x := ⟨_, rfl⟩
                    have c29 : w7.cell? { block := g6, off := 2 } = some (.string N2) := by rw [← hw7]; exact c2
                    have HB7 : Hid (Below w5.heap.size w5 w7) := by unfold Hid; rw [← hw7]; exact HF.out.2.1.trans ((below_drewN _ _).mono HF.out.2.1.size)
                    rw [hw7]
                    clear hw7 c1 c2
                  all_goals
                    clear k26
                    by_cases hz : f.2.2 = nmZ
                    case' pos =>
                      have hz' : (N2.toList == [110, 117, 108, 108]) = true := by rw [HZ.out, hz]; rfl
                      clear hz
                      go_wp2_with fail
                      with_reducible refine (HSu.out _ (HM.out.1.below (HB5.out.trans (HB7.out.mono HB5.out.size)))).mono ?_
                      rintro e w9 ⟨rfl, hb⟩
                      have HB9 := Lib.hid ((HB5.out.trans (HB7.out.mono HB5.out.size)).trans (hb.mono (HB5.out.trans (HB7.out.mono HB5.out.size)).size))
                      clear hb
                      go_wp2_with fail
                      go_ret
                      exact ret_trueI HB9.out
                    case' neg =>
                      have hz' : (N2.toList == [110, 117, 108, 108]) = false := by rw [HZ.out, beq_eq_false_iff_ne]; exact hz
                      rcases hfv : f.2.2 with _ | ⟨x, tl⟩
                      case' nil =>
                        have hn := HF.out.2.2.1 ⟨hz, by rw [hfv]; simp⟩
                        have HNx := Lib.hid hn
                        have hsz : N2.size = 0 := by rw [← HF.out.2.2.2.2.1, hfv]; rfl
                        clear hn hz
                        go_wp2_with fail
                        exact ⟨⟨k + 1, by go_num, hkm, HB7.out, HNx.out⟩, by simp [intOf]; omega⟩
                      case' cons =>
                        obtain ⟨z9, hz9⟩ : ∃ z, tl.length = z := ⟨_, rfl⟩
                        obtain ⟨S9, hS9, hsz, hat, _⟩ := cons_facts x tl z9 hz9
                        have hS9' : N2 = S9 := by rw [← HF.out.2.2.2.2.1, hfv]; exact hS9
                        subst hS9'
                        have hz8 : z9 ≤ 9000 := by have := HF.out.1; rw [hfv, List.length_cons] at this; omega
                        have hzp : (0 : Int) < z9 + 1 := by omega
                        by_cases hx : x = 43
                        case' pos =>
                          subst hx
                          have hx2 : ((43 : UInt8).toNat : Int) = 43 := rfl
                          clear hfv hS9
                          go_wp2_with fail
                          with_reducible refine (HSu.out _ (HM.out.1.below (HB5.out.trans (HB7.out.mono HB5.out.size)))).mono ?_
                          rintro e w9 ⟨rfl, hb⟩
                          have HB9 := Lib.hid ((HB5.out.trans (HB7.out.mono HB5.out.size)).trans (hb.mono (HB5.out.trans (HB7.out.mono HB5.out.size)).size))
                          clear hb
                          go_wp2_with fail
                          go_ret
                          exact ret_trueI HB9.out
                        case' neg =>
                          have hx2 : ¬ (x.toNat : Int) = 43 := by
                            intro h
                            exact hx (UInt8.toNat_inj.1 (by have : x.toNat = 43 := by omega
                                                            rw [this]; rfl))
                          have hx3 : ((x.toNat : Int) == 43) = false := beq_eq_false_iff_ne.2 hx2
                          have hn := HF.out.2.2.1 ⟨hz, by rw [hfv]; simpa using hx⟩
                          have HNx := Lib.hid hn
                          clear hn hz hfv hS9
                          go_wp2_with fail
                          exact ⟨⟨k + 1, by go_num, hkm, HB7.out, HNx.out⟩, by simp [intOf]; omega⟩
                · obtain rfl : m = k := by omega
                  have hall : ∀ f ∈ b.2.2, Nrd f := by
                    have h := hno
                    rwa [List.take_of_length_le (by rw [HBk.out.2.1]; exact Nat.le_refl _)] at h
                  have HA := Lib.hid hall
                  clear hb hno hF hall
                  go_wp2_with fail
                  exact ⟨⟨i + 1, by go_num, hip, HN.out.1, upto_onB (P := fun b => ∀ f ∈ b.2.2, Nrd f) HO.out.2 HBk.out.1 HA.out⟩, by simp [intOf]; omega⟩
            · obtain rfl : p = i := by omega
              have hpl : ∀ b ∈ R, PlnB b := fun b hb => by
                obtain ⟨j, hj, rfl⟩ := List.mem_iff_getElem.1 hb
                obtain ⟨h1, h2⟩ := HRR.out.2.1 _ hb
                exact ⟨fun f hf => ⟨(h1 f hf).1, (HO.out.2 j _ (by rw [← HRR.out.2.2]; exact hj) (List.getElem?_eq_getElem hj) f hf).1, (HO.out.2 j _ (by rw [← HRR.out.2.2]; exact hj) (List.getElem?_eq_getElem hj) f hf).2, (h1 f hf).2⟩, h2⟩
              have hbo := HB5.out.trans (HO.out.1.mono HB5.out.size)
              have hR2 := resolve_ok (pln_chk hpl) (.slice A4 p c4) wo HRR.out.1 (HM.out.1.below hbo) (HR5.out.below HO.out.1)
              rw [pln_rs hpl] at hR2
              unfold plV at hR2
              have HR2 := Lib.hid hR2
              have HBo := Lib.hid hbo
              clear hR2 hpl hbo
              go_wp2_with fail
              with_reducible refine HR2.out.mono ?_
              rintro e w7 ⟨⟨v7, rfl, hrow⟩, hb⟩
              obtain ⟨A7, c7, rfl, hr7⟩ := hrow.form
              rw [HRR.out.2.2] at hr7 ⊢
              have hb7 := HO.out.1.trans (hb.mono HO.out.1.size)
              have HB8 := Lib.hid (hb7.alloc hb7.size (.cells #[.int .i64 0, .int .i64 0] 29))
              have HR8 := Lib.hid (hr7.below ((Below.refl w7.heap.size w7).alloc (Nat.le_refl _) (.cells #[.int .i64 0, .int .i64 0] 29)))
              obtain ⟨w8, hw8⟩ : ∃ x, w7.alloc (.cells #[.int .i64 0, .int .i64 0] 29) = x := ⟨_, rfl⟩
              rw [hw8] at HB8 HR8
              have HW8 := Lib.hid hw8
              have t0 : ((p : Int) == (p : Int)) = true := beq_self_eq_true _
              clear hb hw8 hrow hr7 hb7
              go_upto_region 18 with fail
              rw [HW8.out]
              go_wp2_with fail
              go_loopw [12] (fun iv wr => ∃ i : Nat, iv = .int .i64 i ∧ i ≤ p ∧ Below w8.heap.size w8 wr) (fun iv _ => p - (intOf iv).toNat)
              case atStart => exact ⟨0, rfl, Nat.zero_le _, Below.refl _ _⟩
              case round =>
                obtain ⟨i, rfl, hi, hb⟩ := hrel
                have HI := Lib.hid hb
                by_cases hip : i < p
                · have q0 : (0 : Int) ≤ i := by omega
                  have q1 : (i : Int) < p := by omega
                  obtain ⟨b, hbi⟩ : ∃ b, R[i]? = some b := ⟨_, List.getElem?_eq_getElem (by rw [HRR.out.2.2]; exact hip)⟩
                  have hbm : b ∈ R := List.mem_of_getElem? hbi
                  obtain ⟨m, hm⟩ : ∃ m, b.2.2.length = m := ⟨_, rfl⟩
                  have hm9 : m ≤ 1000000 := by rw [← hm]; exact (HRR.out.1.2.1 b hbm).2.1
                  have hA4 : ∃ ad, A4 = some ad := by
                    obtain ⟨ad, _, _, e, _⟩ := HR5.out.parts.2.2.2 i hip b hbi
                    exact ⟨ad, e⟩
                  have hA7 : ∃ ad, A7 = some ad := by
                    obtain ⟨ad, _, _, e, _⟩ := HR8.out.parts.2.2.2 i hip b hbi
                    exact ⟨ad, e⟩
                  obtain ⟨ad, rfl⟩ := hA4
                  obtain ⟨ae, rfl⟩ := hA7
                  obtain ⟨X, AF, cF, hX, k0', k1', k2', hF'⟩ := blk_of HR5.out hip hbi
                  obtain ⟨Y, AG, cG, hY, m0', m1', m2', hG'⟩ := blk_of HR8.out hip hbi
                  rw [hm] at k2' hF' m2' hG'
                  have h58 : Below w5.heap.size w5 w8 := HB8.out
                  have HK : Hid (∀ W, Below w8.heap.size w8 W → W.cell? { block := X.block, off := X.off + 2 } = some (.slice AF m cF) ∧ RowF W (.slice AF m cF) b.2.2) := fun W h => ⟨cell9_below k2' (h58.trans (h.mono h58.size)), hF'.below (h58.trans (h.mono h58.size))⟩
                  have HG : Hid (∀ W, Below w8.heap.size w8 W → W.cell? { block := Y.block, off := Y.off + 2 } = some (.slice AG m cG) ∧ RowF W (.slice AG m cG) b.2.2) := fun W h => ⟨cell9_below m2' h, hG'.below h⟩
                  have k0 := cell9_below k0' (h58.trans (hb.mono h58.size))
                  have k1 := cell9_below k1' (h58.trans (hb.mono h58.size))
                  have m0 := cell9_below m0' hb
                  have m1 := cell9_below m1' hb
                  obtain ⟨k2, _⟩ := HK.out wr hb
                  obtain ⟨m2, _⟩ := HG.out wr hb
                  obtain ⟨S, hS⟩ : ∃ S, str b.2.1 = S := ⟨_, rfl⟩
                  rw [hS] at k1 m1
                  obtain ⟨x1, hx1⟩ : ∃ x, b.1 = x := ⟨_, rfl⟩
                  rw [hx1] at k0 m0
                  have t1 : (S.toList == S.toList) = true := beq_self_eq_true _
                  have t2 : ((x1 : Int) == x1) = true := beq_self_eq_true _
                  have t3 : ((m : Int) == (m : Int)) = true := beq_self_eq_true _
                  have HBk := Lib.hid hm
                  clear hbi hbm hm k0' k1' k2' hF' m0' m1' m2' hG' h58 hS hx1 hb
                  go_wp2_with fail
                  go_quiet (fail)
                  obtain ⟨w9, hw9⟩ : ∃ x, wr.drewN nq = x := ⟨_, rfl⟩
                  have hb9 : Below w8.heap.size w8 w9 := by rw [← hw9]; exact HI.out.trans ((below_drewN _ _).mono HI.out.size)
                  rw [hw9]
                  clear hw9 k0 k1 k2 m0 m1 m2 t1 t2
                  go_wp2_with fail
                  go_loopw [13] (fun kv wr => ∃ k : Nat, kv = .int .i64 k ∧ k ≤ m ∧ Below w8.heap.size w8 wr) (fun kv _ => m - (intOf kv).toNat)
                  case atStart => exact ⟨0, rfl, Nat.zero_le _, hb9⟩
                  case round =>
                    obtain ⟨k, rfl, hk, hb⟩ := hrel
                    obtain ⟨k2, hF⟩ := HK.out wr hb
                    obtain ⟨m2, hG⟩ := HG.out wr hb
                    have HN := Lib.hid hb
                    by_cases hkm : k < m
                    · have s0 : (0 : Int) ≤ k := by omega
                      have s1 : (k : Int) < m := by omega
                      have hkl : k < b.2.2.length := by rw [HBk.out]; exact hkm
                      obtain ⟨f, hf⟩ : ∃ f, b.2.2[k]? = some f := ⟨_, List.getElem?_eq_getElem hkl⟩
                      obtain ⟨af, X3, rfl, hX3, j0, j1, j2⟩ := hF.parts.2.2.2 k hkm f hf
                      obtain ⟨ag, Y3, rfl, hY3, n0, n1, n2⟩ := hG.parts.2.2.2 k hkm f hf
                      obtain ⟨N1, hN1⟩ : ∃ x, str f.2.1 = x := ⟨_, rfl⟩
                      obtain ⟨N2, hN2⟩ : ∃ x, str f.2.2 = x := ⟨_, rfl⟩
                      obtain ⟨x3, hx3⟩ : ∃ x, f.1 = x := ⟨_, rfl⟩
                      rw [hN1] at j1 n1
                      rw [hN2] at j2 n2
                      rw [hx3] at j0 n0
                      have t1 : (N1.toList == N1.toList) = true := beq_self_eq_true _
                      have t2 : (N2.toList == N2.toList) = true := beq_self_eq_true _
                      have t4 : ((x3 : Int) == x3) = true := beq_self_eq_true _
                      clear hf hkl hF hG hb hN1 hN2 hx3
                      go_wp2_with fail
                      go_quiet (fail)
                      go_wp2_with fail
                      exact ⟨⟨k + 1, by go_num, hkm, HN.out.trans ((below_drewN _ _).mono HN.out.size)⟩, by simp [intOf]; omega⟩
                    · obtain rfl : m = k := by omega
                      clear hF hG hb
                      go_wp2_with fail
                      exact ⟨⟨i + 1, by go_num, hip, HN.out⟩, by simp [intOf]; omega⟩
                · obtain rfl : p = i := by omega
                  clear hb
                  go_wp2_with fail
                  have hbw := HB5.out.trans ((HB8.out.trans (HI.out.mono HB8.out.size)).mono HB5.out.size)
                  with_reducible refine (HSu.out _ (HM.out.1.below hbw)).mono ?_
                  rintro e w9 ⟨rfl, hb⟩
                  have HB9 := Lib.hid (hbw.trans (hb.mono hbw.size))
                  clear hb
                  go_wp2_with fail
                  go_ret
                  exact ret_trueI HB9.out
end Go.Proofs.YthnogakjaaopkaaGreatDoor

/- Contracts: leb's TakeText, the document's TakeText. -/
import Derived.Test.YtkhlmlmbgfnolaaDoorL2Takes
import Derived.Deep.RegionHeld3
namespace Go.Proofs.YtkhlmlmbgfnolaaDoor
open Go.RowKit

/-- What TakeText answers: the error, the text, the rest. -/
def txt (l : List UInt8) (most : Int) : Nat × List UInt8 × List UInt8 :=
  if most < 0 then (1, [], [])
  else if (tk l).1 ≠ 0 then ((tk l).1, [], [])
  else if most < (tk l).2.1 then (2, [], [])
  else if l.length - (tk l).2.2 < (tk l).2.1 then (4, [], [])
  else (0, (l.drop (tk l).2.2).take (tk l).2.1, l.drop ((tk l).2.2 + (tk l).2.1))
/-- How TakeText ends, leb's (ev: the error's value by its number) or the document's. -/
def TxtR (ev : Nat → Value) (x : Nat × List UInt8 × List UInt8) (w : World) (e : Ending) (w' : World) : Prop :=
  ∃ A' c', e = .returned (.tuple #[.string (str x.2.1), .slice A' x.2.2.length c', ev x.1]) ∧ Rd w' A' (bs x.2.2) ∧ x.2.2.length ≤ c' ∧ Below w.heap.size w w'
theorem TxtR.err {ev : Nat → Value} {x : Nat × List UInt8 × List UInt8} {w w' : World} {k : Nat} {v : Value} (hx : x = (k, [], [])) (hv : v = ev k) (hb : Below w.heap.size w w') : TxtR ev x w (.returned (.tuple #[.string ⟨#[]⟩, .slice none 0 0, v])) w' := by
  subst hx
  subst hv
  exact ⟨none, 0, rfl, Rd.nil, Nat.le_refl _, hb⟩
theorem TxtR.ok {ev : Nat → Value} {x : Nat × List UInt8 × List UInt8} {w w' : World} {t r : List UInt8} {s : ByteArray} {q c' : Nat} {v : Value} {A' : Option Addr} (hx : x = (0, t, r)) (hs : s = str t) (hv : v = ev 0) (hq : r.length = q) (hr : Rd w' A' (bs r)) (hc : q ≤ c') (hb : Below w.heap.size w w') :
    TxtR ev x w (.returned (.tuple #[.string s, .slice A' q c', v])) w' := by
  subst hx; subst hv; subst hq; subst hs
  exact ⟨A', c', rfl, hr, hc, hb⟩
def ev64 (k : Nat) : Value := .int .i64 (k : Int)

set_option maxRecDepth 100000 in
set_option maxHeartbeats 2000000 in
theorem takeText_n (A : Option Addr) (n c : Nat) (l : List UInt8) (most : Int) (w : World) (hn : l.length = n) (hr : Rd w A (bs l)) (hc : n ≤ c) (hl : n ≤ 1000000) (hm : most ≤ 9223372036854775807) (hm0 : -9223372036854775808 ≤ most) :
    Calls Tryd.prog 12 #[.slice A n c, .int .i64 most] w (TxtR errV (txt l most) w) := by
  have HR := Lib.hid hr
  have HN := Lib.hid hn
  have HX : Hid (txt l most = if most < 0 then (1, [], [])
    else if (tk l).1 ≠ 0 then ((tk l).1, [], [])
    else if most < (tk l).2.1 then (2, [], [])
    else if l.length - (tk l).2.2 < (tk l).2.1 then (4, [], [])
    else (0, (l.drop (tk l).2.2).take (tk l).2.1, l.drop ((tk l).2.2 + (tk l).2.1))) := rfl
  generalize txt l most = x at *
  rcases Int.lt_or_le most 0 with h0 | h0
  · have hx := HX.out
    rw [if_pos h0] at hx
    have HX1 := Lib.hid hx
    clear hx HX hr hn
    go_enter Tryd.func12, Tryd.ntmps12
    go_wp2_with fail
    go_ret3
    exact TxtR.err HX1.out rfl (Below.refl _ _)
  · have errs : ∀ k : Nat, 0 < k → tk l = (k, 0, 0) → Calls Tryd.prog 12 #[.slice A n c, .int .i64 most] w (TxtR errV x w) := by
      intro k hk ht
      have hx := HX.out
      rw [if_neg (by omega), ht, if_pos (show k ≠ 0 by omega)] at hx
      have HX1 := Lib.hid hx
      have HT := Lib.hid ht
      clear hx HX hr hn ht
      go_enter Tryd.func12, Tryd.ntmps12
      go_wp2_with fail
      refine (ahead_n A n c l w HN.out HR.out hc hl).mono ?_
      rintro e w1 ⟨he, hb1⟩
      rw [HT.out, aheadV_eq, errV_pos k hk] at he
      subst he
      have HB1 := Lib.hid hb1
      clear hb1
      go_wp2_with fail
      go_ret3
      exact TxtR.err HX1.out (errV_pos k hk).symm HB1.out
    rcases tk_cases l with ⟨v, j, ht, hv, hj, _, _, hd⟩ | ht | ht
    · have hj1 : 0 < j := by rw [← hd]; exact dig_pos v
      rw [hn] at hj
      obtain ⟨ad, rfl, _⟩ := hr (by rw [bs_length]; omega)
      have hx := HX.out
      rw [if_neg (by omega), ht, if_neg (show ¬ (0 ≠ 0) by omega), hn] at hx
      dsimp only at hx
      have HX1 := Lib.hid hx
      have HT := Lib.hid ht
      have h0' : ¬ most < 0 := by omega
      have k1 : (j : Int) ≤ (n : Int) := by omega
      clear hx HX hr hn ht hd errs
      rcases Int.lt_or_le most v with h1 | h1
      · have hx := HX1.out
        rw [if_pos h1] at hx
        have HX := Lib.hid hx
        clear hx HX1
        go_enter Tryd.func12, Tryd.ntmps12
        go_wp2_with fail
        refine (ahead_n (some ad) n c l w HN.out HR.out hc hl).mono ?_
        rintro e w1 ⟨he, hb1⟩
        rw [HT.out, aheadV_eq, errV0] at he
        subst he
        have HB1 := Lib.hid hb1
        clear hb1
        go_wp2_with fail
        go_ret3
        exact TxtR.err HX.out rfl HB1.out
      · rcases Nat.lt_or_ge (n - j) v with h2 | h2
        · have hx := HX1.out
          rw [if_neg (by omega), if_pos h2] at hx
          have HX := Lib.hid hx
          have h1' : ¬ most < (v : Int) := by omega
          have h2' : (n : Int) - (j : Int) < (v : Int) := by omega
          clear hx HX1
          go_enter Tryd.func12, Tryd.ntmps12
          go_wp2_with fail
          refine (ahead_n (some ad) n c l w HN.out HR.out hc hl).mono ?_
          rintro e w1 ⟨he, hb1⟩
          rw [HT.out, aheadV_eq, errV0] at he
          subst he
          have HB1 := Lib.hid hb1
          clear hb1
          go_wp2_with fail
          go_ret3
          exact TxtR.err HX.out rfl HB1.out
        · have hx := HX1.out
          rw [if_neg (by omega), if_neg (by omega)] at hx
          have HX := Lib.hid hx
          have h1' : ¬ most < (v : Int) := by omega
          have h2' : ¬ (n : Int) - (j : Int) < (v : Int) := by omega
          have i1 : (j : Int) ≤ (c : Int) := by omega
          have i2 : (j : Int) + (v : Int) ≤ (c : Int) := by omega
          have i3 : (j : Int) ≤ (j : Int) + (v : Int) := by omega
          have i4 : (j : Int) + (v : Int) ≤ (n : Int) := by omega
          clear hx HX1
          by_cases hcj : c = j
          · obtain rfl : n = c := by omega
            obtain rfl : j = n := by omega
            obtain rfl : v = 0 := by omega
            have cv : ∀ W : World, (convert 22 9 (.slice (some ad) 0 0)).run Tryd.prog W = .ok (.string (str [])) W := fun W =>
              run_conv_str (P := Tryd.prog) Tryd.underlying22 Tryd.underlying5 Tryd.underlying9 rfl Rd.nil
            go_enter Tryd.func12, Tryd.ntmps12
            go_wp2_with fail
            refine (ahead_n (some ad) j j l w HN.out HR.out hc hl).mono ?_
            rintro e w1 ⟨he, hb1⟩
            rw [HT.out, aheadV_eq, errV0] at he
            subst he
            have HB1 := Lib.hid hb1
            clear hb1
            go_wp2_with fail
            go_region_held3 (fun _ => True)
              (first | trivial)
              (first
              | (go_at_call 18
                 refine (behind_n (some ad) j j (j + 0) l _ HN.out ?_ (by omega) hc hl).mono ?_
                 · exact (HR.out.below HB1.out).drew
                 rintro e w2 ⟨x2, rfl, hown2, hb2⟩
                 obtain ⟨A2, c2, rfl, hc2, _, _, hR2, _⟩ := owns_form hown2
                 have HB2 := Lib.hid (HB1.out.trans ((Below.refl _ w1).drew.trans (hb2.mono HB1.out.size)))
                 have HR2 := Lib.hid hR2
                 clear hb2 hown2 hR2))
            all_goals
              go_wp2_with fail
              go_ret3
              exact TxtR.ok HX.out rfl rfl (by rw [List.length_drop, HN.out]; omega) HR2.out (by omega) HB2.out
          · go_enter Tryd.func12, Tryd.ntmps12
            go_wp2_with fail
            refine (ahead_n (some ad) n c l w HN.out HR.out hc hl).mono ?_
            rintro e w1 ⟨he, hb1⟩
            rw [HT.out, aheadV_eq, errV0] at he
            subst he
            have HB1 := Lib.hid hb1
            clear hb1
            have cs : ∀ W : World, Rd W (some ad) (bs l) → (convert 22 9 (.slice (some (ad.add j)) (((j : Int) + (v : Int)).toNat - j) (c - j))).run Tryd.prog W = .ok (.string (str ((l.drop j).take v))) W := fun W hW => by
              have h := hW.cut (k := j) (cap := c) (by rw [bs_length]; exact HN.out) hc
              rw [if_neg hcj, bs_drop] at h
              exact run_conv_str (P := Tryd.prog) Tryd.underlying22 Tryd.underlying5 Tryd.underlying9 (by rw [List.length_take, List.length_drop, HN.out]; omega) (by rw [← bs_take]; exact h.take)
            have CS := Lib.hid cs
            have cv := cs w1.drew (HR.out.below HB1.out).drew
            clear cs
            obtain ⟨s, hs⟩ : ∃ s, str ((l.drop j).take v) = s := ⟨_, rfl⟩
            rw [hs] at CS cv
            have HSS := Lib.hid hs
            clear hs
            go_wp2_with fail
            go_region_held3 (fun W => (convert 22 9 (.slice (some (ad.add j)) (((j : Int) + (v : Int)).toNat - j) (c - j))).run Tryd.prog W = .ok (.string s) W)
              (first | exact cv | exact cv')
              (first
              | (go_at_call 18
                 refine (behind_n (some ad) n c (j + v) l _ HN.out ?_ ?_ hc hl).mono ?_
                 · exact (HR.out.below HB1.out).drew
                 · omega
                 rintro e w2 ⟨x2, rfl, hown2, hb2⟩
                 obtain ⟨A2, c2, rfl, hc2, _, _, hR2, _⟩ := owns_form hown2
                 have HB2 := Lib.hid (HB1.out.trans ((Below.refl _ w1).drew.trans (hb2.mono HB1.out.size)))
                 have HR2 := Lib.hid hR2
                 have cv' := CS.out w2 ((HR.out.below HB1.out).drew.below hb2)
                 clear hb2 hown2 hR2))
            all_goals
              go_wp2_with fail
              go_ret3
              exact TxtR.ok HX.out HSS.out.symm rfl (by rw [List.length_drop, HN.out]) HR2.out hc2 HB2.out
    · exact errs 3 (by omega) ht
    · exact errs 4 (by omega) ht

set_option maxRecDepth 100000 in
set_option maxHeartbeats 2000000 in
theorem refText_n (A : Option Addr) (n c : Nat) (l : List UInt8) (most : Int) (w : World) (hn : l.length = n) (hr : Rd w A (bs l)) (hc : n ≤ c) (hl : n ≤ 1000000) (hm : most ≤ 9223372036854775807) (hm0 : -9223372036854775808 ≤ most) :
    Calls Tryd.prog 13 #[.slice A n c, .int .i64 most] w (TxtR ev64 (txt l most) w) := by
  have HR := Lib.hid hr
  have HN := Lib.hid hn
  have HX : Hid (txt l most = if most < 0 then (1, [], [])
    else if (tk l).1 ≠ 0 then ((tk l).1, [], [])
    else if most < (tk l).2.1 then (2, [], [])
    else if l.length - (tk l).2.2 < (tk l).2.1 then (4, [], [])
    else (0, (l.drop (tk l).2.2).take (tk l).2.1, l.drop ((tk l).2.2 + (tk l).2.1))) := rfl
  generalize txt l most = x at *
  rcases Int.lt_or_le most 0 with h0 | h0
  · have hx := HX.out
    rw [if_pos h0] at hx
    have HX1 := Lib.hid hx
    clear hx HX hr hn
    go_enter Tryd.func13, Tryd.ntmps13
    go_wp2_with fail
    go_ret3
    exact TxtR.err HX1.out rfl (Below.refl _ _)
  · have errs : ∀ k : Nat, 0 < k → tk l = (k, 0, 0) → Calls Tryd.prog 13 #[.slice A n c, .int .i64 most] w (TxtR ev64 x w) := by
      intro k hk ht
      have hx := HX.out
      rw [if_neg (by omega), ht, if_pos (show k ≠ 0 by omega)] at hx
      have HX1 := Lib.hid hx
      have HT := Lib.hid ht
      have hk0 : ¬ (k : Int) = 0 := by omega
      have hk1 : ((k : Int) != 0) = true := bne_iff_ne.2 hk0
      clear hx HX hr hn ht
      go_enter Tryd.func13, Tryd.ntmps13
      go_wp2_with fail
      refine (reftake_n A n c l w HN.out HR.out hc hl).mono ?_
      rintro e w1 ⟨A1, c1, he, _, _, hb1⟩
      rw [HT.out, left_err HT.out hk] at he
      subst he
      have HB1 := Lib.hid hb1
      clear hb1
      go_wp2_with fail
      go_ret3
      exact TxtR.err HX1.out rfl HB1.out
    rcases tk_cases l with ⟨v, j, ht, hv, hj, _, _, hd⟩ | ht | ht
    · rw [hn] at hj
      have hx := HX.out
      rw [if_neg (by omega), ht, if_neg (show ¬ (0 ≠ 0) by omega), hn] at hx
      dsimp only at hx
      have HX1 := Lib.hid hx
      have HT := Lib.hid ht
      have hlen : (left l).length = n - j := by rw [left_ok ht, List.length_drop, hn]
      have HLE := Lib.hid hlen
      obtain ⟨q, hq⟩ : ∃ q, n - j = q := ⟨_, rfl⟩
      rw [hq] at HLE
      have h0' : ¬ most < 0 := by omega
      clear hx HX hr hn ht hd errs hlen
      rcases Int.lt_or_le most v with h1 | h1
      · have hx := HX1.out
        rw [if_pos h1] at hx
        have HX := Lib.hid hx
        clear hx HX1
        go_enter Tryd.func13, Tryd.ntmps13
        go_wp2_with fail
        refine (reftake_n A n c l w HN.out HR.out hc hl).mono ?_
        rintro e w1 ⟨A1, c1, he, _, _, hb1⟩
        rw [HT.out, HLE.out] at he
        subst he
        have HB1 := Lib.hid hb1
        clear hb1
        go_wp2_with fail
        go_ret3
        exact TxtR.err HX.out rfl HB1.out
      · have h1' : ¬ most < (v : Int) := by omega
        rcases Nat.lt_or_ge q v with h2 | h2
        · have hx := HX1.out
          rw [if_neg (by omega), if_pos (by omega)] at hx
          have HX := Lib.hid hx
          have h2' : (q : Int) < (v : Int) := by omega
          clear hx HX1
          go_enter Tryd.func13, Tryd.ntmps13
          go_wp2_with fail
          refine (reftake_n A n c l w HN.out HR.out hc hl).mono ?_
          rintro e w1 ⟨A1, c1, he, _, _, hb1⟩
          rw [HT.out, HLE.out] at he
          subst he
          have HB1 := Lib.hid hb1
          clear hb1
          go_wp2_with fail
          go_ret3
          exact TxtR.err HX.out rfl HB1.out
        · have hx := HX1.out
          rw [if_neg (by omega), if_neg (by omega)] at hx
          have HX := Lib.hid hx
          have h2' : ¬ (q : Int) < (v : Int) := by omega
          have i2 : (v : Int) ≤ (q : Int) := by omega
          clear hx HX1
          go_enter Tryd.func13, Tryd.ntmps13
          go_wp2_with fail
          refine (reftake_n A n c l w HN.out HR.out hc hl).mono ?_
          rintro e w1 ⟨A1, c1, he, hR1, hc1, hb1⟩
          rw [HT.out, HLE.out] at he
          subst he
          rw [HLE.out] at hc1
          rw [left_ok HT.out] at hR1
          have HB1 := Lib.hid hb1
          have i3 : (v : Int) ≤ (c1 : Int) := by omega
          have i4 : (q : Int) ≤ (c1 : Int) := by omega
          have cv := run_conv_str (P := Tryd.prog) (w := w1.drew) Tryd.underlying22 Tryd.underlying5 Tryd.underlying9 (c := c1) (n := v) (l := (l.drop j).take v) (by rw [List.length_take, List.length_drop, HN.out]; omega) (by rw [← bs_take]; exact hR1.take.drew)
          have HRD := Lib.hid (show Rd w1 (if c1 = v then A1 else A1.map (·.add v)) (bs (l.drop (j + v))) by
            have h := hR1.cut (k := v) (cap := c1) (by rw [bs_length, List.length_drop, HN.out]; exact hq) hc1
            rw [bs_drop, List.drop_drop] at h
            exact h)
          obtain ⟨s, hs⟩ : ∃ s, str ((l.drop j).take v) = s := ⟨_, rfl⟩
          rw [hs] at cv
          have HSS := Lib.hid hs
          clear hs hb1 hR1
          by_cases hcv : c1 = v
          · subst hcv
            obtain rfl : q = c1 := by omega
            go_wp2_with fail
            go_region_held3 (fun W => (convert 22 9 (.slice A1 q q)).run Tryd.prog W = .ok (.string s) W) (first | exact cv) (fail)
            go_wp2_with fail
            go_ret3
            have hdr : l.drop (j + q) = [] := List.drop_of_length_le (by rw [HN.out]; omega)
            exact TxtR.ok HX.out HSS.out.symm rfl (by rw [hdr]; rfl) (by rw [hdr]; exact Rd.nil) (by omega) (below_drewN HB1.out _)
          · rw [if_neg hcv] at HRD
            go_wp2_with fail
            go_region_held3 (fun W => (convert 22 9 (.slice A1 v c1)).run Tryd.prog W = .ok (.string s) W) (first | exact cv) (fail)
            go_wp2_with fail
            go_ret3
            exact TxtR.ok HX.out HSS.out.symm rfl (by rw [List.length_drop, HN.out]; omega) (HRD.out.drewN _) (by omega) (below_drewN HB1.out _)
    · exact errs 3 (by omega) ht
    · exact errs 4 (by omega) ht
end Go.Proofs.YtkhlmlmbgfnolaaDoor

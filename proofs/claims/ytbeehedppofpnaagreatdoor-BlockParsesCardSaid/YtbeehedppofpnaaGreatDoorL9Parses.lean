/- Law BlockParses: its walk. -/
import Derived.Test.YtbeehedppofpnaaGreatDoorL9Sure
import Derived.Test.YtbeehedppofpnaaGreatDoorL9Num
import Derived.Test.YtbeehedppofpnaaGreatDoorBkSame
import Derived.Test.YtbeehedppofpnaaGreatDoorBkRQ
namespace Go.Proofs.YtbeehedppofpnaaGreatDoor
open Go.RowKit

set_option maxHeartbeats 4000000 in
set_option maxRecDepth 100000 in
theorem parses_walk (sb : ByteArray) (w : World) (hm : Mx w) (hg : ErrT w) (hs : sb.size ≤ maxLen) :
    Calls Tryz.prog 3 #[.string sb] w fun e w' => e = .returned (.bool true) ∧ Below w.heap.size w w' := by
  obtain ⟨l, rfl⟩ : ∃ l, sb = str l := ⟨sb.data.toList, (str_of sb).symm⟩
  have hll : l.length ≤ 9223372036854775807 := hs
  have HSu := Lib.hid (fun W h1 h2 => sure_any9 W h1 h2)
  have HM := Lib.hid (And.intro hm hg)
  obtain ⟨c, hc⟩ : ∃ c, l.length = c := ⟨_, rfl⟩
  have hsz : (str l).size = c := hc
  clear hm hg hs
  by_cases h4 : 5000 < c ∧ c ≤ 65536
  · have d : (5000 : Int) < c := by omega
    have d2 : (c : Int) ≤ 65536 := by omega
    generalize str l = S at *
    clear hc h4 hll
    go_enter Tryz.func3, Tryz.ntmps3
    go_wp2_with fail
    with_reducible refine (HSu.out _ HM.out.1 HM.out.2).mono ?_
    rintro e w7 ⟨rfl, hb7⟩
    have HB7 := Lib.hid (hb7)
    clear hb7
    go_wp2_with fail
    go_ret
    exact ret_true9 HB7.out
  · have HP1 := Lib.hid (fun W h1 h2 => parse_any l W hll h1 h2)
    have HP2 := Lib.hid (fun W => refParse_any l W hll)
    have HN0 := Lib.hid (fun k W h => num_E k W h)
    obtain ⟨R, hR⟩ : ∃ R, parseT l = R := ⟨_, rfl⟩
    rw [hR] at HP1 HP2
    obtain ⟨S, hS⟩ : ∃ S, str l = S := ⟨_, rfl⟩
    rw [hS] at HP1 HP2 hsz ⊢
    rw [hc] at hll
    clear hR hc hS
    obtain ⟨B, ln, er⟩ := R
    have HSm := Lib.hid (fun W v1 v2 (h1 : RowB W v1 (B.map iB)) (h2 : RowB W v2 (B.map iB)) => same_any v1 v2 true (B.map iB) (B.map iB) W h1 h2 (Sm.refl _ _))
    have hway : (5000 < c ∧ ¬ c ≤ 65536) ∨ ¬ 5000 < c := by omega
    rcases hway with ⟨h5, h6⟩ | h5
    case' inl =>
      have d : (5000 : Int) < c := by omega
      have d2 : ¬ (c : Int) ≤ 65536 := by omega
    case' inr =>
      have d : ¬ (5000 : Int) < c := by omega
    all_goals
      clear h4
      go_enter Tryz.func3, Tryz.ntmps3
      go_wp2_with fail
      with_reducible refine (HP1.out _ HM.out.1 HM.out.2).mono ?_
      rintro e w1 ⟨v1, rfl, hrow1, hb1⟩
      dsimp only at hrow1 ⊢
      have H1 := Lib.hid (And.intro hrow1 hb1)
      have hal := (Below.refl w1.heap.size w1).alloc (Nat.le_refl _) (.cells #[.int .i64 (ln : Int), .int .i64 (er : Int)] 26)
      have hpl := (MapKept.heap_alloc w1 (.cells #[.int .i64 (ln : Int), .int .i64 (er : Int)] 26)).1
      have H2 := Lib.hid (And.intro (hrow1.below hal) (And.intro (hb1.trans (hal.mono hb1.size)) hpl))
      obtain ⟨w2, hw2⟩ : ∃ x, w1.alloc (.cells #[.int .i64 (ln : Int), .int .i64 (er : Int)] 26) = x := ⟨_, rfl⟩
      rw [hw2] at H2
      obtain ⟨E, hE⟩ : ∃ E, errE er = E := ⟨_, rfl⟩
      have HNe := Lib.hid (HN0.out er)
      rw [hE] at HNe ⊢
      clear hrow1 hb1 hal hpl H1 hE
      go_wp2_with fail
      with_reducible refine (HP2.out _).mono ?_
      rintro e w3 ⟨v2, rfl, hrow2, hb2⟩
      dsimp only at hrow2 ⊢
      have H3 := Lib.hid (And.intro hrow2 (And.intro (H2.out.1.below hb2) (And.intro (H2.out.2.1.trans (hb2.mono H2.out.2.1.size)) ((hb2.block _ (blk9_lt H2.out.2.2)).trans H2.out.2.2))))
      clear hrow2 hb2
      go_wp2_with fail
      with_reducible refine (HSm.out _ _ _ H3.out.2.1 H3.out.1).mono ?_
      rintro e w4 ⟨rfl, hb4⟩
      have hpl := (hb4.block _ (blk9_lt H3.out.2.2.2)).trans H3.out.2.2.2
      have k0 := cell9_blk hpl 0 (v := .int .i64 (ln : Int)) rfl
      have k1 := cell9_blk hpl 1 (v := .int .i64 (er : Int)) rfl
      have hb04 := H3.out.2.2.1.trans (hb4.mono H3.out.2.2.1.size)
      have H4 := Lib.hid (And.intro hb04 (And.intro (HM.out.1.below hb04) (HM.out.2.below hb04)))
      have t1 : ((ln : Int) == (ln : Int)) = true := beq_self_eq_true _
      have t2 : ((er : Int) == (er : Int)) = true := beq_self_eq_true _
      clear hb4 hpl hb04
      go_wp2_with fail
      with_reducible refine (HNe.out _ H4.out.2.2).mono ?_
      rintro e w5 ⟨rfl, hb5⟩
      have H5 := Lib.hid hb5
      clear hb5 k0 k1
      go_wp2_with fail
      with_reducible refine (HSu.out _ (H4.out.2.1.below H5.out) (H4.out.2.2.below H5.out)).mono ?_
      rintro e w7 ⟨rfl, hb7⟩
      have HB7 := Lib.hid (hb7)
      clear hb7
      go_wp2_with fail
      go_ret
      have hb05 := H4.out.1.trans (H5.out.mono H4.out.1.size)
      exact ret_true9 (hb05.trans (HB7.out.mono hb05.size))
end Go.Proofs.YtbeehedppofpnaaGreatDoor

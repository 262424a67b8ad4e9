/- CrcShort's walk. -/
import Derived.Test.YtbemloijgabfcaaDoorL1Sure
namespace Go.Proofs.YtbemloijgabfcaaDoor
open Go.RowKit

set_option maxRecDepth 100000 in
set_option maxHeartbeats 1000000 in
theorem short_lt (A : Option Addr) (c : Nat) (l : List UInt8) (w : World) (ht : Tab w) (hg : ErrT w) (hl : l.length < 4) (hc : l.length ≤ c) :
    Calls Tryd.prog 9 #[.slice A l.length c] w fun e w' => e = .returned (.bool true) ∧ Below w.heap.size w w' := by
  have HT := Lib.hid ht
  have HG := Lib.hid hg
  clear ht hg
  go_enter Tryd.func9, Tryd.ntmps9
  go_wp2_with fail
  refine (open_short A c l _ hl).mono ?_
  rintro e w' ⟨rfl, rfl⟩
  go_wp2_with fail
  refine (num_err 4 _ HG.out).mono ?_
  rintro e w1 ⟨rfl, hb1⟩
  have HB1 := Lib.hid hb1
  clear hb1
  go_wp2_with fail
  refine (sure_any _ (HT.out.below HB1.out)).mono ?_
  rintro e w2 ⟨rfl, hb2⟩
  have HB2 := Lib.hid (HB1.out.trans (hb2.mono HB1.out.size))
  clear hb2
  go_wp2_with fail
  go_ret
  exact ⟨rfl, HB2.out⟩

theorem more_nil : more 0 [] = 0 := by decide
theorem sealed_nil : sealed [] = le4 0 := by unfold sealed; rw [more_nil]; rfl

set_option maxRecDepth 100000 in
set_option maxHeartbeats 1000000 in
theorem short_bad (ad : Addr) (n c : Nat) (l : List UInt8) (w : World) (ht : Tab w) (hg : ErrT w) (hr : Rd w (some ad) (bs l)) (hn : l.length = n) (hl : 4 ≤ n) (hc : n ≤ c) (hm : n ≤ maxLen)
    (hbad : ¬ l.take 4 = le4 0) :
    Calls Tryd.prog 9 #[.slice (some ad) n c] w fun e w' => e = .returned (.bool true) ∧ Below w.heap.size w w' := by
  unfold maxLen at hm
  have h4 : (l.take 4).length = 0 + 4 := by rw [List.length_take]; omega
  have hq : ((str (l.take 4)).toList == (str (sealed [])).toList) = false := by
    rw [str_toList, str_toList, sealed_nil]
    exact beq_eq_false_iff_ne.2 hbad
  have ho := open_bad ad 0 c (l.take 4) w ht (by rw [← bs_take]; exact hr.take) h4 (by unfold maxLen; omega) (by omega) (by rw [List.drop_zero, List.take_zero, more_nil]; exact hbad)
  have HT := Lib.hid ht
  have HG := Lib.hid hg
  have HR := Lib.hid (show Rd w (some ad) (bs (l.take 4)) by rw [← bs_take]; exact hr.take)
  have HO := Lib.hid ho
  have H4 := Lib.hid h4
  have i4 : (4 : Int) ≤ (n : Int) := by omega
  have i5 : (4 : Int) ≤ (c : Int) := by omega
  clear ht hg hr ho h4 hn hbad
  generalize l.take 4 = m at *
  generalize hS1 : str m = s1 at *
  generalize hS2 : str (sealed []) = s2 at *
  have HS1 := Lib.hid hS1
  have HS2 := Lib.hid hS2
  clear hS1 hS2
  rcases Nat.eq_or_lt_of_le hl with rfl | hlt
  all_goals
    go_enter Tryd.func9, Tryd.ntmps9
    go_wp2_with fail
    refine HO.out.mono ?_
    rintro e w1 ⟨rfl, hb1⟩
    have HB1 := Lib.hid hb1
    clear hb1
    go_wp2_with fail
    refine (seal_n none 0 0 [] w1 rfl (HT.out.below HB1.out) Rd.nil (by omega)).mono ?_
    rintro e w2 ⟨v2, rfl, hown2, hb2⟩
    have HB2 := Lib.hid (HB1.out.trans (hb2.mono HB1.out.size))
    obtain ⟨A2, c2, rfl, hc2, _, _, hR2, _⟩ := owns_form hown2
    clear hb2 hown2
    have cv1 := run_conv_str (P := Tryd.prog) (w := w2.drew) Tryd.underlying22 Tryd.underlying5 Tryd.underlying9 (c := c) H4.out (HR.out.below HB2.out).drew
    have cv2 := run_conv_str (P := Tryd.prog) (w := w2.drew) Tryd.underlying22 Tryd.underlying5 Tryd.underlying9 (n := 4) (c := c2) rfl hR2.drew
    rw [HS1.out] at cv1
    rw [HS2.out] at cv2
    have HR2 := Lib.hid hR2
    clear hR2
    go_wp2_with fail
    go_region_held3 (fun W => (convert 22 9 (.slice (some ad) 4 c)).run Tryd.prog W = .ok (.string s1) W ∧ (convert 22 9 (.slice A2 4 c2)).run Tryd.prog W = .ok (.string s2) W)
      (first | exact ⟨cv1, cv2⟩ | exact ⟨dv1, dv2⟩)
      (first
      | (go_at_call 10
         refine (sure_any _ ?_).mono ?_
         · exact (HT.out.below HB2.out).drewN 1
         rintro e w3 ⟨rfl, hb3⟩
         have dv1 := run_conv_str (P := Tryd.prog) (w := w3) Tryd.underlying22 Tryd.underlying5 Tryd.underlying9 (c := c) H4.out ((HR.out.below HB2.out).drew.below hb3)
         have dv2 := run_conv_str (P := Tryd.prog) (w := w3) Tryd.underlying22 Tryd.underlying5 Tryd.underlying9 (n := 4) (c := c2) rfl (HR2.out.drew.below hb3)
         rw [HS1.out] at dv1
         rw [HS2.out] at dv2))
    all_goals
      go_wp2_with fail
      go_ret
      exact ⟨rfl, HB2.out.trans ((Below.refl _ _).drew.trans (hb3.mono HB2.out.size))⟩
set_option maxRecDepth 100000 in
set_option maxHeartbeats 1000000 in
theorem short_ok (ad : Addr) (n c : Nat) (l : List UInt8) (w : World) (ht : Tab w) (hg : ErrT w) (hr : Rd w (some ad) (bs l)) (hn : l.length = n) (hl : 4 ≤ n) (hc : n ≤ c) (hm : n ≤ maxLen)
    (hbad : l.take 4 = le4 0) :
    Calls Tryd.prog 9 #[.slice (some ad) n c] w fun e w' => e = .returned (.bool true) ∧ Below w.heap.size w w' := by
  unfold maxLen at hm
  have h4 : (l.take 4).length = 0 + 4 := by rw [List.length_take]; omega
  have hq : ((str (l.take 4)).toList == (str (sealed [])).toList) = true := by
    rw [str_toList, str_toList, sealed_nil]
    exact beq_iff_eq.2 hbad
  have ho := open_good ad 0 c (l.take 4) w ht (by rw [← bs_take]; exact hr.take) h4 (by omega) (by omega) (by rw [List.drop_zero, List.take_zero, more_nil]; exact hbad)
  have HT := Lib.hid ht
  have HG := Lib.hid hg
  have HR := Lib.hid (show Rd w (some ad) (bs (l.take 4)) by rw [← bs_take]; exact hr.take)
  have HO := Lib.hid ho
  have H4 := Lib.hid h4
  have i4 : (4 : Int) ≤ (n : Int) := by omega
  have i5 : (4 : Int) ≤ (c : Int) := by omega
  clear ht hg hr ho h4 hn hbad
  generalize l.take 4 = m at *
  generalize hS1 : str m = s1 at *
  generalize hS2 : str (sealed []) = s2 at *
  have HS1 := Lib.hid hS1
  have HS2 := Lib.hid hS2
  clear hS1 hS2
  rcases Nat.eq_or_lt_of_le hl with rfl | hlt
  all_goals
    go_enter Tryd.func9, Tryd.ntmps9
    go_wp2_with fail
    refine HO.out.mono ?_
    rintro e w1 ⟨v1, rfl, hown1, hb1⟩
    have HB1 := Lib.hid hb1
    obtain ⟨A1, c1, rfl, hc1, _, _, _, _⟩ := owns_form hown1
    clear hb1 hown1
    go_wp2_with fail
    refine (seal_n none 0 0 [] w1 rfl (HT.out.below HB1.out) Rd.nil (by omega)).mono ?_
    rintro e w2 ⟨v2, rfl, hown2, hb2⟩
    have HB2 := Lib.hid (HB1.out.trans (hb2.mono HB1.out.size))
    obtain ⟨A2, c2, rfl, hc2, _, _, hR2, _⟩ := owns_form hown2
    clear hb2 hown2
    have cv1 := run_conv_str (P := Tryd.prog) (w := w2.drew) Tryd.underlying22 Tryd.underlying5 Tryd.underlying9 (c := c) H4.out (HR.out.below HB2.out).drew
    have cv2 := run_conv_str (P := Tryd.prog) (w := w2.drew) Tryd.underlying22 Tryd.underlying5 Tryd.underlying9 (n := 4) (c := c2) rfl hR2.drew
    rw [HS1.out] at cv1
    rw [HS2.out] at cv2
    have HR2 := Lib.hid hR2
    clear hR2
    go_wp2_with fail
    go_region_held3 (fun W => (convert 22 9 (.slice (some ad) 4 c)).run Tryd.prog W = .ok (.string s1) W ∧ (convert 22 9 (.slice A2 4 c2)).run Tryd.prog W = .ok (.string s2) W)
      (first | exact ⟨cv1, cv2⟩ | exact ⟨dv1, dv2⟩)
      (first
      | (go_at_call 10
         refine (sure_any _ ?_).mono ?_
         · exact (HT.out.below HB2.out).drewN 1
         rintro e w3 ⟨rfl, hb3⟩
         have dv1 := run_conv_str (P := Tryd.prog) (w := w3) Tryd.underlying22 Tryd.underlying5 Tryd.underlying9 (c := c) H4.out ((HR.out.below HB2.out).drew.below hb3)
         have dv2 := run_conv_str (P := Tryd.prog) (w := w3) Tryd.underlying22 Tryd.underlying5 Tryd.underlying9 (n := 4) (c := c2) rfl (HR2.out.drew.below hb3)
         rw [HS1.out] at dv1
         rw [HS2.out] at dv2))
    all_goals
      go_wp2_with fail
      go_ret
      exact ⟨rfl, HB2.out.trans ((Below.refl _ _).drew.trans (hb3.mono HB2.out.size))⟩

theorem short_any (A : Option Addr) (c : Nat) (l : List UInt8) (w : World) (ht : Tab w) (hg : ErrT w) (hr : Rd w A (bs l)) (hc : l.length ≤ c) (hm : c ≤ maxLen) :
    Calls Tryd.prog 9 #[.slice A l.length c] w fun e w' => e = .returned (.bool true) ∧ Below w.heap.size w w' := by
  rcases Nat.lt_or_ge l.length 4 with h | h
  · exact short_lt A c l w ht hg h hc
  · obtain ⟨ad, rfl, _⟩ := hr (by rw [bs_length]; omega)
    by_cases hb : l.take 4 = le4 0
    · exact short_ok ad l.length c l w ht hg hr rfl h hc (by omega) hb
    · exact short_bad ad l.length c l w ht hg hr rfl h hc (by omega) hb
end Go.Proofs.YtbemloijgabfcaaDoor

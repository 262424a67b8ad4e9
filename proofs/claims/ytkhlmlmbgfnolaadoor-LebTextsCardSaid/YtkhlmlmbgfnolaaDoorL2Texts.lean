/- LebTexts' walk. -/
import Derived.Test.YtkhlmlmbgfnolaaDoorLebT
namespace Go.Proofs.YtkhlmlmbgfnolaaDoor
open Go.RowKit

set_option maxRecDepth 100000 in
set_option maxHeartbeats 2000000 in
theorem texts_core (A : Option Addr) (n c : Nat) (l : List UInt8) (most : Int) (w : World) (hg : ErrT w) (hr : Rd w A (bs l)) (hn : l.length = n) (hc : n ≤ c) (h4 : n ≤ 4000) (hm : -9223372036854775808 ≤ most ∧ most ≤ 9223372036854775807) :
    Calls Tryd.prog 4 #[.slice A n c, .int .i64 most] w fun e w' => e = .returned (.bool true) ∧ Below w.heap.size w w' := by
  have HG := Lib.hid hg
  have HR := Lib.hid hr
  have HN := Lib.hid hn
  obtain ⟨hm0, hm1⟩ := hm
  have HC : Hid (∀ W, Rd W A (bs l) → Calls Tryd.prog 12 #[.slice A n c, .int .i64 most] W (TxtR errV (txt l most) W)) := fun W hW => takeText_n A n c l most W HN.out hW hc (by omega) hm1 hm0
  have HF : Hid (∀ W, Rd W A (bs l) → Calls Tryd.prog 13 #[.slice A n c, .int .i64 most] W (TxtR ev64 (txt l most) W)) := fun W hW => refText_n A n c l most W HN.out hW hc (by omega) hm1 hm0
  obtain ⟨x, hx⟩ : ∃ x, txt l most = x := ⟨_, rfl⟩
  rw [hx] at HC HF
  clear hx
  obtain ⟨k, t, r⟩ := x
  obtain ⟨s, hs⟩ : ∃ s, str t = s := ⟨_, rfl⟩
  obtain ⟨q, hq⟩ : ∃ q, r.length = q := ⟨_, rfl⟩
  obtain ⟨p, hp⟩ : ∃ p, str r = p := ⟨_, rfl⟩
  obtain ⟨ek, hek⟩ : ∃ ek, errV k = ek := ⟨_, rfl⟩
  have CV : ∀ (W : World) (X : Option Addr) (cc : Nat), Rd W X (bs r) → (convert 22 9 (.slice X q cc)).run Tryd.prog W = .ok (.string p) W := fun W X cc hR => by
    rw [← hp]
    exact run_conv_str (P := Tryd.prog) Tryd.underlying22 Tryd.underlying5 Tryd.underlying9 hq hR
  have HCV := Lib.hid CV
  have HN' : Hid (∀ W, ErrT W → Calls Tryd.prog 10 #[ek] W fun e w' => e = .returned (.int .i64 k) ∧ Below W.heap.size W w') := by
    rw [← hek]
    exact fun W hW => num_errV k W hW
  have HS := Lib.hid hs
  have HQ := Lib.hid hq
  have HEK := Lib.hid hek
  clear hg hr hn CV hq hp hek hs
  go_enter Tryd.func4, Tryd.ntmps4
  go_wp2_with fail
  refine (HC.out w HR.out).mono ?_
  rintro e w1 ⟨A1, c1, he, hR1, _, hb1⟩
  dsimp only at he hR1
  rw [HS.out, HQ.out, HEK.out] at he
  subst he
  have HB1 := Lib.hid hb1
  have HR1 := Lib.hid hR1
  clear hb1 hR1
  go_wp2_with fail
  refine (HF.out w1 (HR.out.below HB1.out)).mono ?_
  rintro e w2 ⟨A2, c2, he, hR2, _, hb2⟩
  dsimp only [ev64] at he hR2
  rw [HS.out, HQ.out] at he
  subst he
  have HB2 := Lib.hid (HB1.out.trans (hb2.mono HB1.out.size))
  have cv1 := HCV.out w2 A1 c1 (HR1.out.below hb2)
  have cv2 := HCV.out w2 A2 c2 hR2
  clear hb2 hR2 HR1
  go_wp2_with fail
  refine (HN'.out w2 (HG.out.below HB2.out)).mono ?_
  rintro e w4 ⟨rfl, hb4⟩
  have HB4 := Lib.hid (HB2.out.trans (hb4.mono HB2.out.size))
  clear hb4
  go_wp2_with fail
  refine (sure_any w4).mono ?_
  rintro e w6 ⟨rfl, hb6⟩
  have HB6 := Lib.hid (HB4.out.trans (hb6.mono HB4.out.size))
  clear hb6
  go_wp2_with fail
  go_ret
  exact ⟨rfl, HB6.out⟩
theorem texts_any (A : Option Addr) (c : Nat) (l : List UInt8) (most : Int) (w : World) (hg : ErrT w) (hr : Rd w A (bs l)) (hc : l.length ≤ c) (_ : c ≤ maxLen) (hm : -9223372036854775808 ≤ most ∧ most ≤ 9223372036854775807) :
    Calls Tryd.prog 4 #[.slice A l.length c, .int .i64 most] w fun e w' => e = .returned (.bool true) ∧ Below w.heap.size w w' := by
  rcases Nat.lt_or_ge 4000 l.length with h | h
  · clear hg hr
    go_enter Tryd.func4, Tryd.ntmps4
    go_wp2_with fail
    refine (sure_any w).mono ?_
    rintro e w2 ⟨rfl, hb2⟩
    go_wp2_with fail
    go_ret
    exact ⟨rfl, hb2⟩
  · exact texts_core A l.length c l most w hg hr rfl hc h hm
end Go.Proofs.YtkhlmlmbgfnolaaDoor

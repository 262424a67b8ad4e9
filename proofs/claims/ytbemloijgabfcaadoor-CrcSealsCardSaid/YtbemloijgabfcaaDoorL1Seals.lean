/- CrcSeals' walk. -/
import Derived.Test.YtbemloijgabfcaaDoorL1Sure
import Derived.Test.YtbemloijgabfcaaDoorRef1C
namespace Go.Proofs.YtbemloijgabfcaaDoor
open Go.RowKit

set_option maxRecDepth 100000 in
set_option maxHeartbeats 4000000 in
theorem seals_core (A : Option Addr) (n c : Nat) (l m : List UInt8) (ev : Value) (k : Int) (w : World) (ht : Tab w) (hg : ErrT w) (hr : Rd w A (bs l)) (hl : l.length = n) (h4 : n ≤ 4000)
    (hO : ∀ W, Tab W → Rd W A (bs l) → Calls Tryd.prog 14 #[.slice A n c] W fun e w' => ∃ Ax cx, e = .returned (.tuple #[.slice Ax m.length cx, ev]) ∧ Rd w' Ax (bs m) ∧ Below W.heap.size W w')
    (hO' : ∀ W, Rd W A (bs l) → Calls Tryd.prog 15 #[.slice A n c] W fun e w' => ∃ Ax cx, e = .returned (.tuple #[.slice Ax m.length cx, .int .i64 k]) ∧ Rd w' Ax (bs m) ∧ Below W.heap.size W w')
    (hN : ∀ W, ErrT W → Calls Tryd.prog 18 #[ev] W fun e w' => e = .returned (.int .i64 k) ∧ Below W.heap.size W w') :
    Calls Tryd.prog 4 #[.slice A n c] w fun e w' => e = .returned (.bool true) ∧ Below w.heap.size w w' := by
  have HT := Lib.hid ht
  have HG := Lib.hid hg
  have HR := Lib.hid hr
  have HL := Lib.hid hl
  have HO := Lib.hid hO
  have HO' := Lib.hid hO'
  have HN := Lib.hid hN
  clear ht hg hr hl hO hO' hN
  have CV : ∀ (W : World) (X : Option Addr) (j cc : Nat) (q : List UInt8), q.length = j → Rd W X (bs q) → (convert 22 9 (.slice X j cc)).run Tryd.prog W = .ok (.string (str q)) W := fun W X j cc q hj hR =>
    run_conv_str (P := Tryd.prog) Tryd.underlying22 Tryd.underlying5 Tryd.underlying9 hj hR
  have HCV := Lib.hid CV
  have cv0 := CV w A n c l HL.out HR.out
  clear CV
  go_enter Tryd.func4, Tryd.ntmps4
  go_wp2_with fail
  refine (HO.out w HT.out HR.out).mono ?_
  rintro e w1 ⟨Ax, cx, rfl, hRx, hb1⟩
  have HB1 := Lib.hid hb1
  have HX := Lib.hid hRx
  clear hb1 hRx
  go_wp2_with fail
  refine (HO'.out w1 (HR.out.below HB1.out)).mono ?_
  rintro e w2 ⟨Ay, cy, rfl, hRy, hb2⟩
  have HX2 := Lib.hid (HX.out.below hb2)
  have HB2 := Lib.hid (HB1.out.trans (hb2.mono HB1.out.size))
  have HY := Lib.hid hRy
  clear hb2 hRy HX HB1
  go_wp2_with fail
  go_region_with (first
    | (go_at_call 16
       refine (seal_n A n c l _ HL.out ?_ ?_ ?_).mono ?_
       · exact (HT.out.below HB2.out).drewN 1
       · exact (HR.out.below HB2.out).drew
       · omega
       rintro e w3 ⟨v3, rfl, hown3, hb3⟩
       obtain ⟨A3, c3, rfl, _, _, _, hR3, _⟩ := owns_form hown3
       have HB3 := Lib.hid (HB2.out.trans ((Below.refl _ w2).drew.trans (hb3.mono HB2.out.size)))
       have HX3 := Lib.hid (HX2.out.drew.below hb3)
       have HY3 := Lib.hid (HY.out.drew.below hb3)
       have HS3 := Lib.hid hR3
       have cv3 := HCV.out w3 A3 (n + 4) c3 (sealed l) (by rw [seal_length, HL.out]) hR3
       clear hown3 hb3 hR3)
    | (go_at_call 17
       refine (refseal_any A n c l _ HL.out ?_ ?_).mono ?_
       · exact HR.out.below HB3.out
       · omega
       rintro e w4 ⟨v4, rfl, hown4, hb4⟩
       obtain ⟨A4, c4, rfl, _, _, _, hR4, _⟩ := owns_form hown4
       have HB4 := Lib.hid (HB3.out.trans (hb4.mono HB3.out.size))
       have HX4 := Lib.hid (HX3.out.below hb4)
       have HY4 := Lib.hid (HY3.out.below hb4)
       have cv4 := HCV.out w4 A3 (n + 4) c3 (sealed l) (by rw [seal_length, HL.out]) (HS3.out.below hb4)
       have cv5 := HCV.out w4 A4 (n + 4) c4 (sealed l) (by rw [seal_length, HL.out]) hR4
       have cv6 := HCV.out w4 Ax m.length cx m rfl HX4.out
       have cv7 := HCV.out w4 Ay m.length cy m rfl HY4.out
       clear hown4 hb4 hR4)
    | (go_at_call 18
       refine (HN.out _ ?_).mono ?_
       · exact HG.out.below HB4.out
       rintro e w5 ⟨rfl, hb5⟩
       have HB5 := Lib.hid (HB4.out.trans (hb5.mono HB4.out.size))
       have cv8 := HCV.out w5 A n c l HL.out (HR.out.below HB5.out)
       clear hb5)
    | (go_at_call 10
       refine (sure_any _ ?_).mono ?_
       · exact HT.out.below HB5.out
       rintro e w6 ⟨rfl, hb6⟩
       have HB6 := Lib.hid (HB5.out.trans (hb6.mono HB5.out.size))
       clear hb6))
  all_goals
    go_wp2_with fail
    go_ret
    exact ⟨rfl, HB6.out⟩

theorem seals_any (A : Option Addr) (c : Nat) (l : List UInt8) (w : World) (ht : Tab w) (hg : ErrT w) (hr : Rd w A (bs l)) (hc : l.length ≤ c) (_ : c ≤ maxLen) :
    Calls Tryd.prog 4 #[.slice A l.length c] w fun e w' => e = .returned (.bool true) ∧ Below w.heap.size w w' := by
  rcases Nat.lt_or_ge 4000 l.length with h | h
  · have HT := Lib.hid ht
    clear ht hg hr
    go_enter Tryd.func4, Tryd.ntmps4
    go_wp2_with fail
    refine (sure_any _ HT.out).mono ?_
    rintro e w2 ⟨rfl, hb2⟩
    go_wp2_with fail
    go_ret
    exact ⟨rfl, hb2⟩
  · rcases Nat.lt_or_ge l.length 4 with h4 | h4
    · refine seals_core A l.length c l [] (.iface 43 (.int .i64 4)) 4 w ht hg hr rfl h ?_ ?_ ?_
      · intro W _ _
        refine (open_short A c l W h4).mono ?_
        rintro e w' ⟨rfl, rfl⟩
        exact ⟨none, 0, rfl, Rd.nil, Below.refl _ _⟩
      · intro W _
        refine (refopen_short A l.length c W h4).mono ?_
        rintro e w' ⟨rfl, rfl⟩
        exact ⟨none, 0, rfl, Rd.nil, Below.refl _ _⟩
      · exact fun W hW => num_err 4 W hW
    · obtain ⟨n, hn⟩ : ∃ n, l.length = n + 4 := ⟨l.length - 4, by omega⟩
      obtain ⟨ad, rfl, _⟩ := hr (by rw [bs_length]; omega)
      rw [hn] at hc h ⊢
      by_cases hs : l = sealed (l.take n)
      · have hn' : (l.take n).length = n := by rw [List.length_take]; omega
        refine seals_core (some ad) (n + 4) c l (l.take n) .nilIface 0 w ht hg hr hn h ?_ ?_ ?_
        · intro W hT hR
          refine (open_good ad n c l W hT hR hn (by omega) hc ((sealed_of_cut l n).1 hs)).mono ?_
          rintro e w' ⟨v, rfl, hown, hb⟩
          obtain ⟨Ax, cx, rfl, _, _, _, hRx, _⟩ := owns_form hown
          exact ⟨Ax, cx, by rw [hn'], hRx, hb⟩
        · intro W hR
          refine (refopen_long ad n c l W hR hn hc (by omega)).mono ?_
          rintro e w' ⟨hb, ⟨_, rfl⟩ | ⟨hne, _⟩⟩
          · exact ⟨some ad, c, by rw [hn'], by rw [← bs_take]; exact (hR.below hb).take, hb⟩
          · exact absurd hs hne
        · exact fun W _ => num_nil W
      · refine seals_core (some ad) (n + 4) c l [] (.iface 43 (.int .i64 6)) 6 w ht hg hr hn h ?_ ?_ ?_
        · intro W hT hR
          refine (open_bad ad n c l W hT hR hn (by unfold maxLen; omega) hc (fun h => hs ((sealed_of_cut l n).2 h))).mono ?_
          rintro e w' ⟨rfl, hb⟩
          exact ⟨none, 0, rfl, Rd.nil, hb⟩
        · intro W hR
          refine (refopen_long ad n c l W hR hn hc (by omega)).mono ?_
          rintro e w' ⟨hb, ⟨he, _⟩ | ⟨_, rfl⟩⟩
          · exact absurd he hs
          · exact ⟨none, 0, rfl, Rd.nil, hb⟩
        · exact fun W hW => num_err 6 W hW
end Go.Proofs.YtbemloijgabfcaaDoor

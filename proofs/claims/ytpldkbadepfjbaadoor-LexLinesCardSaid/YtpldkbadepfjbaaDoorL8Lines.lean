/- LexLines' walk. -/
import Derived.Test.YtpldkbadepfjbaaDoorL8Num
namespace Go.Proofs.YtpldkbadepfjbaaDoor
open Go.RowKit

set_option maxHeartbeats 1000000 in
set_option maxRecDepth 100000 in
theorem lexLines_any (s : ByteArray) (w : World) (hm : Mx w) (hE : ErrT w) (hs : s.size ≤ maxLen) :
    Calls Tryd.prog 3 #[.string s] w fun e w' => e = .returned (.bool true) ∧ Below w.heap.size w w' := by
  obtain ⟨n, hn⟩ : ∃ n, s.size = n := ⟨_, rfl⟩
  have hn63 : n ≤ 9223372036854775807 := by rw [← hn]; exact hs
  have HSu := Lib.hid (fun W h => sure_any W h)
  have HM := Lib.hid hm
  by_cases hc : 9000 < n ∧ n ≤ 65536
  · obtain ⟨c1, c2⟩ := hc
    have d1 : (9000 : Int) < n := by omega
    have d2 : (n : Int) ≤ 65536 := by omega
    clear hm hE hs
    go_enter Tryd.func3, Tryd.ntmps3
    go_wp2_with fail
    refine (HSu.out _ HM.out).mono ?_
    rintro e w' ⟨rfl, hb⟩
    have HB := Lib.hid hb
    clear hb
    go_wp2_with fail
    go_ret
    exact ret_true8 HB.out
  · obtain ⟨l, hl⟩ : ∃ l : Tx, l = s.data.toList := ⟨_, rfl⟩
    have hsl : s = str l := by rw [hl]; exact (str_of s).symm
    have hln : l.length ≤ 9223372036854775807 := by rw [hl, ← Lib.size_eq, hn]; exact hn63
    have HL := Lib.hid (fun W h => lines_any l W hln h)
    have HR := Lib.hid (fun W => refLines_any l W hln)
    rw [← hsl] at HL HR
    have HN := Lib.hid (fun k W h => num_E k W h)
    have HE := Lib.hid hE
    have hlen : (ans l).1.length ≤ 1000000 := ans_len l
    obtain ⟨⟨R, a, k⟩, hR⟩ : ∃ R, ans l = R := ⟨_, rfl⟩
    rw [hR] at HL HR hlen
    have key : ¬ ((9000 : Int) < n) ∨ ((9000 : Int) < n ∧ ¬ ((n : Int) ≤ 65536)) := by omega
    clear hm hE hs hc hl hsl hln hR
    rcases key with d1 | ⟨d1, d2⟩
    all_goals
      go_enter Tryd.func3, Tryd.ntmps3
      go_wp2_with fail
      refine (HL.out _ HM.out).mono ?_
      rintro e w1 ⟨v, rfl, ⟨A, c, rfl, hc1, hc2, hrd⟩, hb1⟩
      have H1 := Lib.hid (And.intro hrd hb1)
      have E1 := Lib.hid (And.intro (HM.out.below hb1) (HE.out.below hb1))
      clear hrd hb1
      obtain ⟨eV, hev⟩ : ∃ eV, errE k = eV := ⟨_, rfl⟩
      have HNk := Lib.hid (fun W h => HN.out k W h)
      obtain ⟨m, hm⟩ : ∃ m, R.length = m := ⟨_, rfl⟩
      have HSa := Lib.hid (fun B d W h1 h2 => same_any A B c d m R W hm (by omega) h1 h2)
      simp only [hev, hm] at hc1 HNk ⊢
      have HMl := Lib.hid hm
      clear hev hm
      go_wp2_with fail
      refine (HR.out _).mono ?_
      rintro e w2 ⟨v2, rfl, ⟨B, d, rfl, hd1, hd2, hrd2⟩, hb2⟩
      have H2 := Lib.hid (And.intro (H1.out.1.below hb2) (And.intro hrd2 (And.intro (H1.out.2.trans (hb2.mono H1.out.2.size)) (And.intro (E1.out.1.below hb2) (E1.out.2.below hb2)))))
      clear hrd2 hb2
      simp only [HMl.out] at hd1 ⊢
      go_wp2_with fail
      refine (HSa.out B d _ H2.out.1 H2.out.2.1).mono ?_
      rintro e w3 ⟨rfl, hb3⟩
      have H3 := Lib.hid (And.intro (H2.out.2.2.1.trans (hb3.mono H2.out.2.2.1.size)) (And.intro (H2.out.2.2.2.1.below hb3) (H2.out.2.2.2.2.below hb3)))
      clear hb3
      go_wp2_with fail
      refine (HNk.out _ H3.out.2.2).mono ?_
      rintro e w4 ⟨rfl, hb4⟩
      have H4 := Lib.hid (And.intro (H3.out.1.trans (hb4.mono H3.out.1.size)) (H3.out.2.1.below hb4))
      clear hb4
      go_wp2_with fail
      refine (HSu.out _ H4.out.2).mono ?_
      rintro e w5 ⟨rfl, hb5⟩
      have H5 := Lib.hid (H4.out.1.trans (hb5.mono H4.out.1.size))
      clear hb5
      go_wp2_with fail
      go_ret
      exact ret_true8 H5.out
end Go.Proofs.YtpldkbadepfjbaaDoor

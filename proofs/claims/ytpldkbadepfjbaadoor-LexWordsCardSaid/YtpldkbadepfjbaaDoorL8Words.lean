/- LexWords' walk. -/
import Derived.Test.YtpldkbadepfjbaaDoorL8Sure
import Derived.Test.YtpldkbadepfjbaaDoorLxW
namespace Go.Proofs.YtpldkbadepfjbaaDoor
open Go.RowKit

set_option maxHeartbeats 1000000 in
set_option maxRecDepth 100000 in
theorem lexWords_any (s : ByteArray) (w : World) (hm : Mx w) (hs : s.size ≤ maxLen) :
    Calls Tryd.prog 4 #[.string s] w fun e w' => e = .returned (.bool true) ∧ Below w.heap.size w w' := by
  obtain ⟨n, hn⟩ : ∃ n, s.size = n := ⟨_, rfl⟩
  have hn63 : n ≤ 9223372036854775807 := by rw [← hn]; exact hs
  have HSu := Lib.hid (fun W h => sure_any W h)
  have HM := Lib.hid hm
  by_cases hc : 5000 < n
  · have d1 : (5000 : Int) < n := by omega
    clear hm hs
    go_enter Tryd.func4, Tryd.ntmps4
    go_wp2_with fail
    refine (HSu.out _ HM.out).mono ?_
    rintro e w' ⟨rfl, hb⟩
    have HB := Lib.hid hb
    clear hb
    go_wp2_with fail
    go_ret
    exact ret_true8 HB.out
  · obtain ⟨l, hl⟩ : ∃ l : Tx, l = s.data.toList := ⟨_, rfl⟩
    have hsl : s = str l := by rw [hl]; exact (str_of s).symm
    have hln : l.length ≤ 5000 := by rw [hl, ← Lib.size_eq, hn]; omega
    have HT1 := Lib.hid (fun W => trim_any l W (by omega))
    have HT2 := Lib.hid (fun W => refTrim_any l W (by omega))
    have HW1 := Lib.hid (fun W => words_any l W (by omega))
    have HW2 := Lib.hid (fun W => refWords_any l W (by omega))
    have hwl := wds_len l []
    obtain ⟨m, hm2⟩ : ∃ m, (wds l []).length = m := ⟨_, rfl⟩
    have HTx := Lib.hid (fun A B c d W h1 h2 => texts_any A B c d m (wds l []) W hm2 (by omega) h1 h2)
    have HML := Lib.hid hm2
    rw [← hsl] at HT1 HT2 HW1 HW2
    have d1 : ¬ ((5000 : Int) < n) := by omega
    obtain ⟨T, hT⟩ : ∃ T, str (trim l) = T := ⟨_, rfl⟩
    rw [hT] at HT1 HT2
    have t1 : (T.toList == T.toList) = true := beq_self_eq_true _
    generalize wds l [] = R at *
    clear hm hs hc hl hsl hln hT hwl hm2
    go_enter Tryd.func4, Tryd.ntmps4
    go_wp2_with fail
    refine (HT1.out _).mono ?_
    rintro e w1 ⟨rfl, hb1⟩
    have H1 := Lib.hid (And.intro hb1 (HM.out.below hb1))
    clear hb1
    go_wp2_with fail
    refine (HT2.out _).mono ?_
    rintro e w' ⟨rfl, rfl⟩
    go_wp2_with fail
    refine (HW1.out _).mono ?_
    rintro e w2 ⟨v, rfl, ⟨A, c, rfl, hc1, hc2, hrd⟩, hb2⟩
    have H2 := Lib.hid (And.intro hrd (And.intro (H1.out.1.trans (hb2.mono H1.out.1.size)) (H1.out.2.below hb2)))
    clear hrd hb2
    simp only [HML.out] at hc1 ⊢
    go_wp2_with fail
    refine (HW2.out _).mono ?_
    rintro e w3 ⟨v, rfl, ⟨B, d, rfl, hd1, hd2, hrd⟩, hb3⟩
    have H3 := Lib.hid (And.intro (Rd.below H2.out.1 hb3) (And.intro hrd (And.intro (H2.out.2.1.trans (hb3.mono H2.out.2.1.size)) (H2.out.2.2.below hb3))))
    clear hrd hb3
    simp only [HML.out] at hd1 ⊢
    go_wp2_with fail
    refine (HTx.out A B c d _ H3.out.1 H3.out.2.1).mono ?_
    rintro e w4 ⟨rfl, hb4⟩
    have H4 := Lib.hid (And.intro (H3.out.2.2.1.trans (hb4.mono H3.out.2.2.1.size)) (H3.out.2.2.2.below hb4))
    clear hb4
    go_wp2_with fail
    refine (HSu.out _ H4.out.2).mono ?_
    rintro e w5 ⟨rfl, hb5⟩
    have H5 := Lib.hid (H4.out.1.trans (hb5.mono H4.out.1.size))
    clear hb5
    go_wp2_with fail
    go_ret
    exact ret_true8 H5.out
end Go.Proofs.YtpldkbadepfjbaaDoor

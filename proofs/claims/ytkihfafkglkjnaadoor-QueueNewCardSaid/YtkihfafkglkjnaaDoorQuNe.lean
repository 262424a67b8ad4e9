/- Law QueueNew, walked. -/
import Derived.Test.YtkihfafkglkjnaaDoorQuNu
import Derived.Test.YtkihfafkglkjnaaDoorQuLw
namespace Go.Proofs.YtkihfafkglkjnaaDoor
open Go.RowKit

variable {Is : World → Value → (Nat → Prop) → Int → List Ev → Prop}
set_option maxRecDepth 100000 in
set_option maxHeartbeats 4000000 in
theorem qnew_walk (hP : PgQ Is) (n : Int) (w : World) (hE : ErrT w) :
    Calls Tryd.prog 4 #[.int .i64 n] w fun e w' => e = .returned (.bool true) ∧ Below w.heap.size w w' := by
  have HP := Lib.hid hP
  have HF := Lib.hid (fun W => hP.nfirst W)
  have HO := Lib.hid (fun W => hP.npop W)
  have HS := Lib.hid (fun W => hP.nset (0, 0, 0) W)
  unfold evV at HF HO HS
  dsimp only at HF HO HS
  have HNu := Lib.hid (fun W (hb : Below w.heap.size w W) => num15_any 1 W (hE.below hb))
  have HSu := Lib.hid (fun W => sure15_any hP.toPgP W)
  clear hP hE
  by_cases hn : 1 ≤ n ∧ n ≤ 65536
  case' pos =>
    obtain ⟨n1, n2⟩ := hn
    have HN := Lib.hid (fun W => HP.out.new n W n1 n2)
  case' neg =>
    have HN := Lib.hid (fun W => HP.out.no n W (by omega))
    have hn' : n < 1 ∨ (¬ n < 1 ∧ 65536 < n) := by omega
    clear hn
    rcases hn' with n1 | ⟨n1, n2⟩
  all_goals
    go_enter Tryd.func4, Tryd.ntmps4
    go_wp2_with fail
    with_reducible refine (HF.out _).mono ?_
    rintro x w1 ⟨rfl, hb⟩
    have H1 := Lib.hid hb
    clear hb
    go_wp2_with fail
    with_reducible refine (HO.out _).mono ?_
    rintro x w2 ⟨rfl, hb⟩
    have H2 := Lib.hid ((below_alO H1.out _).trans (hb.mono (below_alO H1.out _).size))
    clear hb
    go_wp2_with fail
    with_reducible refine (HP.out.nfind _ _ _).mono ?_
    rintro x w3 ⟨a, rfl, hb⟩
    have H3 := Lib.hid ((below_alO H2.out _).trans (hb.mono (below_alO H2.out _).size))
    clear hb
    go_wp2_with fail
    with_reducible refine (HS.out _).mono ?_
    rintro x w4 ⟨rfl, hb⟩
    have H4 := Lib.hid (H3.out.trans (hb.mono H3.out.size))
    clear hb
    go_wp2_with fail
    with_reducible refine (HNu.out _ H4.out).mono ?_
    rintro x w5 ⟨rfl, hb⟩
    have H5 := Lib.hid (H4.out.trans (hb.mono H4.out.size))
    clear hb
    go_wp2_with fail
    with_reducible refine (HP.out.ndrop _ _ _).mono ?_
    rintro x w6 ⟨rfl, hb⟩
    have H6 := Lib.hid (H5.out.trans (hb.mono H5.out.size))
    clear hb
    go_wp2_with fail
    with_reducible refine (HP.out.nlen _).mono ?_
    rintro x w7 ⟨rfl, hb⟩
    have H7 := Lib.hid (H6.out.trans (hb.mono H6.out.size))
    clear hb
    go_wp2_with fail
    with_reducible refine (HP.out.nlist _).mono ?_
    rintro x w8 ⟨u, rfl, hr, hb⟩
    obtain ⟨A8, c8, rfl, _⟩ := hr.form
    have H8 := Lib.hid (H7.out.trans (hb.mono H7.out.size))
    clear hb hr
    dsimp only [List.length_nil]
    go_wp2_with fail
    with_reducible refine (HN.out _).mono ?_
  all_goals
    first
    | (rintro x w9 ⟨v, F, rfl, hI, hF, hb⟩
       obtain ⟨b, rfl⟩ := HP.out.ptr hI
       have H9 := Lib.hid (And.intro hI (H8.out.trans (hb.mono H8.out.size)))
       clear hI hF hb
       go_wp2_with fail
       with_reducible refine (HP.out.leng _ _ _ _ _ H9.out.1).mono ?_
       rintro x w10 ⟨rfl, hb⟩
       have HA := Lib.hid (H9.out.2.trans (hb.mono H9.out.2.size))
       clear hb
       dsimp only [List.length_nil]
       go_wp2_with fail
       with_reducible refine (HSu.out _).mono ?_
       rintro x w11 ⟨rfl, hb⟩
       have HB := Lib.hid (HA.out.trans (hb.mono HA.out.size))
       clear hb
       go_wp2_with fail
       go_ret
       exact ⟨rfl, HB.out⟩)
    | (rintro x w9 ⟨rfl, hb⟩
       have H9 := Lib.hid (H8.out.trans (hb.mono H8.out.size))
       clear hb
       go_wp2_with fail
       with_reducible refine (HNu.out _ H9.out).mono ?_
       rintro x w10 ⟨rfl, hb⟩
       have HA := Lib.hid (H9.out.trans (hb.mono H9.out.size))
       clear hb
       go_wp2_with fail
       with_reducible refine (HSu.out _).mono ?_
       rintro x w11 ⟨rfl, hb⟩
       have HB := Lib.hid (HA.out.trans (hb.mono HA.out.size))
       clear hb
       go_wp2_with fail
       go_ret
       exact ⟨rfl, HB.out⟩)
end Go.Proofs.YtkihfafkglkjnaaDoor

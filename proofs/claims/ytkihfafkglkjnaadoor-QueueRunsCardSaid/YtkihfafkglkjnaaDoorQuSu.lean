/- Layer 15's law package: sure. -/
import Derived.Test.YtkihfafkglkjnaaDoorQuLp
namespace Go.Proofs.YtkihfafkglkjnaaDoor
open Go.RowKit

variable {Is : World → Value → (Nat → Prop) → Int → List Ev → Prop}
theorem PgP.setN (hP : PgP Is) {n : Int} {L M : List Ev} {a b c : Int} (h : stE L n (a, b, c) = (M, 0)) (hb : In64 b) (hc : In64 c) (v : Value) (F : Nat → Prop) (w : World) (hI : Is w v F n L) :
    Calls Tryd.prog 9 #[v, .agg #[.int .i64 a, .int .i64 b, .int .i64 c]] w fun x w' => x = .returned .nilIface ∧ ∃ F', Is w' v F' n M ∧ TuF F F' w w' := by
  have h1 := hP.set v F n L (a, b, c) w hb hc hI
  rw [h, errE_zero] at h1
  exact h1
set_option maxRecDepth 100000 in
set_option maxHeartbeats 2000000 in
theorem sure15_any (hP : PgP Is) (w : World) : Calls Tryd.prog 19 #[] w fun e w' => e = .returned (.bool true) ∧ Below w.heap.size w w' := by
  have HP := Lib.hid hP
  have H0 := Lib.hid (hP.new 2 w (by omega) (by omega))
  have HS1 := Lib.hid (hP.setN (n := 2) (L := []) (M := [(5, 2, 0)]) (a := 5) (b := 2) (c := 0) (by decide) (by decide) (by decide))
  have HS2 := Lib.hid (hP.setN (n := 2) (L := [(5, 2, 0)]) (M := [(5, 1, 9), (5, 2, 0)]) (a := 5) (b := 1) (c := 9) (by decide) (by decide) (by decide))
  clear hP
  go_enter Tryd.func19, Tryd.ntmps19
  go_wp2_with fail
  with_reducible refine H0.out.mono ?_
  rintro x w1 ⟨v, F, rfl, hI, hF, hb⟩
  obtain ⟨b, rfl⟩ := HP.out.ptr hI
  have H1 := Lib.hid (And.intro hI (And.intro hF hb))
  clear hI hF hb
  go_wp2_with fail
  with_reducible refine (HS1.out _ _ _ H1.out.1).mono ?_
  rintro x w2 ⟨rfl, F2, hI2, ht2⟩
  have H2 := Lib.hid (And.intro hI2 (And.intro (ht2.low H1.out.2.2.size H1.out.2.1) (ht2.below H1.out.2.2 H1.out.2.2.size H1.out.2.1)))
  clear hI2 ht2
  go_wp2_with fail
  with_reducible refine (HS2.out _ _ _ H2.out.1).mono ?_
  rintro x w3 ⟨rfl, F3, hI3, ht3⟩
  have H3 := Lib.hid (And.intro hI3 (And.intro (ht3.low H2.out.2.2.size H2.out.2.1) (ht3.below H2.out.2.2 H2.out.2.2.size H2.out.2.1)))
  clear hI3 ht3
  go_wp2_with fail
  with_reducible refine (HP.out.first _ _ _ _ _ H3.out.1).mono ?_
  rintro x w4 ⟨rfl, hb4⟩
  have H4 := Lib.hid (And.intro (HP.out.below H3.out.1 (below_alO hb4 (.cells #[.int .i64 5, .int .i64 1, .int .i64 9] 38))) (H3.out.2.2.trans ((below_alO hb4 (.cells #[.int .i64 5, .int .i64 1, .int .i64 9] 38)).mono H3.out.2.2.size)))
  clear hb4
  unfold evV
  dsimp only [List.headD_cons, List.isEmpty_cons, Bool.not_false]
  go_wp2_with fail
  with_reducible refine (HP.out.leng _ _ _ _ _ H4.out.1).mono ?_
  rintro x w5 ⟨rfl, hb5⟩
  have H5 := Lib.hid (H4.out.2.trans (hb5.mono H4.out.2.size))
  clear hb5
  dsimp only [List.length_cons, List.length_nil]
  go_wp2_with fail
  go_ret
  exact ⟨rfl, H5.out⟩
end Go.Proofs.YtkihfafkglkjnaaDoor

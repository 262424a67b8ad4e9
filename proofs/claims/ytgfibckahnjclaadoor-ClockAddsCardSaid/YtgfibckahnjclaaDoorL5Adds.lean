/- ClockAdds' walk. -/
import Derived.Test.YtgfibckahnjclaaDoorL5Sure
namespace Go.Proofs.YtgfibckahnjclaaDoor
open Go.RowKit

set_option maxRecDepth 100000 in
theorem adds_any (t b : Int) (w : World) (ht : Tab w) (hp : Pow w) (_ : -9223372036854775808 ≤ t ∧ t ≤ 9223372036854775807) (hb : -9223372036854775808 ≤ b ∧ b ≤ 9223372036854775807) :
    Calls Tryd.prog 4 #[.int .i64 t, .int .i64 b] w fun e w' => e = .returned (.bool true) ∧ Below w.heap.size w w' := by
  have H1 := Lib.hid (fun W => add_any t b W hb.1 hb.2)
  have H2 := Lib.hid (fun W => refAdd_any t b W hb.1 hb.2)
  have HS := Lib.hid (sure_any w ht hp)
  generalize addN t b = x at *
  clear ht hp hb
  go_enter Tryd.func4, Tryd.ntmps4
  go_wp2_with fail
  refine (H1.out _).mono ?_
  rintro e w1 ⟨rfl, rfl⟩
  go_wp2_with fail
  refine (H2.out _).mono ?_
  rintro e w1 ⟨rfl, rfl⟩
  go_wp2_with fail
  refine HS.out.mono ?_
  rintro e w2 ⟨rfl, hb2⟩
  have HB := Lib.hid hb2
  clear hb2
  go_wp2_with fail
  go_ret
  exact ⟨rfl, HB.out⟩
end Go.Proofs.YtgfibckahnjclaaDoor

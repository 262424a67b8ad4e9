/- Layer 3's law FilesNil: its walk. -/
import Derived.Test.YtljagggankmnkaaDoorL3Num
namespace Go.Proofs.YtljagggankmnkaaDoor
open Go.RowKit

theorem num_one (w : World) (hg : ErrT w) : Calls Tryd.prog 15 #[errV 1] w fun e w' => e = .returned (.int .i64 1) ∧ Below w.heap.size w w' := num_errV 1 w hg
set_option maxHeartbeats 4000000 in
set_option maxRecDepth 100000 in
theorem nil_walk (s : ByteArray) (n : Int) (W : World) (hg : ErrT W) : Calls Tryd.prog 5 #[.string s, .int .i64 n] W fun e w' => e = .returned (.bool true) ∧ Below W.heap.size W w' := by
  have H0 := Lib.hid hg
  clear hg
  go_enter Tryd.func5, Tryd.ntmps5
  go_wp2_with fail
  refine (read_nil s W).mono ?_
  rintro e w1 ⟨rfl, rfl⟩
  go_wp2_with fail
  refine (num_one W H0.out).mono ?_
  rintro e w1 ⟨rfl, h⟩
  have H1 := Lib.hid h
  clear h
  go_wp2_with fail
  refine (write_nil s _ w1).mono ?_
  rintro e w2 ⟨rfl, rfl⟩
  go_wp2_with fail
  refine (num_one w1 (H0.out.below H1.out)).mono ?_
  rintro e w2 ⟨rfl, h⟩
  have H2 := Lib.hid (H1.out.trans (h.mono H1.out.size))
  clear h H1
  go_wp2_with fail
  refine (rename_nil s s w2).mono ?_
  rintro e w3 ⟨rfl, rfl⟩
  go_wp2_with fail
  refine (num_one w2 (H0.out.below H2.out)).mono ?_
  rintro e w3 ⟨rfl, h⟩
  have H3 := Lib.hid (H2.out.trans (h.mono H2.out.size))
  clear h H2
  go_wp2_with fail
  refine (remove_nil s w3).mono ?_
  rintro e w4 ⟨rfl, rfl⟩
  go_wp2_with fail
  refine (num_one w3 (H0.out.below H3.out)).mono ?_
  rintro e w4 ⟨rfl, h⟩
  have H4 := Lib.hid (H3.out.trans (h.mono H3.out.size))
  clear h H3
  go_wp2_with fail
  refine (sync_nil w4).mono ?_
  rintro e w5 ⟨rfl, rfl⟩
  go_wp2_with fail
  refine (num_one w4 (H0.out.below H4.out)).mono ?_
  rintro e w5 ⟨rfl, h⟩
  have H5 := Lib.hid (H4.out.trans (h.mono H4.out.size))
  clear h H4
  go_wp2_with fail
  refine (crash_nil n n w5).mono ?_
  rintro e w6 ⟨rfl, rfl⟩
  go_wp2_with fail
  refine (num_one w5 (H0.out.below H5.out)).mono ?_
  rintro e w6 ⟨rfl, h⟩
  have H6 := Lib.hid (H5.out.trans (h.mono H5.out.size))
  clear h H5
  go_wp2_with fail
  refine (pending_nil w6).mono ?_
  rintro e w7 ⟨rfl, rfl⟩
  go_wp2_with fail
  refine (names_nil w6).mono ?_
  rintro e w7 ⟨rfl, rfl⟩
  go_wp2_with fail
  refine (sure_is w6).mono ?_
  rintro e w7 ⟨rfl, h⟩
  have H7 := Lib.hid (H6.out.trans (h.mono H6.out.size))
  clear h H6
  go_wp2_with fail
  go_ret
  exact ⟨rfl, H7.out⟩
theorem nil_any (s : ByteArray) (n : Int) (W : World) (hg : ErrT W) (_ : s.size ≤ maxLen) (_ : -9223372036854775808 ≤ n ∧ n ≤ 9223372036854775807) :
    Calls Tryd.prog 5 #[.string s, .int .i64 n] W fun e w' => e = .returned (.bool true) ∧ Below W.heap.size W w' := nil_walk s n W hg
end Go.Proofs.YtljagggankmnkaaDoor

/- CrcSums' walk. -/
import Derived.Test.YtbemloijgabfcaaDoorL1Sure
import Derived.Test.YtbemloijgabfcaaDoorRef1A
namespace Go.Proofs.YtbemloijgabfcaaDoor
open Go.RowKit

set_option maxHeartbeats 1000000 in
theorem sums_nat (A : Option Addr) (c : Nat) (l : List UInt8) (s : Nat) (w : World) (ht : Tab w) (hr : Rd w A (bs l)) (hs : s < 4294967296) :
    Calls Tryd.prog 3 #[.slice A l.length c, .int .u32 s] w fun e w' => e = .returned (.bool true) ∧ Below w.heap.size w w' := by
  have HT := Lib.hid ht
  have HR := Lib.hid hr
  clear ht hr
  rcases Nat.lt_or_ge 4000 l.length with hl | hl
  · go_enter Tryd.func3, Tryd.ntmps3
    go_wp2_with fail
    refine (sure_any _ HT.out).mono ?_
    rintro e w2 ⟨rfl, hb2⟩
    go_wp2_with fail
    go_ret
    exact ⟨rfl, hb2⟩
  · go_enter Tryd.func3, Tryd.ntmps3
    go_wp2_with fail
    refine (sum_any A c l _ HT.out HR.out (by unfold maxLen; omega)).mono ?_
    rintro e w' ⟨rfl, rfl⟩
    go_wp2_with fail
    refine (refmore_any 0 A _ c l _ rfl (by omega) HR.out (by omega)).mono ?_
    rintro e w' ⟨rfl, rfl⟩
    go_wp2_with fail
    refine (more_any s A c l _ hs HT.out HR.out (by unfold maxLen; omega)).mono ?_
    rintro e w' ⟨rfl, rfl⟩
    go_wp2_with fail
    refine (refmore_any s A _ c l _ rfl hs HR.out (by omega)).mono ?_
    rintro e w' ⟨rfl, rfl⟩
    go_wp2_with fail
    refine (sure_any _ HT.out).mono ?_
    rintro e w2 ⟨rfl, hb2⟩
    go_wp2_with fail
    go_ret
    exact ⟨rfl, hb2⟩
theorem sums_any (A : Option Addr) (c : Nat) (l : List UInt8) (s : Int) (w : World) (ht : Tab w) (hr : Rd w A (bs l)) (_ : l.length ≤ c) (_ : c ≤ maxLen) (hs : 0 ≤ s ∧ s ≤ 4294967295) :
    Calls Tryd.prog 3 #[.slice A l.length c, .int .u32 s] w fun e w' => e = .returned (.bool true) ∧ Below w.heap.size w w' := by
  obtain ⟨n, rfl⟩ := Int.eq_ofNat_of_zero_le hs.1
  exact sums_nat A c l n w ht hr (by omega)
end Go.Proofs.YtbemloijgabfcaaDoor

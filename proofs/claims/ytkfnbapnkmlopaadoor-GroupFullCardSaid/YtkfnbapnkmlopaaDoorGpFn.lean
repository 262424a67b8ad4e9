/- Law GroupFull: its names. -/
import Derived.Test.YtkfnbapnkmlopaaDoorGpFm
import Derived.Test.YtkfnbapnkmlopaaDoorGpGi
import Derived.Deep.QuietTactic
namespace Go.Proofs.YtkfnbapnkmlopaaDoor
open Go.RowKit

theorem u8_lit (a : Nat) (h : a < 100) : ((UInt8.ofNat (97 + a)).toNat : Int) = 97 + (a : Int) := by
  rw [UInt8.toNat_ofNat']
  omega
set_option maxHeartbeats 1000000 in
set_option maxRecDepth 100000 in
theorem name13_any (i : Nat) (hi : i < 1028) (w : World) : Calls Tryd.prog 15 #[.int .i64 i] w fun e w' => e = .returned (.string (str (nmG i))) ∧ Below w.heap.size w w' := by
  obtain ⟨a, ha⟩ : ∃ a, i % 26 = a := ⟨_, rfl⟩
  obtain ⟨b, hb⟩ : ∃ b, i / 26 % 26 = b := ⟨_, rfl⟩
  obtain ⟨c, hc⟩ : ∃ c, i / 676 = c := ⟨_, rfl⟩
  obtain ⟨q, hq⟩ : ∃ q, i / 26 = q := ⟨_, rfl⟩
  have e1 : (i : Int).tmod 26 = (a : Int) := by rw [Int.tmod_eq_emod_of_nonneg (by omega)]; omega
  have e2 : (i : Int).tdiv 26 = (q : Int) := by rw [Int.tdiv_eq_ediv_of_nonneg (by omega)]; omega
  have e3 : (q : Int).tmod 26 = (b : Int) := by rw [Int.tmod_eq_emod_of_nonneg (by omega)]; omega
  have e4 : (i : Int).tdiv 676 = (c : Int) := by rw [Int.tdiv_eq_ediv_of_nonneg (by omega)]; omega
  have a1 : (a : Int) ≤ 25 := by omega
  have b1 : (b : Int) ≤ 25 := by omega
  have c1 : (c : Int) ≤ 1 := by omega
  have a0 : (0 : Int) ≤ a := by omega
  have b0 : (0 : Int) ≤ b := by omega
  have c0 : (0 : Int) ≤ c := by omega
  have q0 : (0 : Int) ≤ q := by omega
  have q1 : (q : Int) ≤ 1028 := by omega
  have HN := Lib.hid (show nmG i = [UInt8.ofNat (97 + a), UInt8.ofNat (97 + b), UInt8.ofNat (97 + c)] by rw [nmG, ha, hb, hc])
  have HU := Lib.hid (And.intro (u8_lit a (by omega)) (And.intro (u8_lit b (by omega)) (u8_lit c (by omega))))
  clear ha hb hc hq hi
  obtain ⟨g, hg⟩ : ∃ y, w.heap.size = y := ⟨_, rfl⟩
  obtain ⟨w1, hw1⟩ : ∃ y, w.alloc (.cells #[.int .u8 (97 + a), .int .u8 (97 + b), .int .u8 (97 + c)] 5) = y := ⟨_, rfl⟩
  have b01 : Below w.heap.size w w1 := by rw [← hw1]; exact (Below.refl _ _).alloc (Nat.le_refl _) _
  have m1 := (MapKept.heap_alloc w (.cells #[.int .u8 (97 + a), .int .u8 (97 + b), .int .u8 (97 + c)] 5)).1
  rw [hw1, hg] at m1
  have hrd : Rd w1 (some ⟨g, 0, none⟩) (bs (nmG i)) := by
    have h := Rd.block m1
    have e : bs (nmG i) = [.int .u8 (97 + a), .int .u8 (97 + b), .int .u8 (97 + c)] := by
      rw [HN.out]
      unfold bs
      simp only [List.map_cons, List.map_nil, b8, HU.out.1, HU.out.2.1, HU.out.2.2]
    rw [e]
    exact h
  have HR := run_conv_str (P := Tryd.prog) Tryd.underlying41 Tryd.underlying5 Tryd.underlying9 (c := 3) (show (nmG i).length = 3 by rfl) hrd
  have HB := Lib.hid b01
  clear b01 m1 hrd
  go_enter Tryd.func15, Tryd.ntmps15
  go_wp2_with fail
  go_ret
  exact ⟨rfl, HB.out⟩
end Go.Proofs.YtkfnbapnkmlopaaDoor

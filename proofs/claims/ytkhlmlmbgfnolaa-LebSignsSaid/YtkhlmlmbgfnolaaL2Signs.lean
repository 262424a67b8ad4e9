/- LebSigns' walk. -/
import Derived.Test.YtkhlmlmbgfnolaaLebE
import Derived.Deep.RegionHeld3
namespace Go.Proofs.Ytkhlmlmbgfnolaa
open Go.RowKit

theorem putInt0 (x : Int) (v d : Nat) (w : World) (h0 : -9223372036854775808 ≤ x) (h1 : x ≤ 9223372036854775807) (hv : enc x = v) (hd : (dig v).length = d) :
    Calls Try.prog 9 #[.slice none 0 0, .int .i64 x] w fun e w' => ∃ A c, e = .returned (.slice A d c) ∧ d ≤ c ∧ Rd w' A (bs (dig v)) ∧ Below w.heap.size w w' := by
  refine (putInt_n none 0 0 [] x w rfl Rd.nil h0 h1 (by omega)).mono ?_
  rintro e w' ⟨x, rfl, hown, hb⟩
  rw [hv, hd, Nat.zero_add, List.nil_append] at hown
  obtain ⟨A, c, rfl, hc, _, _, hR, _⟩ := owns_form hown
  exact ⟨A, c, rfl, hc, hR, hb⟩
theorem dig_pair (w : Nat) : ∃ (x : Nat) (r : List UInt8), x % 2 = 0 ∧ x < 255 ∧ dig (2 * w) = UInt8.ofNat x :: r ∧ dig (2 * w + 1) = UInt8.ofNat (x + 1) :: r ∧ (r.length = 0 ↔ w < 64) := by
  rcases Nat.lt_or_ge w 64 with h | h
  · exact ⟨2 * w, [], by omega, by omega, dig_lt (by omega), dig_lt (by omega), by simp [h]⟩
  · refine ⟨2 * w % 128 + 128, dig (2 * w / 128), by omega, by omega, dig_ge (by omega), ?_, ?_⟩
    · rw [dig_ge (by omega), show (2 * w + 1) / 128 = 2 * w / 128 by omega, show (2 * w + 1) % 128 + 128 = 2 * w % 128 + 128 + 1 by omega]
    · have := dig_pos (2 * w / 128)
      omega
theorem not1_u8 : ∀ x : Fin 256, bits .andNot .u8 (x.val : Int) 1 = ((x.val - x.val % 2 : Nat) : Int) := by decide +kernel
theorem not1_even (x : Nat) (h : x % 2 = 0) (hx : x < 255) : bits .andNot .u8 (x : Int) 1 = (x : Int) := by
  have := not1_u8 ⟨x, by omega⟩
  rw [h] at this
  exact this
theorem not1_odd (x : Nat) (h : x % 2 = 0) (hx : x < 255) : bits .andNot .u8 ((x + 1 : Nat) : Int) 1 = (x : Int) := by
  have := not1_u8 ⟨x + 1, by omega⟩
  rw [show (⟨x + 1, by omega⟩ : Fin 256).val = x + 1 from rfl, show (x + 1) % 2 = 1 by omega] at this
  exact this
theorem and1_u8 : ∀ x : Fin 256, bits .and .u8 (x.val : Int) 1 = ((x.val % 2 : Nat) : Int) := by decide +kernel
theorem and1_of (x y : Nat) (h : x % 2 = y) (hx : x < 256) : bits .and .u8 (x : Int) 1 = (y : Int) := by
  have := and1_u8 ⟨x, by omega⟩
  rw [h] at this
  exact this

set_option maxRecDepth 100000 in
set_option maxHeartbeats 2000000 in
theorem signs_core (v : Int) (y : Nat) (w : World) (h0 : -9223372036854775808 ≤ v) (h1 : v ≤ 9223372036854775807) (hy : y = if v < 0 then (-(v + 1)).toNat else v.toNat) :
    Calls Try.prog 5 #[.int .i64 v] w fun e w' => e = .returned (.bool true) ∧ Below w.heap.size w w' := by
  obtain ⟨x, r, hx, hxl, hd1, hd2, hr⟩ := dig_pair y
  obtain ⟨q, hq⟩ : ∃ q, r.length = q := ⟨_, rfl⟩
  have hl1 : (dig (2 * y)).length = q + 1 := by rw [hd1, List.length_cons, hq]
  have hl2 : (dig (2 * y + 1)).length = q + 1 := by rw [hd2, List.length_cons, hq]
  have hyl : y ≤ 9223372036854775807 := by split at hy <;> omega
  have hq10 : q + 1 ≤ 10 := by rw [← hl1]; exact dig_len10 (by omega)
  rw [hq] at hr
  have e1 : enc (y : Int) = 2 * y := by unfold enc; rw [if_neg (by omega)]; omega
  have e2 : enc (-(y : Int) - 1) = 2 * y + 1 := by unfold enc; rw [if_pos (by omega)]; omega
  have n1 := not1_even x hx hxl
  obtain ⟨z, hz⟩ : ∃ z, z = x + 1 := ⟨_, rfl⟩
  have n2 := not1_odd x hx hxl
  rw [← hz] at n2 hd2
  have m1 : bits .and .u8 (x : Int) 1 = 0 := and1_of x 0 hx (by omega)
  have m2 : bits .and .u8 (z : Int) 1 = 1 := and1_of z 1 (by omega) (by omega)
  have c1 : ∀ (W : World) (A : Option Addr), Rd W A (bs (dig (2 * y))) → ∃ ad, A = some ad ∧ W.cell? ad = some (.int .u8 (x : Int)) := fun W A h => by
    rw [hd1] at h
    obtain ⟨ad, e, hc⟩ := h.byte (k := 0) (by simp)
    exact ⟨ad, e, by rw [show ad.add 0 = ad by simp [Addr.add]] at hc; rw [hc]; simp; omega⟩
  have c2 : ∀ (W : World) (A : Option Addr), Rd W A (bs (dig (2 * y + 1))) → ∃ ad, A = some ad ∧ W.cell? ad = some (.int .u8 (z : Int)) := fun W A h => by
    rw [hd2] at h
    obtain ⟨ad, e, hc⟩ := h.byte (k := 0) (by simp)
    exact ⟨ad, e, by rw [show ad.add 0 = ad by simp [Addr.add]] at hc; rw [hc]; simp; omega⟩
  have C1 := Lib.hid c1
  have C2 := Lib.hid c2
  have HL1 := Lib.hid hl1
  have HL2 := Lib.hid hl2
  have E1 := Lib.hid e1
  have E2 := Lib.hid e2
  have HRQ := Lib.hid hr
  clear hz c1 c2 hl1 hl2 e1 e2 hr hd1 hd2 hq
  rcases Int.lt_or_le v 0 with h | h
  case' inl =>
    obtain rfl : v = -(y : Int) - 1 := by rw [if_pos h] at hy; omega
    clear hy
    go_enter Try.func5, Try.ntmps5
    go_wp2_with fail
  case' inr =>
    obtain rfl : v = (y : Int) := by rw [if_neg (by omega)] at hy; omega
    clear hy
    go_enter Try.func5, Try.ntmps5
    go_wp2_with fail
  all_goals
    refine (putInt0 (y : Int) (2 * y) (q + 1) w (by omega) (by omega) E1.out HL1.out).mono ?_
    rintro e w1 ⟨A1, k1, rfl, hk1, hR1, hb1⟩
    have HB1 := Lib.hid hb1
    have HR1 := Lib.hid hR1
    clear hb1 hR1
    go_wp2_with fail
    refine (putInt0 (-(y : Int) - 1) (2 * y + 1) (q + 1) w1 (by omega) (by omega) E2.out HL2.out).mono ?_
    rintro e w2 ⟨A2, k2, rfl, hk2, hR2, hb2⟩
    have HB2 := Lib.hid (HB1.out.trans (hb2.mono HB1.out.size))
    have HR1' := Lib.hid (HR1.out.below hb2)
    have HR2 := Lib.hid hR2
    clear hb2 hR2
    obtain ⟨a1, rfl, l1⟩ := C1.out w2 A1 HR1'.out
    obtain ⟨a2, rfl, l2⟩ := C2.out w2 A2 HR2.out
    have L1 := Lib.hid l1
    have L2 := Lib.hid l2
    clear l1 l2
    by_cases h64 : y < 64
    · have hq0 : q = 0 := HRQ.out.2 h64
      subst hq0
      have h64' : (y : Int) < 64 := by omega
      have l1 : w2.drew.cell? a1 = some (.int .u8 (x : Int)) := L1.out
      have l2 : w2.drew.cell? a2 = some (.int .u8 (z : Int)) := L2.out
      go_wp2_with fail
      go_region_held3 (fun W => W.cell? a1 = some (.int .u8 (x : Int)) ∧ W.cell? a2 = some (.int .u8 (z : Int)))
        (first | exact ⟨l1, l2⟩ | exact ⟨m1, m2⟩)
        (first
        | (go_at_call 6
           refine (sure_any _).mono ?_
           rintro e w3 ⟨rfl, hb3⟩
           obtain ⟨_, e1, m1⟩ := C1.out w3 (some a1) ((HR1'.out.drewN 1).below hb3)
           obtain ⟨_, e2, m2⟩ := C2.out w3 (some a2) ((HR2.out.drewN 1).below hb3)
           injection e1 with e1
           injection e2 with e2
           subst e1
           subst e2))
      all_goals
        go_wp2_with fail
        go_ret
        exact ⟨rfl, HB2.out.trans ((Below.refl _ _).drew.trans (hb3.mono HB2.out.size))⟩
    · have hq0 : ¬ q = 0 := fun h => h64 (HRQ.out.1 h)
      have h5 : ((q : Int) + 1 == 1) = false := beq_eq_false_iff_ne.2 (by omega)
      have h6 : decide ((y : Int) < 64) = false := decide_eq_false (by omega)
      have l1 : w2.drew.cell? a1 = some (.int .u8 (x : Int)) := L1.out
      have l2 : w2.drew.cell? a2 = some (.int .u8 (z : Int)) := L2.out
      go_wp2_with fail
      go_region_held3 (fun W => W.cell? a1 = some (.int .u8 (x : Int)) ∧ W.cell? a2 = some (.int .u8 (z : Int)))
        (first | exact ⟨l1, l2⟩ | exact ⟨m1, m2⟩)
        (first
        | (go_at_call 6
           refine (sure_any _).mono ?_
           rintro e w3 ⟨rfl, hb3⟩
           obtain ⟨_, e1, m1⟩ := C1.out w3 (some a1) ((HR1'.out.drewN 1).below hb3)
           obtain ⟨_, e2, m2⟩ := C2.out w3 (some a2) ((HR2.out.drewN 1).below hb3)
           injection e1 with e1
           injection e2 with e2
           subst e1
           subst e2))
      all_goals
        go_wp2_with fail
        go_ret
        exact ⟨rfl, HB2.out.trans ((Below.refl _ _).drew.trans (hb3.mono HB2.out.size))⟩
theorem signs_any (v : Int) (w : World) (hv : -9223372036854775808 ≤ v ∧ v ≤ 9223372036854775807) :
    Calls Try.prog 5 #[.int .i64 v] w fun e w' => e = .returned (.bool true) ∧ Below w.heap.size w w' :=
  signs_core v _ w hv.1 hv.2 rfl
end Go.Proofs.Ytkhlmlmbgfnolaa

/- The document's answer of layer 1: Open by contract. -/
import Derived.Test.YtbemloijgabfcaaDoorRef1B
import Derived.Deep.QuietTactic
import Derived.BigQuiet
namespace Go.Proofs.YtbemloijgabfcaaDoor
open Go.RowKit

theorem refopen_short (A : Option Addr) (n c : Nat) (w : World) (hl : n < 4) :
    Calls Tryd.prog 15 #[.slice A n c] w fun e w' => e = .returned (.tuple #[.slice none 0 0, .int .i64 4]) ∧ w = w' := by
  go_enter Tryd.func15, Tryd.ntmps15
  go_wp2_with fail
  go_ret2
  exact ⟨rfl, rfl⟩

theorem sealed_of_cut (l : List UInt8) (n : Nat) : l = sealed (l.take n) ↔ l.drop n = le4 (more 0 (l.take n)) := by
  unfold sealed
  constructor
  · intro h
    have h2 : l.take n ++ l.drop n = l.take n ++ le4 (more 0 (l.take n)) := by rw [List.take_append_drop]; exact h
    exact List.append_cancel_left h2
  · intro h
    rw [← h, List.take_append_drop]

theorem below_drewN {B : Nat} {a w : World} (h : Below B a w) (n : Nat) : Below B a (w.drewN n) := ⟨h.os, h.tape, h.output, h.size, h.block⟩
/-- What comes of Open's comparison: 6 at a byte that is another, else 0 and the bytes ahead. -/
def refopenPost (ad : Addr) (n c : Nat) (l : List UInt8) (w : World) (e : Ending) (w' : World) : Prop :=
  Below w.heap.size w w' ∧ ((l = sealed (l.take n) ∧ e = .returned (.tuple #[.slice (some ad) n c, .int .i64 0])) ∨ (l ≠ sealed (l.take n) ∧ e = .returned (.tuple #[.slice none 0 0, .int .i64 6])))

set_option maxHeartbeats 1000000 in
theorem refopen_long (ad : Addr) (n c : Nat) (l : List UInt8) (w : World) (hr : Rd w (some ad) (bs l)) (hn : l.length = n + 4) (hc : n + 4 ≤ c) (hm : n + 4 ≤ 1000000) :
    Calls Tryd.prog 15 #[.slice (some ad) (n + 4) c] w (refopenPost ad n c l w) := by
  have h1 : (l.take n).length = n := by rw [List.length_take]; omega
  have h2 : (sealed (l.take n)).length = n + 4 := by rw [seal_length]; omega
  have hr' : Rd w (some ad) (bs (l.take n)) := by rw [← bs_take]; exact hr.take
  have HR := Lib.hid hr
  have HR' := Lib.hid hr'
  have HN := Lib.hid hn
  have H1 := Lib.hid h1
  have H2 := Lib.hid h2
  have i0 : (0 : Int) ≤ (n : Int) := by omega
  have i2 : (n : Int) ≤ (c : Int) := by omega
  clear hr hn h1 h2 hr'
  go_enter Tryd.func15, Tryd.ntmps15
  go_wp2_with fail
  refine (refseal_any (some ad) n c (l.take n) w H1.out HR'.out (by omega)).mono ?_
  rintro e w1 ⟨v1, rfl, hown1, hb1⟩
  obtain ⟨Ax, cx, rfl, hcx, _, _, hRx, _⟩ := owns_form hown1
  have HX := Lib.hid hRx
  have HB := Lib.hid hb1
  have HRl := Lib.hid (HR.out.below hb1)
  clear hown1 hRx hb1
  generalize hxs : sealed (l.take n) = xs at *
  have HXS := Lib.hid hxs
  clear hxs
  go_wp2_with fail
  go_loopw [6] (fun i wr => ∃ k : Nat, n ≤ k ∧ k ≤ n + 4 ∧ i = .int .i64 k ∧ xs.take k = l.take k ∧ Rd wr Ax (bs xs) ∧ Rd wr (some ad) (bs l) ∧ Below w.heap.size w wr) (fun i _ => n + 4 - (intOf i).toNat)
  case atStart =>
    refine ⟨n, Nat.le_refl _, by omega, rfl, ?_, HX.out, HRl.out, HB.out⟩
    rw [← HXS.out, sealed, List.take_append_of_le_length (by rw [H1.out]; exact Nat.le_refl _), List.take_take, Nat.min_self]
  case round =>
    obtain ⟨k, hk1, hk2, rfl, hEq, hX, hL, hBw⟩ := hrel
    have HEQ := Lib.hid hEq
    clear HX HRl HB
    have HX := Lib.hid hX
    have HRl := Lib.hid hL
    have HB := Lib.hid hBw
    clear hEq hX hL hBw
    by_cases hk4 : k < n + 4
    · obtain ⟨ax, rfl, cx1⟩ := HX.out.byte (k := k) (by rw [H2.out]; exact hk4)
      obtain ⟨al, eal, cl1⟩ := HRl.out.byte (k := k) (by rw [HN.out]; exact hk4)
      injection eal with eal
      subst eal
      have hkx : k < xs.length := by rw [H2.out]; exact hk4
      have hkl : k < l.length := by rw [HN.out]; exact hk4
      by_cases hb : xs[k] = l[k]
      · have hnext : xs.take (k + 1) = l.take (k + 1) := by
          rw [List.take_succ_eq_append_getElem hkx, List.take_succ_eq_append_getElem hkl, HEQ.out, hb]
        have HNX := Lib.hid hnext
        rw [hb] at cx1
        have hq : ((l[k].toNat : Int) != (l[k].toNat : Int)) = false := by simp
        clear hnext hb
        generalize l[k].toNat = y at *
        go_wp2_with fail
        go_quiet (fail)
        go_wp2_with fail
        go_roundw
        case rel => exact ⟨k + 1, by omega, by omega, by go_num, HNX.out, HX.out.drewN _, HRl.out.drewN _, below_drewN HB.out _⟩
        case measure => simp [intOf]; omega
      · have hq : ((xs[k].toNat : Int) != (l[k].toNat : Int)) = true := by
          rw [bne_iff_ne]
          intro h
          exact hb (UInt8.toNat_inj.1 (by omega))
        have HNE : Hid (l ≠ sealed (l.take n)) := by
          intro h
          rw [HXS.out] at h
          apply hb
          congr 1
          exact h.symm
        clear hb
        generalize xs[k].toNat = y at *
        generalize l[k].toNat = z at *
        go_wp2_with fail
        go_quiet (fail)
        go_wp2_with fail
        go_ret2
        exact ⟨below_drewN HB.out _, .inr ⟨HNE.out, rfl⟩⟩
    · obtain rfl : k = n + 4 := by omega
      have HE : Hid (l = sealed (l.take n)) := by
        have h := HEQ.out
        rw [← HN.out, List.take_length, HN.out, ← H2.out, List.take_length] at h
        unfold Hid
        rw [HXS.out]
        exact h.symm
      go_wp2_with fail
      go_ret2
      exact ⟨HB.out, .inl ⟨HE.out, rfl⟩⟩
end Go.Proofs.YtbemloijgabfcaaDoor

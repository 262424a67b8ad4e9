/- Law QueueRoom, walked. -/
import Derived.Test.YtkihfafkglkjnaaDoorQuNu
import Derived.Test.YtkihfafkglkjnaaDoorQuLw
import Derived.Test.YtkihfafkglkjnaaDoorQuRm
namespace Go.Proofs.YtkihfafkglkjnaaDoor
open Go.RowKit

theorem u64_ge15 (k : Int) : 0 ≤ IntKind.u64.wrap k := by
  simp only [IntKind.wrap, IntKind.bits, IntKind.signed]
  simp
  omega
theorem mod_u15 (n : Int) (d : Nat) (hd : 0 < d) : ∃ r : Nat, r < d ∧ (IntKind.u64.wrap n).tmod (d : Int) = (r : Int) := by
  have h := u64_ge15 n
  have h1 := Int.emod_nonneg (IntKind.u64.wrap n) (show (d : Int) ≠ 0 by omega)
  have h2 := Int.emod_lt_of_pos (IntKind.u64.wrap n) (show (0 : Int) < d by omega)
  exact ⟨(IntKind.u64.wrap n % d).toNat, by omega, by rw [Int.tmod_eq_emod_of_nonneg h]; omega⟩
variable {Is : World → Value → (Nat → Prop) → Int → List Ev → Prop}
theorem PgP.setK (hP : PgP Is) {n : Int} {L M : List Ev} {a b c : Int} {k : Nat} (h : stE L n (a, b, c) = (M, k)) (hb : In64 b) (hc : In64 c) (v : Value) (F : Nat → Prop) (w : World) (hI : Is w v F n L) :
    Calls Tryd.prog 9 #[v, .agg #[.int .i64 a, .int .i64 b, .int .i64 c]] w fun x w' => x = .returned (errE k) ∧ ∃ F', Is w' v F' n M ∧ TuF F F' w w' := by
  have h1 := hP.set v F n L (a, b, c) w hb hc hI
  rw [h] at h1
  exact h1
set_option maxRecDepth 100000 in
set_option maxHeartbeats 4000000 in
theorem room_walk (hP : PgQ Is) (n a : Int) (w : World) (hE : ErrT w) (_ : -9223372036854775808 ≤ n ∧ n ≤ 9223372036854775807) (_ : -9223372036854775808 ≤ a ∧ a ≤ 9223372036854775807) :
    Calls Tryd.prog 5 #[.int .i64 n, .int .i64 a] w fun e w' => e = .returned (.bool true) ∧ Below w.heap.size w w' := by
  obtain ⟨r, hr, t1'⟩ := mod_u15 n 60 (by omega)
  have t1 : (IntKind.u64.wrap n).tmod 60 = (r : Int) := t1'
  obtain ⟨t, ht, t2'⟩ := mod_u15 a 100000 (by omega)
  have t2 : (IntKind.u64.wrap a).tmod 100000 = (t : Int) := t2'
  clear t1' t2'
  obtain ⟨m, hm⟩ : ∃ m : Nat, (1 : Int) + r = m := ⟨1 + r, by omega⟩
  have hk : (m : Int) - 1 = r := by omega
  have m1 : (1 : Int) ≤ m := by omega
  have m2 : (m : Int) ≤ 60 := by omega
  have r0 : (0 : Int) ≤ r := by omega
  have t0 : (0 : Int) ≤ t := by omega
  have tb : (t : Int) < 100000 := by omega
  have rb : (r : Int) < 60 := by omega
  have HP := Lib.hid hP
  have HN := Lib.hid (fun W => hP.new m W m1 (by omega))
  have HNu := Lib.hid (fun W (hb : Below w.heap.size w W) => num15_any 10 W (hE.below hb))
  have HSu := Lib.hid (fun W => sure15_any hP.toPgP W)
  have HW := Lib.hid (show r < m by omega)
  clear hP hE
  go_enter Tryd.func5, Tryd.ntmps5
  go_wp2_with fail
  with_reducible refine (HN.out _).mono ?_
  rintro x w1 ⟨v, F, rfl, hI, hF, hb⟩
  obtain ⟨b, rfl⟩ := HP.out.ptr hI
  have H1 := Lib.hid (And.intro hI (And.intro hF hb))
  clear hI hF hb
  go_wp2_with fail
  go_loopw [9] (fun iv wr => ∃ (i : Nat) (F : Nat → Prop) (L : List Ev), iv = .int .i64 i ∧ i ≤ m ∧ RmI i L ∧ Is wr (.pointer (some ⟨b, 0, none⟩)) F m L ∧ (∀ k, F k → w.heap.size ≤ k) ∧ Below w.heap.size w wr) (fun iv _ => m - (intOf iv).toNat)
  case atStart => exact ⟨0, F, [], rfl, Nat.zero_le _, RmI.zero, H1.out⟩
  case round =>
    obtain ⟨i, G, L, rfl, hi, hR, hI, hF, hb⟩ := hrel
    have HI := Lib.hid (And.intro hR (And.intro hI (And.intro hF hb)))
    clear hR hI hF hb
    by_cases him : i < m
    · have q0 : (0 : Int) ≤ i := by omega
      have q1 : (i : Int) < m := by omega
      obtain ⟨c, hc, hc2⟩ : ∃ c : Nat, c < 101 ∧ ((i : Int) * 7919).tmod 101 = c := by
        refine ⟨i * 7919 % 101, Nat.mod_lt _ (by decide), ?_⟩
        rw [Int.tmod_eq_emod_of_nonneg (by omega)]
        omega
      obtain ⟨y, hy⟩ : ∃ y : Nat, (t : Int) + c = y := ⟨t + c, by omega⟩
      have c0 : (0 : Int) ≤ c := by omega
      have c1 : (c : Int) < 101 := by omega
      have hsucc := HI.out.1.succ (m := m) him (a := y) (by omega) (by omega)
      have HSt := Lib.hid (HP.out.setK hsucc.1 (by decide) ⟨by omega, by omega⟩)
      have HR := Lib.hid hsucc.2
      clear hsucc
      rw [errE_zero] at HSt
      go_wp2_with fail
      with_reducible refine (HSt.out _ _ _ HI.out.2.1).mono ?_
      rintro x w2 ⟨rfl, F2, hI2, ht2⟩
      have H2 := Lib.hid (And.intro hI2 (And.intro (ht2.low HI.out.2.2.2.size HI.out.2.2.1) (ht2.below HI.out.2.2.2 HI.out.2.2.2.size HI.out.2.2.1)))
      clear hI2 ht2
      go_wp2_with fail
      exact ⟨⟨i + 1, F2, _, by go_num, him, HR.out, H2.out.1, H2.out.2.1, H2.out.2.2⟩, by simp [intOf]; omega⟩
    · obtain rfl : i = m := by omega
      have q1 : ¬ (i : Int) < i := by omega
      obtain ⟨z, hz⟩ : ∃ y : Nat, (t : Int) + 200 = y := ⟨t + 200, by omega⟩
      have z0 : (0 : Int) ≤ z := by omega
      have z1 : (z : Int) ≤ 4611686018427387904 := by omega
      have HF0 := Lib.hid (HP.out.setK HI.out.1.full (by decide) ⟨by omega, by omega⟩)
      obtain ⟨M, hM1, hM2, hM3, hM4, N, hN1, hN2⟩ := HI.out.1.put HW.out z0 z1
      obtain ⟨K, hK⟩ := hN2 t t0 (by omega)
      have HF1 := Lib.hid (HP.out.setK hM1 (by decide) ⟨by omega, by omega⟩)
      have HF2 := Lib.hid (HP.out.setK hK (by decide) ⟨by omega, by omega⟩)
      have HFd := Lib.hid (fun v G W (h : Is W v G i M) => HP.out.find v G i M 0 r W (by decide) ⟨by omega, by omega⟩ h)
      have HDr := Lib.hid (fun v G W (h : Is W v G i M) => HP.out.drop v G i M 0 r W (by decide) ⟨by omega, by omega⟩ h)
      have HLn := Lib.hid (fun v G W (h : Is W v G i M) => HP.out.leng v G i M W h)
      rw [hN1] at HDr
      rw [hM2] at HLn
      rw [decide_eq_true hM3] at HFd
      rw [errE_zero] at HF1 HF2
      obtain ⟨j, hj⟩ : ∃ j : Nat, fdE 0 r M 0 = j := ⟨(fdE 0 r M 0).toNat, by omega⟩
      obtain ⟨ej, hej⟩ : ∃ e, M[j]? = some e := ⟨_, List.getElem?_eq_getElem (fdE_lt hj)⟩
      have HAt := Lib.hid (And.intro hj (And.intro hej (hM4 j ej hj hej)))
      have HN10 := Lib.hid (errE_pos (k := 10) (by decide))
      clear hM1 hM2 hM3 hM4 hN1 hN2 hK hj hej
      go_wp2_with fail
      with_reducible refine (HF0.out _ _ _ HI.out.2.1).mono ?_
      rintro x w2 ⟨rfl, F2, hI2, ht2⟩
      have H2 := Lib.hid (And.intro hI2 (And.intro (ht2.low HI.out.2.2.2.size HI.out.2.2.1) (ht2.below HI.out.2.2.2 HI.out.2.2.2.size HI.out.2.2.1)))
      clear hI2 ht2
      go_wp2_with fail
      with_reducible refine (HNu.out _ H2.out.2.2).mono ?_
      rintro x w3 ⟨rfl, hb3⟩
      have H3 := Lib.hid (And.intro (HP.out.below H2.out.1 hb3) (And.intro H2.out.2.1 (H2.out.2.2.trans (hb3.mono H2.out.2.2.size))))
      clear hb3
      go_wp2_with fail
      with_reducible refine (HF1.out _ _ _ H3.out.1).mono ?_
      rintro x w4 ⟨rfl, F4, hI4, ht4⟩
      have H4 := Lib.hid (And.intro hI4 (And.intro (ht4.low H3.out.2.2.size H3.out.2.1) (ht4.below H3.out.2.2 H3.out.2.2.size H3.out.2.1)))
      clear hI4 ht4
      go_wp2_with fail
      with_reducible refine (HLn.out _ _ _ H4.out.1).mono ?_
      rintro x w5 ⟨rfl, hb5⟩
      have H5 := Lib.hid (And.intro (HP.out.below H4.out.1 hb5) (And.intro H4.out.2.1 (H4.out.2.2.trans (hb5.mono H4.out.2.2.size))))
      clear hb5
      go_wp2_with fail
      with_reducible refine (HFd.out _ _ _ H5.out.1).mono ?_
      rintro x w6 ⟨g, rfl, hg, hb6⟩
      have hge : g = z := (hg j ej HAt.out.1 HAt.out.2.1).trans HAt.out.2.2
      subst hge
      have H6 := Lib.hid (And.intro (HP.out.below H5.out.1 hb6) (And.intro H5.out.2.1 (H5.out.2.2.trans (hb6.mono H5.out.2.2.size))))
      clear hb6 hg
      go_wp2_with fail
      with_reducible refine (HDr.out _ _ _ H6.out.1).mono ?_
      rintro x w7 ⟨rfl, F7, hI7, ht7⟩
      have H7 := Lib.hid (And.intro hI7 (And.intro (ht7.low H6.out.2.2.size H6.out.2.1) (ht7.below H6.out.2.2 H6.out.2.2.size H6.out.2.1)))
      clear hI7 ht7
      go_wp2_with fail
      with_reducible refine (HF2.out _ _ _ H7.out.1).mono ?_
      rintro x w8 ⟨rfl, F8, hI8, ht8⟩
      have H8 := Lib.hid (And.intro hI8 (And.intro (ht8.low H7.out.2.2.size H7.out.2.1) (ht8.below H7.out.2.2 H7.out.2.2.size H7.out.2.1)))
      clear hI8 ht8
      go_wp2_with fail
      with_reducible refine (HSu.out _).mono ?_
      rintro x w9 ⟨rfl, hb9⟩
      have H9 := Lib.hid (H8.out.2.2.trans (hb9.mono H8.out.2.2.size))
      clear hb9
      go_wp2_with fail
      go_ret
      exact ⟨rfl, H9.out⟩
end Go.Proofs.YtkihfafkglkjnaaDoor

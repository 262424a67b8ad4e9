/- The reference's lists (layer 3): Named, Find. -/
import Derived.Test.YtljagggankmnkaaDoorL3Num
import Derived.Deep.QuietTactic
import Derived.BigQuiet
namespace Go.Proofs.YtljagggankmnkaaDoor
open Go.RowKit Go.Maps

def alpha : Bs := [97, 98, 99, 100, 101, 102, 103, 104, 105, 106, 107, 108, 109, 110, 111, 112, 113, 114, 115, 116, 117, 118, 119, 120, 121, 122, 48, 49, 50, 51, 52, 53, 54, 55, 56, 57, 46, 45]
def anyTo (b : UInt8) (k : Nat) : Bool := (alpha.take k).any (· == b)
theorem anyTo_all (b : UInt8) : anyTo b 38 = okB b := by
  have h : ∀ n, n < 256 → anyTo (UInt8.ofNat n) 38 = okB (UInt8.ofNat n) := by decide +kernel
  have := h b.toNat b.toNat_lt
  rwa [UInt8.ofNat_toNat] at this
theorem anyTo_succ (b : UInt8) (k : Nat) (h : k < alpha.length) : anyTo b (k + 1) = (anyTo b k || alpha[k] == b) := by
  rw [anyTo, List.take_succ_eq_append_getElem h, List.any_append]
  simp [anyTo]
theorem eq_bytes (x y : UInt8) : ((x.toNat : Int) == (y.toNat : Int)) = (y == x) := by
  rw [Bool.eq_iff_iff]
  simp only [beq_iff_eq, Int.natCast_inj, UInt8.toNat_inj]
  exact eq_comm
theorem any_step {l : Bs} {s : ByteArray} (hs : str l = s) {i k : Nat} (hi : i < s.size) (hk : k < 38) (hl : i < l.length) {b : UInt8} (hb : l[i] = b) (h0 : anyTo b k = false) :
    (((s[i]'hi).toNat : Int) == (((str alpha)[k]'hk).toNat : Int)) = anyTo b (k + 1) := by
  subst hs
  rw [eq_bytes, anyTo_succ b k hk, h0, Bool.false_or]
  subst hb
  rfl
set_option maxHeartbeats 2000000 in
set_option maxRecDepth 100000 in
theorem named3_is (l : Bs) (hl : l.length ≤ maxLen) (w : World) : Calls Tryd.prog 13 #[.string (str l)] w fun e w' => e = .returned (.bool (named l)) ∧ Below w.heap.size w w' := by
  obtain ⟨n, hn⟩ : ∃ n, l.length = n := ⟨_, rfl⟩
  have hs : (str l).size = n := hn
  have hm : (n : Int) ≤ 9223372036854775807 := by rw [hn] at hl; unfold maxLen at hl; omega
  obtain ⟨s, hsl⟩ : ∃ s, str l = s := ⟨_, rfl⟩
  have HS := Lib.hid (And.intro hn (And.intro hs hsl))
  rw [hsl] at hs ⊢
  clear hsl hl hn
  go_enter Tryd.func13, Tryd.ntmps13
  go_wp2_with fail
  go_loopw [3] (fun v w' => ∃ i : Nat, v = .int .i64 i ∧ i ≤ n ∧ Below w.heap.size w w' ∧ okTo l i) (fun v _ => n - (intOf v).toNat)
  case atStart => exact ⟨0, rfl, Nat.zero_le _, Below.refl _ _, fun j _ hj => absurd hj (by omega)⟩
  case round =>
    obtain ⟨i, rfl, hi, hb, hk⟩ := hrel
    have HK := Lib.hid (And.intro hb hk)
    clear hb hk
    rcases Nat.lt_or_ge i n with hlt | hge
    · have q0 : (0 : Int) ≤ i := by omega
      have q1 : (i : Int) < n := by omega
      have hil : i < l.length := by rw [HS.out.1]; exact hlt
      obtain ⟨b, hbb⟩ : ∃ b, l[i] = b := ⟨_, rfl⟩
      go_wp2_with fail
      go_loopw [4, 5] (fun o v w' => ∃ k : Nat, v = .int .i64 k ∧ o = .bool (anyTo b k) ∧ k ≤ 38 ∧ Below w.heap.size w w') (fun _ v _ => 38 - (intOf v).toNat)
      case atStart => exact ⟨0, rfl, rfl, Nat.zero_le _, HK.out.1⟩
      case round =>
        obtain ⟨k, rfl, rfl, hk, hb⟩ := hrel
        rcases Nat.lt_or_ge k 38 with hkl | hkg
        · have q2 : (0 : Int) ≤ k := by omega
          have q3 : (k : Int) < 38 := by omega
          cases hany : anyTo b k
          · go_wp2_with fail
            go_quiet (fail)
            go_wp2_with fail
            refine ⟨⟨k + 1, by go_num, ?_, hkl, ⟨hb.os, hb.tape, hb.output, hb.size, hb.block⟩⟩, by simp [intOf]; omega⟩
            have h := any_step HS.out.2.2 (by rw [hs]; exact hlt) hkl hil hbb hany
            exact congrArg Value.bool h
          · go_wp2_with fail
            go_quiet (fail)
            go_wp2_with fail
            refine ⟨⟨k + 1, by go_num, ?_, hkl, ⟨hb.os, hb.tape, hb.output, hb.size, hb.block⟩⟩, by simp [intOf]; omega⟩
            rw [anyTo_succ b k hkl, hany, Bool.true_or]
        · obtain rfl : k = 38 := by omega
          rw [anyTo_all]
          cases hok : okB b
          · go_wp2_with fail
            go_ret
            have hall : l.all okB = false := not_all hil (by rw [hbb]; exact hok)
            exact ⟨by simp [named, hall], hb⟩
          · go_wp2_with fail
            refine ⟨⟨i + 1, by go_num, hlt, hb, fun j hj hji => ?_⟩, by simp [intOf]; omega⟩
            by_cases hje : j = i
            · subst hje
              rw [hbb]
              exact hok
            · exact HK.out.2 j hj (by omega)
    · have q1 : ¬ ((i : Int) < n) := by omega
      obtain rfl : i = n := by omega
      have hall : l.all okB = true := okTo_all (by rw [HS.out.1]; exact HK.out.2)
      have hnm : named l = (decide (0 < i) && decide (i < 33)) := by
        rw [named, hall, HS.out.1, Bool.and_true]
        congr 1
        have := HS.out.1
        cases l with
        | nil => simp at this; subst this; rfl
        | cons x r => simp at this; simp; omega
      have HNM := Lib.hid hnm
      clear hall hnm
      rcases (show i = 0 ∨ (0 < i ∧ i < 33) ∨ 33 ≤ i by omega) with h | h | h
      case' inr.inl =>
        subst h
        have HE := HNM
      case' inr.inr.inl =>
        have r1 : (0 : Int) < i := by omega
        have r2 : (i : Int) < 33 := by omega
        have e1 : (decide (0 < i) && decide (i < 33)) = true := by simp [h]
        have HE := Lib.hid (HNM.out.trans e1)
        clear e1
      case' inr.inr.inr =>
        have r1 : (0 : Int) < i := by omega
        have r2 : ¬ ((i : Int) < 33) := by omega
        have e1 : (decide (0 < i) && decide (i < 33)) = false := by simp; omega
        have HE := Lib.hid (HNM.out.trans e1)
        clear e1
      all_goals
        go_wp2_with fail
        go_ret
        exact ⟨by rw [HE.out]; rfl, HK.out.1⟩
end Go.Proofs.YtljagggankmnkaaDoor

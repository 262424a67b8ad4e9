/- Contracts: the document's words and names, its way to find a field. -/
import Derived.Test.YtbeehedppofpnaaGreatDoorBkA
import Derived.Test.YtbeehedppofpnaaGreatDoorBkMem
namespace Go.Proofs.YtbeehedppofpnaaGreatDoor
open Go.RowKit

def wordL : Tx := [97, 98, 99, 100, 101, 102, 103, 104, 105, 106, 107, 108, 109, 110, 111, 112, 113, 114, 115, 116, 117, 118, 119, 120, 121, 122, 48, 49, 50, 51, 52, 53, 54, 55, 56, 57, 95]
def nameL : Tx := [97, 98, 99, 100, 101, 102, 103, 104, 105, 106, 107, 108, 109, 110, 111, 112, 113, 114, 115, 116, 117, 118, 119, 120, 121, 122, 65, 66, 67, 68, 69, 70, 71, 72, 73, 74, 75, 76, 77, 78, 79, 80, 81, 82, 83, 84, 85, 86, 87, 88, 89, 90, 48, 49, 50, 51, 52, 53, 54, 55, 56, 57, 95, 45, 46]
theorem wordL_any (c : UInt8) : wordL.any (· == c) = wdB c := by
  have : ∀ c : Fin 256, wordL.any (· == UInt8.ofNat c) = wdB (UInt8.ofNat c) := by decide +kernel
  have hc : UInt8.ofNat c.toNat = c := by simp
  have := this ⟨c.toNat, UInt8.toNat_lt c⟩
  rw [hc] at this
  exact this
theorem nameL_any (c : UInt8) : nameL.any (· == c) = nmB c := by
  have : ∀ c : Fin 256, nameL.any (· == UInt8.ofNat c) = nmB (UInt8.ofNat c) := by decide +kernel
  have hc : UInt8.ofNat c.toNat = c := by simp
  have := this ⟨c.toNat, UInt8.toNat_lt c⟩
  rw [hc] at this
  exact this
theorem any_step {p : UInt8 → Bool} {l : Tx} {k : Nat} {x : UInt8} {r : Tx} (hd : l.drop k = x :: r) : (l.take (k + 1)).any p = ((l.take k).any p || p x) := by
  have hk : k < l.length := by
    rcases Nat.lt_or_ge k l.length with h | h
    · exact h
    · rw [List.drop_eq_nil_of_le h] at hd
      cases hd
  rw [List.drop_eq_getElem_cons hk] at hd
  injection hd with hd _
  rw [List.take_succ_eq_append_getElem hk, List.any_append, hd]
  simp
theorem u8_eqb (x y : UInt8) : (((x.toNat : Int)) == (y.toNat : Int)) = (x == y) := by
  rw [Bool.eq_iff_iff]
  simp only [beq_iff_eq]
  exact ⟨fun e => UInt8.toNat_inj.1 (by omega), fun e => by rw [e]⟩
set_option maxHeartbeats 2000000 in
set_option maxRecDepth 100000 in
theorem among_any (l m : Tx) (w : World) (hl : l.length ≤ 100000) (hm : m.length ≤ 1000) : Calls Tryz.prog 37 #[.string (str l), .string (str m)] w fun e w' => e = .returned (.bool (madeT (fun c => m.any (· == c)) l)) ∧ Below w.heap.size w w' := by
  obtain ⟨n, hn⟩ : ∃ n, l.length = n := ⟨_, rfl⟩
  obtain ⟨q, hq⟩ : ∃ q, m.length = q := ⟨_, rfl⟩
  rw [hn] at hl
  rw [hq] at hm
  have hs : (str l).size = n := hn
  have hs2 : (str m).size = q := hq
  have HN := Lib.hid (And.intro hn hq)
  obtain ⟨S, hS⟩ : ∃ S, str l = S := ⟨_, rfl⟩
  obtain ⟨M, hM⟩ : ∃ M, str m = M := ⟨_, rfl⟩
  have HS := Lib.hid (And.intro hS hM)
  rw [hS] at hs ⊢
  rw [hM] at hs2 ⊢
  have HD : Hid (madeT (fun c => m.any (· == c)) l = (l.all (fun c => m.any (· == c)) && (decide (0 < n) && decide (n < 33)))) := by
    unfold Hid madeT
    rw [hn, Bool.and_assoc]
  clear hS hM hn hq
  go_enter Tryz.func37, Tryz.ntmps37
  go_wp2_with fail
  go_loopw [5] (fun i wr => ∃ k : Nat, i = .int .i64 k ∧ k ≤ n ∧ Below w.heap.size w wr ∧ (l.take k).all (fun c => m.any (· == c)) = true) (fun i _ => n - (intOf i).toNat)
  case atStart => exact ⟨0, rfl, Nat.zero_le _, Below.refl _ _, rfl⟩
  case round =>
    obtain ⟨k, rfl, hk, hb, hall⟩ := hrel
    have HA := Lib.hid (And.intro hb hall)
    clear hb hall
    rcases Nat.lt_or_ge k n with hlt | hge
    · obtain ⟨x, r, e1, e2, S', e3, hs', hx, hc⟩ := at_facts l n k HN.out.1 hlt
      obtain rfl : S' = S := e3.symm.trans HS.out.1
      have q0 : (0 : Int) ≤ k := by omega
      have q1 : (k : Int) < n := by omega
      have hD := Lib.hid e1
      clear e1 e2 e3 hc
      go_wp2_with fail
      go_loopw [6, 7] (fun ok j w2 => ∃ a : Nat, j = .int .i64 a ∧ a ≤ q ∧ Below wr.heap.size wr w2 ∧ ok = .bool ((m.take a).any (· == x))) (fun _ j _ => q - (intOf j).toNat)
      case atStart => exact ⟨0, rfl, Nat.zero_le _, Below.refl _ _, rfl⟩
      case round =>
        obtain ⟨a, rfl, ha, hb2, rfl⟩ := hrel
        have HB := Lib.hid hb2
        clear hb2
        rcases Nat.lt_or_ge a q with hla | hga
        · obtain ⟨y, r2, f1, f2, M', f3, hm', hy, hc2⟩ := at_facts m q a HN.out.2 hla
          obtain rfl : M' = M := f3.symm.trans HS.out.2
          have g0 : (0 : Int) ≤ a := by omega
          have g1 : (a : Int) < q := by omega
          have hstep := any_step (p := (· == x)) f1
          have hE := u8_eqb y x
          have HSt := Lib.hid hstep
          clear f1 f2 f3 hc2 hstep
          cases hB : (m.take a).any (· == x)
          · have HBo := Lib.hid hB
            clear hB
            cases hyx : (y == x)
            · rw [hyx] at hE
              have hE' : ¬ ((y.toNat : Int) = (x.toNat : Int)) := by simpa using hE
              have HYX := Lib.hid hyx
              clear hyx
              go_wp2_with fail
              go_quiet (fail)
              go_wp2_with fail
              exact ⟨⟨a + 1, by go_num, hla, HB.out.trans (below_dr _ _), congrArg Value.bool (by rw [HSt.out, HBo.out, HYX.out]; rfl)⟩, by simp [intOf]; omega⟩
            · rw [hyx] at hE
              have hE' : ((y.toNat : Int) = (x.toNat : Int)) := by simpa using hE
              have HYX := Lib.hid hyx
              clear hyx
              go_wp2_with fail
              go_quiet (fail)
              go_wp2_with fail
              exact ⟨⟨a + 1, by go_num, hla, HB.out.trans (below_dr _ _), congrArg Value.bool (by rw [HSt.out, HBo.out, HYX.out]; rfl)⟩, by simp [intOf]; omega⟩
          · have HBo := Lib.hid hB
            clear hB hE
            go_wp2_with fail
            go_quiet (fail)
            go_wp2_with fail
            exact ⟨⟨a + 1, by go_num, hla, HB.out.trans (below_dr _ _), congrArg Value.bool (by rw [HSt.out, HBo.out]; rfl)⟩, by simp [intOf]; omega⟩
        · obtain rfl : a = q := by omega
          have g1 : ¬ ((a : Int) < a) := by omega
          have htk : m.take a = m := List.take_of_length_le (by rw [HN.out.2]; exact Nat.le_refl _)
          rw [htk]
          cases hB : m.any (· == x)
          · have HBo := Lib.hid hB
            clear hB htk
            go_wp2_with fail
            go_ret
            have hst : l.all (fun c => m.any (· == c)) = false := all_stop (p := fun c => m.any (· == c)) hD.out HBo.out
            exact ⟨ret_bool8 (by rw [HD.out, hst]; rfl), HA.out.1.trans (HB.out.mono HA.out.1.size)⟩
          · have HBo := Lib.hid hB
            clear hB htk
            go_wp2_with fail
            exact ⟨⟨k + 1, by go_num, hlt, HA.out.1.trans (HB.out.mono HA.out.1.size), by rw [all_upto (p := fun c => m.any (· == c)) hD.out, HA.out.2, HBo.out]; rfl⟩, by simp [intOf]; omega⟩
    · obtain rfl : k = n := by omega
      have q1 : ¬ ((k : Int) < k) := by omega
      have h2 := HA.out.2
      rw [List.take_of_length_le (by rw [HN.out.1]; exact Nat.le_refl _)] at h2
      have HDD : Hid (madeT (fun c => m.any (· == c)) l = (decide (0 < k) && decide (k < 33))) := by
        unfold Hid
        rw [HD.out, h2]
        rfl
      clear h2
      by_cases h0 : 0 < k
      · have d0 : decide (0 < k) = true := decide_eq_true h0
        by_cases h33 : k < 33
        · have d1 : decide ((k : Int) < 33) = true := decide_eq_true (by omega)
          have d2 : (k : Int) < 33 := by omega
          go_wp2_with fail
          go_ret
          exact ⟨ret_bool8 (by rw [HDD.out, decide_eq_true h0, decide_eq_true h33]; rfl), HA.out.1⟩
        · have d1 : decide ((k : Int) < 33) = false := decide_eq_false (by omega)
          have d2 : ¬ (k : Int) < 33 := by omega
          go_wp2_with fail
          go_ret
          exact ⟨ret_bool8 (by rw [HDD.out, decide_eq_true h0, decide_eq_false h33]; rfl), HA.out.1⟩
      · obtain rfl : k = 0 := by omega
        go_wp2_with fail
        go_ret
        exact ⟨ret_bool8 (by rw [HDD.out]; rfl), HA.out.1⟩
set_option maxRecDepth 100000 in
theorem refWord_any (l : Tx) (w : World) (hl : l.length ≤ 100000) : Calls Tryz.prog 21 #[.string (str l)] w fun e w' => e = .returned (.bool (wordT l)) ∧ Below w.heap.size w w' := by
  have e : madeT (fun c => wordL.any (· == c)) l = wordT l := by
    unfold madeT wordT
    congr 3
    funext c
    exact wordL_any c
  have HM : Hid (∀ (W : World) (m : ByteArray), m = str wordL → Calls Tryz.prog 37 #[.string (str l), .string m] W fun e w' => e = .returned (.bool (wordT l)) ∧ Below W.heap.size W w') := by
    rintro W m rfl
    rw [← e]
    exact among_any l wordL W hl (by decide)
  generalize wordT l = B at *
  generalize str l = S at *
  clear e hl
  go_enter Tryz.func21, Tryz.ntmps21
  go_wp2_with fail
  refine (HM.out _ _ rfl).mono ?_
  rintro e w' ⟨rfl, hb⟩
  have HB := Lib.hid hb
  clear hb
  go_wp2_with fail
  go_ret
  exact ⟨rfl, HB.out⟩
/-- Where a name stands first; -1: nowhere. -/
def fndN (k : Tx) : List MF → Nat → Int
  | [], _ => -1
  | f :: r, i => if f.2.1 = k then i else fndN k r (i + 1)
set_option maxHeartbeats 1000000 in
set_option maxRecDepth 100000 in
theorem refFind_any (at_ : Int) (kd : ByteArray) (v : Value) (L : List MF) (k : Tx) (w : World) (hl : L.length ≤ 1000000) (hv : RowF w v L) :
    Calls Tryz.prog 24 #[.agg #[.int .i64 at_, .string kd, v], .string (str k)] w fun e w' => e = .returned (.int .i64 (fndN k L 0)) ∧ Below w.heap.size w w' := by
  obtain ⟨A, c, rfl, hr⟩ := hv.form
  have hc1 := hr.parts.2.1
  have hc2 := hr.parts.2.2.1
  obtain ⟨n, hn⟩ : ∃ n, L.length = n := ⟨_, rfl⟩
  rw [hn] at hr hl hc1 ⊢
  have hbox := (Below.refl w.heap.size w).alloc (Nat.le_refl _) (.cells #[.int .i64 at_, .string kd, .slice A n c] 69)
  have hbl := (MapKept.heap_alloc w (.cells #[.int .i64 at_, .string kd, .slice A n c] 69)).1
  have HR := Lib.hid (And.intro (hr.below hbox) (And.intro hbl hbox))
  obtain ⟨R, hR⟩ : ∃ R, fndN k L 0 = R := ⟨_, rfl⟩
  rw [hR]
  have HK := Lib.hid (And.intro hR hn)
  obtain ⟨S, hS⟩ : ∃ S, str k = S := ⟨_, rfl⟩
  have HS := Lib.hid hS
  rw [hS]
  obtain ⟨w0, hw0⟩ : ∃ x, w.alloc (.cells #[.int .i64 at_, .string kd, .slice A n c] 69) = x := ⟨_, rfl⟩
  rw [hw0] at HR
  clear hr hbox hbl hR hn hS hv
  go_enter Tryz.func24, Tryz.ntmps24
  go_wp2_with fail
  go_loopw [5] (fun i wr => ∃ a : Nat, i = .int .i64 a ∧ a ≤ n ∧ Below w0.heap.size w0 wr ∧ fndN k (L.drop a) a = R) (fun i _ => n - (intOf i).toNat)
  case atStart => exact ⟨0, rfl, Nat.zero_le _, Below.refl _ _, HK.out.1⟩
  case round =>
    obtain ⟨a, rfl, ha, hb, hd⟩ := hrel
    have hbl := (hb.block _ (blk9_lt HR.out.2.1)).trans HR.out.2.1
    have c2 := cell9_blk hbl 2 (v := .slice A n c) rfl
    rcases Nat.lt_or_ge a n with hlt | hge
    · have hal : a < L.length := by rw [HK.out.2]; exact hlt
      have hp := (HR.out.1.below hb).parts.2.2.2
      obtain ⟨ad, X, rfl, hX, k0, k1, k2⟩ := hp a hlt L[a] (List.getElem?_eq_getElem hal)
      rw [List.drop_eq_getElem_cons hal, fndN] at hd
      obtain ⟨f, hf⟩ : ∃ f, L[a] = f := ⟨_, rfl⟩
      rw [hf] at k1 hd
      have q0 : (0 : Int) ≤ a := by omega
      have q1 : (a : Int) < n := by omega
      have hE : ((str f.2.1).toList == S.toList) = decide (f.2.1 = k) := by
        rw [← HS.out, str_toList, str_toList]
        exact Bool.eq_iff_iff.2 (by simp)
      obtain ⟨T, hT⟩ : ∃ T, str f.2.1 = T := ⟨_, rfl⟩
      rw [hT] at k1 hE
      have HB := Lib.hid hb
      by_cases hfk : f.2.1 = k
      · rw [decide_eq_true hfk] at hE
        rw [if_pos hfk] at hd
        have HD := Lib.hid hd
        have hE' : T.toList = S.toList := by simpa using hE
        clear hd hfk hb hf hT k0 k2 hp hbl
        go_wp2_with fail
        go_ret
        exact ⟨congrArg (fun x => Ending.returned (Value.int .i64 x)) HD.out, HR.out.2.2.trans (HB.out.mono HR.out.2.2.size)⟩
      · rw [decide_eq_false hfk] at hE
        rw [if_neg hfk] at hd
        have HD := Lib.hid hd
        have hE' : ¬ T.toList = S.toList := by simpa using hE
        clear hd hfk hb hf hT k0 k2 hp hbl
        go_wp2_with fail
        exact ⟨⟨a + 1, by go_num, hlt, HB.out, HD.out⟩, by simp [intOf]; omega⟩
    · obtain rfl : a = n := by omega
      have q1 : ¬ ((a : Int) < a) := by omega
      have HB := Lib.hid (And.intro hb hd)
      clear hb hd hbl
      go_wp2_with fail
      go_ret
      have h2 := HB.out.2
      rw [List.drop_eq_nil_of_le (by rw [HK.out.2]; exact Nat.le_refl _), fndN] at h2
      exact ⟨congrArg (fun x => Ending.returned (Value.int .i64 x)) h2, HR.out.2.2.trans (HB.out.1.mono HR.out.2.2.size)⟩
end Go.Proofs.YtbeehedppofpnaaGreatDoor

/- Contract: the document's bad. -/
import Derived.Test.YtbeehedppofpnaaGreatDoorBkMem
import Derived.Test.YtbeehedppofpnaaGreatDoorBkHd
import Derived.Test.YtbeehedppofpnaaGreatDoorBkA
namespace Go.Proofs.YtbeehedppofpnaaGreatDoor
open Go.RowKit

def sem9 (c : UInt8) : Bool := c == 10 || c == 59
def BdP (f : MF) (w : World) (e : Ending) (w' : World) : Prop := e = .returned (.bool (badV (zF f))) ∧ Below w.heap.size w w'
theorem bdP {f : MF} {w w' : World} {B : Bool} (h : badV (zF f) = B) (hb : Below w.heap.size w w') : BdP f w (.returned (.bool B)) w' := ⟨by rw [h], hb⟩
theorem u8_59 (x : UInt8) : ((x.toNat : Int) == 59) = (x == 59) := by
  rw [Bool.eq_iff_iff, beq_iff_eq, beq_iff_eq]
  constructor
  · intro h
    exact UInt8.toNat_inj.1 (by show x.toNat = 59; omega)
  · rintro rfl
    rfl
theorem u8_10 (x : UInt8) : ((x.toNat : Int) == 10) = (x == 10) := by
  rw [Bool.eq_iff_iff, beq_iff_eq, beq_iff_eq]
  constructor
  · intro h
    exact UInt8.toNat_inj.1 (by show x.toNat = 10; omega)
  · rintro rfl
    rfl
theorem u8_92 (x : UInt8) : ((x.toNat : Int) == 92) = (x == 92) := by
  rw [Bool.eq_iff_iff, beq_iff_eq, beq_iff_eq]
  constructor
  · intro h
    exact UInt8.toNat_inj.1 (by show x.toNat = 92; omega)
  · rintro rfl
    rfl
theorem any_upto9 {l : Tx} {k : Nat} {x : UInt8} {r : Tx} (hd : l.drop k = x :: r) (h : (l.take k).any sem9 = false) (hx : sem9 x = false) : (l.take (k + 1)).any sem9 = false := by
  have hk : k < l.length := by
    have := congrArg List.length hd
    rw [List.length_drop, List.length_cons] at this
    omega
  have hx' : l[k] = x := by
    rw [List.drop_eq_getElem_cons hk] at hd
    exact (List.cons.inj hd).1
  rw [List.take_succ_eq_append_getElem hk, List.any_append, h, hx']
  simp [hx]
theorem any_stop9 {l : Tx} {k : Nat} {x : UInt8} {r : Tx} (hd : l.drop k = x :: r) (hx : sem9 x = true) : l.any sem9 = true := by
  rw [List.any_eq_true]
  refine ⟨x, ?_, hx⟩
  have : x ∈ l.drop k := by rw [hd]; simp
  exact List.mem_of_mem_drop this
set_option maxHeartbeats 4000000 in
set_option maxRecDepth 100000 in
theorem refBad_any (f : MF) (w : World) (hl : f.2.1.length ≤ 100000) (hv : f.2.2.length ≤ 100000) :
    Calls Tryz.prog 31 #[.agg #[.int .i64 f.1, .string (str f.2.1), .string (str f.2.2)]] w (BdP f w) := by
  have HD : Hid (badV (zF f) = (f.2.2.any sem9 || f.2.1 == defineT || goes f.2.2 || f.2.2.head?.any blk || f.2.2.getLast?.any blk)) := rfl
  have hd : ((str f.2.1).toList == [100, 101, 102, 105, 110, 101]) = (f.2.1 == defineT) := by rw [str_toList]; rfl
  unfold BdP
  generalize badV (zF f) = R at *
  generalize f.1 = a at *
  generalize f.2.1 = N at *
  generalize f.2.2 = l at *
  obtain ⟨n, hn⟩ : ∃ n, l.length = n := ⟨_, rfl⟩
  have hs : (str l).size = n := hn
  have HN := Lib.hid hn
  obtain ⟨S1, h1⟩ : ∃ x, str N = x := ⟨_, rfl⟩
  obtain ⟨s, hS⟩ : ∃ s, str l = s := ⟨_, rfl⟩
  have HS := Lib.hid hS
  rw [h1] at hd ⊢
  rw [hS] at hs ⊢
  have HDN := Lib.hid hd
  rw [hn] at hv
  obtain ⟨w1, hw1⟩ : ∃ x, w.alloc (.cells #[.int .i64 a, .string S1, .string s] 73) = x := ⟨_, rfl⟩
  have hb0 : Below w.heap.size w w1 := by rw [← hw1]; exact (Below.refl _ _).alloc (Nat.le_refl _) _
  have hc0 : w1.heap[w.heap.size]? = some (.cells #[.int .i64 a, .string S1, .string s] 73 (0, 0)) := by rw [← hw1]; exact (MapKept.heap_alloc w _).1
  have HB := Lib.hid (And.intro hb0 hc0)
  have k1 := cell9_blk hc0 1 (v := .string S1) rfl
  have k2 := cell9_blk hc0 2 (v := .string s) rfl
  clear hn h1 hS hl hb0 hc0 hd
  go_enter Tryz.func31, Tryz.ntmps31
  go_wp2_with fail
  go_loopw [4] (fun i wr => ∃ k : Nat, i = .int .i64 k ∧ k ≤ n ∧ wr = w1 ∧ (l.take k).any sem9 = false) (fun i _ => n - (intOf i).toNat)
  case atStart => exact ⟨0, rfl, Nat.zero_le _, rfl, rfl⟩
  case round =>
    obtain ⟨k, rfl, hk, rfl, hall⟩ := hrel
    have HA := Lib.hid hall
    clear hall
    rcases Nat.lt_or_ge k n with hlt | hge
    · obtain ⟨x, r, e1, e2, S', e3, hs', hx, hc⟩ := at_facts l n k HN.out hlt
      obtain rfl : S' = s := e3.symm.trans HS.out
      have q0 : (0 : Int) ≤ k := by omega
      have q1 : (k : Int) < n := by omega
      have hD := Lib.hid e1
      have t1 := u8_10 x
      have t2 := u8_59 x
      clear e1 e2 e3 hc
      cases h10 : x == 10
      · rw [h10] at t1
        have t1' : ¬ (x.toNat : Int) = 10 := by simpa using t1
        cases h59 : x == 59
        · rw [h59] at t2
          have t2' : ¬ (x.toNat : Int) = 59 := by simpa using t2
          have HX : Hid (sem9 x = false) := by unfold Hid sem9; rw [h10, h59]; rfl
          clear h10 h59
          go_wp2_with fail
          exact ⟨⟨k + 1, by go_num, hlt, by trivial, any_upto9 hD.out HA.out HX.out⟩, by simp [intOf]; omega⟩
        · rw [h59] at t2
          have t2' : (x.toNat : Int) = 59 := by simpa using t2
          have HX : Hid (sem9 x = true) := by unfold Hid sem9; rw [h10, h59]; rfl
          clear h10 h59
          go_wp2_with fail
          go_ret
          exact ⟨ret_bool8 (by rw [HD.out, any_stop9 hD.out HX.out]; rfl), HB.out.1⟩
      · rw [h10] at t1
        have t1' : (x.toNat : Int) = 10 := by simpa using t1
        have HX : Hid (sem9 x = true) := by unfold Hid sem9; rw [h10]; rfl
        clear h10
        go_wp2_with fail
        go_ret
        exact ⟨ret_bool8 (by rw [HD.out, any_stop9 hD.out HX.out]; rfl), HB.out.1⟩
    · obtain rfl : k = n := by omega
      have q1 : ¬ ((k : Int) < k) := by omega
      have HNo : Hid (l.any sem9 = false) := by
        have h := HA.out
        rw [List.take_of_length_le (by rw [HN.out]; exact Nat.le_refl _)] at h
        exact h
      clear HA
      cases hN : N == defineT
      · have hd1 : (S1.toList == [100, 101, 102, 105, 110, 101]) = false := HDN.out.trans hN
        have hd2 : ¬ S1.toList = [100, 101, 102, 105, 110, 101] := by simpa using hd1
        have HR : Hid (R = (goes l || l.head?.any blk || l.getLast?.any blk)) := by unfold Hid; rw [HD.out, HNo.out, hN]; rfl
        clear hN HD HNo HDN
        by_cases hz : k = 0
        · subst hz
          have HR2 : Hid (R = false) := by
            unfold Hid
            rw [HR.out, List.eq_nil_of_length_eq_zero HN.out]
            rfl
          clear HR
          go_wp2_with fail
          go_ret
          exact ⟨ret_bool8 HR2.out.symm, HB.out.1⟩
        · obtain ⟨m, hm⟩ : ∃ m, k = m + 1 := ⟨k - 1, by omega⟩
          have hk0 : 0 < k := by omega
          have hkm : m < k := by omega
          obtain ⟨x, r, e1, _, S', e3, hs', hx, _⟩ := at_facts l k 0 HN.out hk0
          obtain rfl : S' = s := e3.symm.trans HS.out
          obtain ⟨y, r2, e4, _, S2, e5, hs2, hy, _⟩ := at_facts l k m HN.out hkm
          obtain rfl : S2 = S' := e5.symm.trans HS.out
          have hx0 : l.head? = some x := by
            rw [List.drop_zero] at e1
            rw [e1]
            rfl
          have hy0 : l.getLast? = some y := by
            have hml : m < l.length := by rw [HN.out]; omega
            rw [List.drop_eq_getElem_cons hml] at e4
            rw [List.getLast?_eq_getElem?, HN.out, hm, Nat.add_sub_cancel, List.getElem?_eq_getElem hml, (List.cons.inj e4).1]
          have HR3 : Hid (R = (y == 92 || blk x || blk y)) := by
            unfold Hid
            rw [HR.out, goes_last9, hx0, hy0]
            simp
          have q0 : (0 : Int) < k := by omega
          have n0 : (k : Int) - 1 = m := by omega
          have n1 : IntKind.i64.wrap ((k : Int) - 1) = (m : Int) := by rw [n0]; exact IntWalk.i64_in _ (by omega)
          have n2 : (0 : Int) ≤ m := by omega
          have n3 : (m : Int) < k := by omega
          have t3 := u8_92 y
          have HBx := Lib.hid (fun W => refBlank9_any x W)
          have HBy := Lib.hid (fun W => refBlank9_any y W)
          clear HR e1 e3 e4 e5 hx0 hy0 hm hz
          cases h92 : y == 92
          · rw [h92] at t3 HR3
            have t3' : ¬ (y.toNat : Int) = 92 := by simpa using t3
            clear h92
            cases hbx : blk x
            · rw [hbx] at HR3 HBx
              clear hbx
              generalize blk y = C at *
              have HR2 : Hid (R = C) := by unfold Hid; rw [HR3.out]; simp
              clear HR3
              go_wp2_with fail
              with_reducible refine (HBx.out _).mono ?_
              rintro e w3 ⟨rfl, rfl⟩
              go_wp2_with fail
              with_reducible refine (HBy.out _).mono ?_
              rintro e w3 ⟨rfl, rfl⟩
              go_wp2_with fail
              go_ret
              exact ⟨ret_bool8 HR2.out.symm, HB.out.1⟩
            · rw [hbx] at HR3 HBx
              have HR2 : Hid (R = true) := by unfold Hid; rw [HR3.out]; simp
              clear hbx HR3
              go_wp2_with fail
              with_reducible refine (HBx.out _).mono ?_
              rintro e w3 ⟨rfl, rfl⟩
              go_wp2_with fail
              go_ret
              exact ⟨ret_bool8 HR2.out.symm, HB.out.1⟩
          · rw [h92] at t3 HR3
            have t3' : (y.toNat : Int) = 92 := by simpa using t3
            have HR2 : Hid (R = true) := by unfold Hid; rw [HR3.out]; simp
            clear h92 HR3
            go_wp2_with fail
            go_ret
            exact ⟨ret_bool8 HR2.out.symm, HB.out.1⟩
      · have hd1 : (S1.toList == [100, 101, 102, 105, 110, 101]) = true := HDN.out.trans hN
        have hd2 : S1.toList = [100, 101, 102, 105, 110, 101] := by simpa using hd1
        have HR2 : Hid (R = true) := by unfold Hid; rw [HD.out, HNo.out, hN]; rfl
        clear hN HD HNo HDN
        go_wp2_with fail
        go_ret
        exact ⟨ret_bool8 HR2.out.symm, HB.out.1⟩
end Go.Proofs.YtbeehedppofpnaaGreatDoor

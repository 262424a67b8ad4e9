/- CrcMixed's walk. -/
import Derived.Test.YtbemloijgabfcaaDoorL1Sure
import Derived.Test.YtbemloijgabfcaaDoorCrcMath
import Derived.Laws.Cover1
import Derived.Deep.RegionHeld3
namespace Go.Proofs.YtbemloijgabfcaaDoor
open Go.RowKit

/-- Bytes turned by one another, three at a time. -/
def mix : List UInt8 → List UInt8 → List UInt8 → List UInt8
  | a :: p, b :: q, c :: v => (a ^^^ b ^^^ c) :: mix p q v
  | _, _, _ => []
theorem turn_xor (r s x y : Nat) : turn (r ^^^ s) (x ^^^ y) = turn r x ^^^ turn s y := by
  rw [turn_sts, turn_sts, turn_sts, ← sts_xor]
  congr 1
  ac_rfl
theorem reg_mix : ∀ (a b c : List UInt8) (r s t : Nat), a.length = b.length → b.length = c.length → reg (r ^^^ s ^^^ t) (mix a b c) = reg r a ^^^ reg s b ^^^ reg t c
  | [], [], [], r, s, t, _, _ => rfl
  | a :: p, b :: q, c :: v, r, s, t, h1, h2 => by
    show reg (turn (r ^^^ s ^^^ t) (a ^^^ b ^^^ c).toNat) (mix p q v) = reg (turn r a.toNat) p ^^^ reg (turn s b.toNat) q ^^^ reg (turn t c.toNat) v
    rw [UInt8.toNat_xor, UInt8.toNat_xor, turn_xor, turn_xor]
    exact reg_mix p q v _ _ _ (by simpa using h1) (by simpa using h2)
  | [], _ :: _, _, _, _, _, h, _ => by simp at h
  | _ :: _, [], _, _, _, _, h, _ => by simp at h
  | [], [], _ :: _, _, _, _, _, h => by simp at h
  | _ :: _, _ :: _, [], _, _, _, _, h => by simp at h
theorem not_xor (s : Nat) (h : s < 4294967296) : 4294967295 - s = 4294967295 ^^^ s := by
  have := congrArg BitVec.toNat (BitVec.allOnes_xor (x := BitVec.ofNat 32 s))
  rw [BitVec.toNat_xor, BitVec.toNat_not, BitVec.toNat_allOnes, BitVec.toNat_ofNat, Nat.mod_eq_of_lt (by omega)] at this
  exact this.symm
theorem more_mix (a b c : List UInt8) (h1 : a.length = b.length) (h2 : b.length = c.length) : more 0 a ^^^ more 0 b ^^^ more 0 c = more 0 (mix a b c) := by
  have e : (4294967295 : Nat) = 4294967295 ^^^ 4294967295 ^^^ 4294967295 := by decide
  have hm : reg 4294967295 (mix a b c) = reg 4294967295 a ^^^ reg 4294967295 b ^^^ reg 4294967295 c := by
    conv => lhs; rw [e]
    exact reg_mix a b c _ _ _ h1 h2
  unfold more
  simp only [Nat.sub_zero]
  rw [not_xor _ (reg_lt _ _ (by omega)), not_xor _ (reg_lt _ _ (by omega)), not_xor _ (reg_lt _ _ (by omega)), not_xor _ (reg_lt _ _ (by omega)), hm]
  generalize reg 4294967295 a = x
  generalize reg 4294967295 b = y
  generalize reg 4294967295 c = z
  conv => rhs; rw [e]
  ac_rfl
theorem mix_snoc : ∀ (a b c : List UInt8) (x y z : UInt8), a.length = b.length → b.length = c.length → mix (a ++ [x]) (b ++ [y]) (c ++ [z]) = mix a b c ++ [x ^^^ y ^^^ z]
  | [], [], [], _, _, _, _, _ => rfl
  | a :: p, b :: q, c :: v, x, y, z, h1, h2 => by
    show (a ^^^ b ^^^ c) :: mix (p ++ [x]) (q ++ [y]) (v ++ [z]) = _
    rw [mix_snoc p q v x y z (by simpa using h1) (by simpa using h2)]
    rfl
  | [], _ :: _, _, _, _, _, h, _ => by simp at h
  | _ :: _, [], _, _, _, _, h, _ => by simp at h
  | [], [], _ :: _, _, _, _, _, h => by simp at h
  | _ :: _, _ :: _, [], _, _, _, _, h => by simp at h
theorem mix_length : ∀ (a b c : List UInt8), a.length = b.length → b.length = c.length → (mix a b c).length = a.length
  | [], [], [], _, _ => rfl
  | a :: p, b :: q, c :: v, h1, h2 => by
    show (mix p q v).length + 1 = p.length + 1
    rw [mix_length p q v (by simpa using h1) (by simpa using h2)]
  | [], _ :: _, _, h, _ => by simp at h
  | _ :: _, [], _, h, _ => by simp at h
  | [], [], _ :: _, _, h => by simp at h
  | _ :: _, _ :: _, [], _, h => by simp at h

theorem one_ok (k : IntKind) (n : Int) : ∀ u ∈ [Value.int k n], u.oneCell' = true := by
  intro u hu
  simp only [List.mem_singleton] at hu
  subst hu
  rfl

set_option maxRecDepth 100000 in
set_option maxHeartbeats 2000000 in
theorem mixed_core (A : Option Addr) (ca : Nat) (a : List UInt8) (B : Option Addr) (cb : Nat) (b : List UInt8) (C : Option Addr) (cc : Nat) (d : List UInt8) (n : Nat) (w : World) (ht : Tab w)
    (ha : Rd w A (bs a)) (hb : Rd w B (bs b)) (hd : Rd w C (bs d)) (hca : a.length ≤ ca) (hcb : b.length ≤ cb) (hcc : d.length ≤ cc) (hn : n = min (min (min a.length b.length) d.length) 2000) :
    Calls Tryd.prog 7 #[.slice A a.length ca, .slice B b.length cb, .slice C d.length cc] w fun e w' => e = .returned (.bool true) ∧ Below w.heap.size w w' := by
  have hmin : ∀ (ts : Array TypeId) (t : TypeId) (W : World), (Builtin.min_ ts t #[.int .i64 (a.length : Int), .int .i64 (b.length : Int), .int .i64 (d.length : Int), .int .i64 2000]).run Tryd.prog W = .ok (.int .i64 (n : Int)) W := by
    intro ts t W
    have h : (Builtin.min_ ts t #[.int .i64 (a.length : Int), .int .i64 (b.length : Int), .int .i64 (d.length : Int), .int .i64 2000]).run Tryd.prog W = .ok (.int .i64 (if (2000 : Int) < (if (d.length : Int) < (if (b.length : Int) < (a.length : Int) then (b.length : Int) else (a.length : Int)) then (d.length : Int) else (if (b.length : Int) < (a.length : Int) then (b.length : Int) else (a.length : Int))) then 2000 else (if (d.length : Int) < (if (b.length : Int) < (a.length : Int) then (b.length : Int) else (a.length : Int)) then (d.length : Int) else (if (b.length : Int) < (a.length : Int) then (b.length : Int) else (a.length : Int))))) W := by
      simp [Builtin.min_, Builtin.min2]
    rw [h]
    congr 2
    subst hn
    omega
  obtain ⟨n1, n2, n3, n4⟩ : n ≤ a.length ∧ n ≤ b.length ∧ n ≤ d.length ∧ n ≤ 2000 := by omega
  have HT := Lib.hid ht
  have HA := Lib.hid ha
  have HB := Lib.hid hb
  have HC := Lib.hid hd
  clear ht ha hb hd hn
  go_enter Tryd.func7, Tryd.ntmps7
  go_wp2_with fail
  go_loopw [8, 9] (fun v i wr => ∃ k : Nat, k ≤ n ∧ i = .int .i64 k ∧ wr.ownsRow w.heap.size 5 1 v k (bs (mix (a.take k) (b.take k) (d.take k))) ∧ Below w.heap.size w wr) (fun _ i _ => n - (intOf i).toNat)
  case atStart => exact ⟨0, Nat.zero_le _, rfl, World.ownsRow_nil _ _ _ _, Below.refl _ _⟩
  case round =>
    obtain ⟨k, hk, rfl, hown, hbw⟩ := hrel
    have HO := Lib.hid hown
    have HW := Lib.hid hbw
    have hws := hbw.size
    clear hown hbw
    by_cases hkn : k < n
    · have HM : Hid (bs (mix (a.take (k + 1)) (b.take (k + 1)) (d.take (k + 1))) = bs (mix (a.take k) (b.take k) (d.take k)) ++ bs [a[k] ^^^ b[k] ^^^ d[k]]) := by
        unfold Hid
        rw [List.take_succ_eq_append_getElem (by omega), List.take_succ_eq_append_getElem (by omega), List.take_succ_eq_append_getElem (by omega), mix_snoc _ _ _ _ _ _ (by simp; omega) (by simp; omega), bs_append]
      obtain ⟨aa, rfl, ca0⟩ := HA.out.byte (k := k) (by omega)
      have hla := World.block_lt_of_cell? w _ ca0
      have ca1 := (HW.out.cell hla).trans ca0
      obtain ⟨ab, rfl, cb0⟩ := HB.out.byte (k := k) (by omega)
      have hlb := World.block_lt_of_cell? w _ cb0
      have cb1 := (HW.out.cell hlb).trans cb0
      obtain ⟨ac, rfl, cc0⟩ := HC.out.byte (k := k) (by omega)
      have hlc := World.block_lt_of_cell? w _ cc0
      have cc1 := (HW.out.cell hlc).trans cc0
      have x1 : bits BinOp.xor IntKind.u8 (a[k].toNat : Int) (b[k].toNat : Int) = ((a[k].toNat ^^^ b[k].toNat : Nat) : Int) := u8_xor_nat _ _ (UInt8.toNat_lt _) (UInt8.toNat_lt _)
      have x2 : bits BinOp.xor IntKind.u8 ((a[k].toNat ^^^ b[k].toNat : Nat) : Int) (d[k].toNat : Int) = ((a[k].toNat ^^^ b[k].toNat ^^^ d[k].toNat : Nat) : Int) := u8_xor_nat _ _ (Nat.xor_lt_two_pow (n := 8) (UInt8.toNat_lt _) (UInt8.toNat_lt _)) (UInt8.toNat_lt _)
      have HX : Hid (bs [a[k] ^^^ b[k] ^^^ d[k]] = [.int .u8 ((a[k].toNat ^^^ b[k].toNat ^^^ d[k].toNat : Nat) : Int)]) := by
        unfold Hid
        simp only [bs, List.map_cons, List.map_nil, b8, UInt8.toNat_xor]
      generalize bs [a[k] ^^^ b[k] ^^^ d[k]] = one at *
      generalize a[k].toNat ^^^ b[k].toNat ^^^ d[k].toNat = y2 at *
      generalize a[k].toNat ^^^ b[k].toNat = y1 at *
      generalize a[k].toNat = ya at *
      generalize b[k].toNat = yb at *
      generalize d[k].toNat = yd at *
      have i0 : (0 : Int) ≤ (k : Int) := by omega
      have ia : (k : Int) < (a.length : Int) := by omega
      have ib : (k : Int) < (b.length : Int) := by omega
      have ic : (k : Int) < (d.length : Int) := by omega
      have da1 := (World.cell?_alloc_lt wr (.cells #[.int .u8 (y2 : Int)] 5) _ (World.block_lt_of_cell? wr _ ca1)).trans ca1
      have db1 := (World.cell?_alloc_lt wr (.cells #[.int .u8 (y2 : Int)] 5) _ (World.block_lt_of_cell? wr _ cb1)).trans cb1
      have dc1 := (World.cell?_alloc_lt wr (.cells #[.int .u8 (y2 : Int)] 5) _ (World.block_lt_of_cell? wr _ cc1)).trans cc1
      go_wp2_with fail
      go_region_held3 (fun W => W.cell? (aa.add k) = some (.int .u8 (ya : Int)) ∧ W.cell? (ab.add k) = some (.int .u8 (yb : Int)) ∧ W.cell? (ac.add k) = some (.int .u8 (yd : Int)))
        (first | exact ⟨ca1, cb1, cc1⟩ | exact ⟨da1, db1, dc1⟩ | exact ⟨ea1, eb1, ec1⟩)
        ((refine step_app (by rfl) (.tmp 22) (.tmp 37) _ (by rfl) elU8 w.heap.size u8 k (bs (mix (a.take k) (b.take k) (d.take k))) (by rfl) ((HO.out.alloc _).drew) (some ⟨wr.heap.size, 0, none⟩) 1 1 one (by rfl) (by rw [HX.out]; rfl) (by rw [HX.out]; exact Rd.block (cs := #[.int .u8 (y2 : Int)]) (heap_alloc_new _ _)) (by rw [HX.out]; exact one_ok _ _) (by unfold maxLen; omega) (by omega) (by simp; omega) ?_
          intro v3 w3 hown3 hg3 hat3
          have HB3 := Lib.hid (((HW.out.alloc hws (.cells #[.int .u8 (y2 : Int)] 5)).drew).grown hg3 (by simp; omega) (fun j hj => owns_block HO.out j hj))
          have HO3 := Lib.hid hown3
          have ea1 := (HB3.out.cell hla).trans ca0
          have eb1 := (HB3.out.cell hlb).trans cb0
          have ec1 := (HB3.out.cell hlc).trans cc0
          clear hown3 hg3 hat3))
      go_wp2_with fail
      go_roundw
      case rel =>
        refine ⟨k + 1, by omega, by go_num, ?_, HB3.out⟩
        rw [HM.out]
        exact HO3.out
      case measure => simp [intOf]; omega
    · obtain rfl : k = n := by omega
      have ta : (a.take k).length = k := by rw [List.length_take]; omega
      have tb : (b.take k).length = k := by rw [List.length_take]; omega
      have tc : (d.take k).length = k := by rw [List.length_take]; omega
      have tm : (mix (a.take k) (b.take k) (d.take k)).length = k := by rw [mix_length _ _ _ (by omega) (by omega)]; exact ta
      have hmm : more 0 (a.take k) ^^^ more 0 (b.take k) ^^^ more 0 (d.take k) = more 0 (mix (a.take k) (b.take k) (d.take k)) := more_mix _ _ _ (by omega) (by omega)
      have y1 : bits BinOp.xor IntKind.u32 (more 0 (a.take k) : Int) (more 0 (b.take k) : Int) = ((more 0 (a.take k) ^^^ more 0 (b.take k) : Nat) : Int) := u32_xor_nat _ _ (more_lt _ _) (more_lt _ _)
      have y2 : bits BinOp.xor IntKind.u32 ((more 0 (a.take k) ^^^ more 0 (b.take k) : Nat) : Int) (more 0 (d.take k) : Int) = ((more 0 (mix (a.take k) (b.take k) (d.take k)) : Nat) : Int) := by
        rw [← hmm]
        exact u32_xor_nat _ _ (Nat.xor_lt_two_pow (n := 32) (more_lt _ _) (more_lt _ _)) (more_lt _ _)
      have TA := Lib.hid ta
      have TB := Lib.hid tb
      have TC := Lib.hid tc
      have TM := Lib.hid tm
      clear ta tb tc tm hmm
      have i0 : (0 : Int) ≤ (k : Int) := by omega
      have ia : (k : Int) ≤ (ca : Int) := by omega
      have ib : (k : Int) ≤ (cb : Int) := by omega
      have ic : (k : Int) ≤ (cc : Int) := by omega
      have RA := Lib.hid (show Rd wr A (bs (a.take k)) by rw [← bs_take]; exact (HA.out.below HW.out).take)
      have RB := Lib.hid (show Rd wr B (bs (b.take k)) by rw [← bs_take]; exact (HB.out.below HW.out).take)
      have RC := Lib.hid (show Rd wr C (bs (d.take k)) by rw [← bs_take]; exact (HC.out.below HW.out).take)
      obtain ⟨Am, cm, rfl, _, _, _, hRM, _⟩ := owns_form HO.out
      have RM := Lib.hid hRM
      clear hRM
      generalize hsm : more 0 (mix (a.take k) (b.take k) (d.take k)) = sm at *
      have HSM := Lib.hid hsm
      clear hsm
      go_wp2_with fail
      go_region_with (first
        | (go_at_call 11
           ((with_reducible refine (sum_n A k ca (a.take k) _ TA.out ?_ ?_ ?_).mono ?_)
            · exact (HT.out.below HW.out).drewN 1
            · exact RA.out.drew
            · unfold maxLen; omega
            rintro e w' ⟨rfl, rfl⟩))
        | (go_at_call 11
           ((with_reducible refine (sum_n B k cb (b.take k) _ TB.out ?_ ?_ ?_).mono ?_)
            · exact (HT.out.below HW.out).drewN 1
            · exact RB.out.drew
            · unfold maxLen; omega
            rintro e w' ⟨rfl, rfl⟩))
        | (go_at_call 11
           ((with_reducible refine (sum_n C k cc (d.take k) _ TC.out ?_ ?_ ?_).mono ?_)
            · exact (HT.out.below HW.out).drewN 1
            · exact RC.out.drew
            · unfold maxLen; omega
            rintro e w' ⟨rfl, rfl⟩))
        | (go_at_call 11
           ((with_reducible refine (sum_n Am k cm (mix (a.take k) (b.take k) (d.take k)) _ TM.out ?_ ?_ ?_).mono ?_)
            · exact (HT.out.below HW.out).drewN 1
            · exact RM.out.drew
            · unfold maxLen; omega
            rintro e w' ⟨he, rfl⟩
            rw [HSM.out] at he
            subst he))
        | (go_at_call 10
           refine (sure_any _ ?_).mono ?_
           · exact (HT.out.below HW.out).drewN 1
           rintro e w3 ⟨rfl, hb3⟩))
      all_goals
        go_wp2_with fail
        go_ret
        exact ⟨rfl, HW.out.drew.trans (hb3.mono HW.out.size)⟩

theorem mixed_any (A : Option Addr) (ca : Nat) (a : List UInt8) (B : Option Addr) (cb : Nat) (b : List UInt8) (C : Option Addr) (cc : Nat) (d : List UInt8) (w : World) (ht : Tab w)
    (ha : Rd w A (bs a)) (hca : a.length ≤ ca) (_ : ca ≤ maxLen) (hb : Rd w B (bs b)) (hcb : b.length ≤ cb) (_ : cb ≤ maxLen) (hd : Rd w C (bs d)) (hcc : d.length ≤ cc) (_ : cc ≤ maxLen) :
    Calls Tryd.prog 7 #[.slice A a.length ca, .slice B b.length cb, .slice C d.length cc] w fun e w' => e = .returned (.bool true) ∧ Below w.heap.size w w' :=
  mixed_core A ca a B cb b C cc d _ w ht ha hb hd hca hcb hcc rfl
end Go.Proofs.YtbemloijgabfcaaDoor

/- Contracts: the document's cut, number. -/
import Derived.Test.YtjfmnflcgenpaaaGreatDoorRlT
import Derived.Test.YtjfmnflcgenpaaaGreatDoorRlN
import Derived.IntWalk
namespace Go.Proofs.YtjfmnflcgenpaaaGreatDoor
open Go.RowKit

def strL (ps : List (List UInt8)) : List Value := ps.map fun p => .string (str p)
theorem strL_length (ps : List (List UInt8)) : (strL ps).length = ps.length := by simp [strL]
theorem strL_append (a b : List (List UInt8)) : strL (a ++ b) = strL a ++ strL b := by simp [strL]
theorem strL_one (l : List (List UInt8)) : ∀ u ∈ strL l, u.oneCell' = true := by
  intro u hu
  obtain ⟨n, _, rfl⟩ := List.mem_map.1 hu
  rfl
theorem slice_run (S : ByteArray) (a i : Nat) (h1 : a ≤ i) (h2 : i ≤ S.size) (W : World) : (Instr.slice 9 (Value.string S) (some (Value.int IntKind.i64 a)) (some (Value.int IntKind.i64 i)) none).run Tryz.prog W = .ok (.string (S.extract a i)) W := by
  rw [run_slice_string _ _ _ _ _ _ _ Tryz.underlying9 (by omega) (by omega) (by omega)]
  rw [Int.toNat_natCast, Int.toNat_natCast]
theorem str_get (l : List UInt8) (i : Nat) (h : i < (str l).size) : (str l)[i] = l[i]'h := rfl
theorem ret_slice {A : Option Addr} {k k' c : Nat} (h : k = k') : Ending.returned (.slice A k c) = .returned (.slice A k' c) := by rw [h]
theorem strL_get (ps : List (List UInt8)) (k : Nat) (h : k < ps.length) : (strL ps)[k]? = some (.string (str ps[k])) := by
  unfold strL
  rw [List.getElem?_map, List.getElem?_eq_getElem h]
  rfl
set_option maxRecDepth 100000 in
set_option maxHeartbeats 4000000 in
theorem cut_r (l : List UInt8) (c : UInt8) (cv : Int) (w : World) (hcv : cv = c.toNat) (hl : l.length ≤ 1000) :
    Calls Tryz.prog 33 #[.string (str l), .int .u8 cv] w fun e w' => ∃ A cp, e = .returned (.slice A (cutAt c l).length cp) ∧ Below w.heap.size w w' ∧ Rd w' A (strL (cutAt c l)) := by
  obtain ⟨n, hn⟩ : ∃ n, l.length = n := ⟨_, rfl⟩
  have HN := Lib.hid hn
  have hsz : (str l).size = n := hn
  obtain ⟨S, hS⟩ : ∃ S, str l = S := ⟨_, rfl⟩
  have HS := Lib.hid hS
  have HCV := Lib.hid hcv
  have HGET := Lib.hid (str_get l)
  have HCUT := Lib.hid (str_cut l)
  rw [hn] at hl
  rw [hS] at hsz HCUT ⊢
  clear hn hS hcv
  go_enter Tryz.func33, Tryz.ntmps33
  go_wp2_with fail
  go_loopw [5, 6, 7] (fun x v u wr => ∃ (i a : Nat) (P : List (List UInt8)), u = .int .i64 i ∧ v = .int .i64 a ∧ i ≤ n + 1 ∧ a ≤ n + 1 ∧ Below w.heap.size w wr ∧ wr.ownsRow w.heap.size 9 1 x P.length (strL P) ∧ P.length ≤ i ∧ ((i ≤ n ∧ a ≤ i ∧ c ∉ (l.drop a).take (i - a) ∧ cutAt c l = P ++ cutAt c (l.drop a)) ∨ (i = n + 1 ∧ cutAt c l = P))) (fun _ _ u _ => n + 1 - (intOf u).toNat)
  case atStart => exact ⟨0, 0, [], rfl, rfl, Nat.zero_le _, Nat.zero_le _, Below.refl _ _, World.ownsRow_nil _ _ _ _, Nat.le_refl _, .inl ⟨Nat.zero_le _, Nat.le_refl _, by simp, rfl⟩⟩
  case round =>
    obtain ⟨i, a, P, rfl, rfl, hi, ha, hb, hown, hpl, hst⟩ := hrel
    have HB := Lib.hid hb
    have HO := Lib.hid hown
    have hbs := hb.size
    rcases hst with ⟨hin, hai, hno, hcut⟩ | ⟨hin, hcut⟩
    · clear hb hown
      have HNO := Lib.hid hno
      have HCC := Lib.hid hcut
      clear hno hcut
      obtain ⟨k, hk⟩ : ∃ k, P.length = k := ⟨_, rfl⟩
      have HK := Lib.hid hk
      rw [hk] at HO hpl
      clear hk
      by_cases hlast : i = n
      · subst hlast
        have hR := slice_run S a i hai (by omega)
        have HZ := Lib.hid (HCUT.out a i)
        have HP := Lib.hid (show cutAt c l = P ++ [(l.drop a).take (i - a)] by
          rw [HCC.out]
          congr 1
          have e : (l.drop a).take (i - a) = l.drop a := List.take_of_length_le (by rw [List.length_drop, HN.out]; omega)
          rw [e]
          have := HNO.out
          rw [e] at this
          exact cutAt_none c _ this)
        obtain ⟨Z, hZ⟩ : ∃ Z, S.extract a i = Z := ⟨_, rfl⟩
        rw [hZ] at hR HZ
        clear hZ
        go_wp2_with (first
          | (at_builtin
             refine wpList_app rfl (.tmp 25) (.tmp 30) _ rfl elStr w.heap.size _ k (strL P) rfl (HO.out.alloc _) _ 1 1 (strL [(l.drop a).take (i - a)]) rfl rfl ?rd (strL_one _) (by unfold maxLen; omega) (by omega) (by simp; omega) ?_
             case rd =>
               have e : strL [(l.drop a).take (i - a)] = [.string Z] := by rw [HZ.out]; rfl
               rw [e]
               exact Rd.block (cs := #[.string Z]) (heap_alloc_new _ _)
             intro v3 w3 hown3 hg3 hat3
             have HO3 := Lib.hid hown3
             have HB3 := Lib.hid ((HB.out.alloc hbs (.cells #[.string Z] 9)).grown hg3 (by simp; omega) (fun j hj => owns_block HO.out j hj))
             clear hown3 hg3 hat3))
        go_roundw
        case rel =>
          refine ⟨i + 1, i + 1, P ++ [(l.drop a).take (i - a)], by go_num, by go_num, Nat.le_refl _, Nat.le_refl _, HB3.out, ?_, by rw [List.length_append, HK.out]; simp; omega, .inr ⟨rfl, HP.out⟩⟩
          rw [List.length_append, HK.out, strL_append]
          exact HO3.out
        case measure => simp [intOf]
      · have hlt : i < n := by omega
        have hks : i < S.size := by omega
        have d0 : ((i : Int) == n) = false := by rw [beq_eq_false_iff_ne]; omega
        have hil : i < l.length := by rw [HN.out]; exact hlt
        have hg : S[i] = l[i] := by
          have := HGET.out i (by rw [HS.out]; exact hks)
          refine Eq.trans ?_ this
          congr 1
          exact HS.out.symm
        obtain ⟨b, hbb⟩ : ∃ b, l[i] = b := ⟨_, rfl⟩
        rw [hbb] at hg
        have HBB := Lib.hid hbb
        by_cases hbc : b = c
        · have d1 : ((b.toNat : Int) == cv) = true := by rw [HCV.out, hbc]; simp
          have hR := slice_run S a i hai (by omega)
          have HZ := Lib.hid (HCUT.out a i)
          have HP := Lib.hid (show cutAt c l = (P ++ [(l.drop a).take (i - a)]) ++ cutAt c (l.drop (i + 1)) by
            rw [HCC.out, piece_hit c l a i hai hil (HBB.out.trans hbc) HNO.out]
            simp)
          obtain ⟨Z, hZ⟩ : ∃ Z, S.extract a i = Z := ⟨_, rfl⟩
          rw [hZ] at hR HZ
          clear hZ hbb hbc hlast
          go_wp2_with (first
            | (at_builtin
               refine wpList_app rfl (.tmp 25) (.tmp 30) _ rfl elStr w.heap.size _ k (strL P) rfl (HO.out.alloc _) _ 1 1 (strL [(l.drop a).take (i - a)]) rfl rfl ?rd (strL_one _) (by unfold maxLen; omega) (by omega) (by simp; omega) ?_
               case rd =>
                 have e : strL [(l.drop a).take (i - a)] = [.string Z] := by rw [HZ.out]; rfl
                 rw [e]
                 exact Rd.block (cs := #[.string Z]) (heap_alloc_new _ _)
               intro v3 w3 hown3 hg3 hat3
               have HO3 := Lib.hid hown3
               have HB3 := Lib.hid ((HB.out.alloc hbs (.cells #[.string Z] 9)).grown hg3 (by simp; omega) (fun j hj => owns_block HO.out j hj))
               clear hown3 hg3 hat3))
          go_roundw
          case rel =>
            refine ⟨i + 1, i + 1, P ++ [(l.drop a).take (i - a)], by go_num, by go_num, by omega, by omega, HB3.out, ?_, by rw [List.length_append, HK.out]; simp; omega, .inl ⟨hlt, Nat.le_refl _, by simp, HP.out⟩⟩
            rw [List.length_append, HK.out, strL_append]
            exact HO3.out
          case measure => simp [intOf]; omega
        · have d1 : ((b.toNat : Int) == cv) = false := by
            rw [HCV.out, beq_eq_false_iff_ne]
            intro e
            exact hbc (UInt8.toNat_inj.1 (by omega))
          have HM := Lib.hid (piece_more c l a i hai hil (by rw [HBB.out]; exact hbc) HNO.out)
          clear hbb hbc hlast
          go_wp2_with fail
          go_roundw
          case rel => exact ⟨i + 1, a, P, by go_num, rfl, by omega, ha, HB.out, by rw [HK.out]; exact HO.out, by rw [HK.out]; omega, .inl ⟨hlt, by omega, HM.out, HCC.out⟩⟩
          case measure => simp [intOf]; omega
    · subst hin
      have HP := Lib.hid hcut
      obtain ⟨A, cp, rfl, hcp1, hcp2, hcp3, hrd, hlo⟩ := owns_form hown
      have HR := Lib.hid hrd
      have hpl2 := Lib.hid hpl
      clear hown hrd hlo hcp2 hcp3 hcut hb hpl hcp1
      obtain ⟨k, hk⟩ : ∃ k, P.length = k := ⟨_, rfl⟩
      rw [hk]
      have HK := Lib.hid hk
      clear hk
      go_wp2_with fail
      go_ret
      exact ⟨A, cp, ret_slice (by rw [HP.out, HK.out]), HB.out, by rw [HP.out]; exact HR.out⟩
end Go.Proofs.YtjfmnflcgenpaaaGreatDoor

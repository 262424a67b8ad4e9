/- The document's answer of layer 1: Seal by contract. -/
import Derived.Test.YtbemloijgabfcaaDoorRef1A
namespace Go.Proofs.YtbemloijgabfcaaDoor
open Go.RowKit

theorem le4_next (s k : Nat) (h : k < 4) : (le4 s).take (k + 1) = (le4 s).take k ++ [UInt8.ofNat (s / 256 ^ k)] := by
  match k, h with
  | 0, _ => simp [le4]
  | 1, _ => simp [le4]
  | 2, _ => simp [le4]
  | 3, _ => simp [le4]

set_option maxHeartbeats 1000000 in
theorem refseal_any (A : Option Addr) (n c : Nat) (l : List UInt8) (w : World) (hn : l.length = n) (hr : Rd w A (bs l)) (hl : n ≤ 1000000) :
    Calls Tryd.prog 17 #[.slice A n c] w fun e w' => ∃ v, e = .returned v ∧ w'.ownsRow w.heap.size 5 1 v (n + 4) (bs (sealed l)) ∧ Below w.heap.size w w' := by
  have HR := Lib.hid hr
  have HN := Lib.hid hn
  have hs := more_lt 0 l
  clear hr hn
  go_enter Tryd.func17, Tryd.ntmps17
  go_wp2_with fail
  refine (refmore_any 0 A n c l _ HN.out (by omega) HR.out hl).mono ?_
  rintro e w' ⟨rfl, rfl⟩
  have HS : Hid (sealed l = l ++ le4 (more 0 l)) := rfl
  generalize more 0 l = s at *
  go_wp2_with (first
    | (at_builtin
       refine wpList_app rfl (.tmp 8) (.tmp 9) _ rfl elU8 w.heap.size (.slice none 0 0) 0 [] rfl (World.ownsRow_nil _ _ _ _) A n c (bs l) rfl (by rw [bs_length]; exact HN.out) HR.out (bs_one l) (by unfold maxLen; omega) (by omega) (Nat.le_refl _) ?_
       intro v2 w2 hown2 hg2 hat2))
  have HO2 : Hid (w2.ownsRow w.heap.size 5 1 v2 (n + 0) (bs (l ++ (le4 s).take 0))) := by
    unfold Hid; simpa using hown2
  have HB2 := Lib.hid ((Below.refl w.heap.size w).grown hg2 (Nat.le_refl _) (fun k hk => by simp [Value.ownBlock] at hk))
  clear hown2 hg2 hat2
  go_loopw [3, 4, 5] (fun v x i wr => ∃ k : Nat, k ≤ 4 ∧ i = .int .i64 k ∧ x = .int .u32 (s / 256 ^ k : Nat) ∧ wr.ownsRow w.heap.size 5 1 v (n + k) (bs (l ++ (le4 s).take k)) ∧ Below w.heap.size w wr) (fun _ _ i _ => 4 - (intOf i).toNat)
  case atStart => exact ⟨0, by omega, rfl, by simp, HO2.out, HB2.out⟩
  case round =>
    obtain ⟨k, hk, rfl, rfl, hown, hb⟩ := hrel
    have hx : s / 256 ^ k ≤ s := Nat.div_le_self _ _
    have hbs := hb.size
    have HO := Lib.hid hown
    have HB := Lib.hid hb
    clear hown hb
    by_cases hk4 : k < 4
    · have HN4 := Lib.hid (le4_next s k hk4)
      have HD : Hid (s / 256 ^ (k + 1) = s / 256 ^ k / 256) := by
        unfold Hid
        rw [Nat.pow_succ, Nat.div_div_eq_div_mul]
      generalize s / 256 ^ k = x at *
      have HX : Hid (bs [UInt8.ofNat x] = [.int .u8 ((x : Int) % 256)]) := by
        unfold Hid
        simp only [bs, List.map_cons, List.map_nil, b8_ofNat]
      go_wp2_with (first
        | (at_builtin
           refine wpList_app rfl (.tmp 15) (.tmp 19) _ rfl elU8 w.heap.size _ (n + k) (bs (l ++ (le4 s).take k)) rfl (HO.out.alloc _) _ 1 1 (bs [UInt8.ofNat x]) rfl rfl ?rd (bs_one _) (by unfold maxLen; omega) (by omega) (by simp; omega) ?_
           case rd =>
             rw [HX.out]
             exact Rd.block (cs := #[.int .u8 ((x : Int) % 256)]) (heap_alloc_new _ _)
           intro v3 w3 hown3 hg3 hat3
           have HO3 := Lib.hid hown3
           have HB3 := Lib.hid ((HB.out.alloc hbs (.cells #[.int .u8 ((x : Int) % 256)] 5)).grown hg3 (by simp; omega) (fun j hj => owns_block HO.out j hj))
           clear hown3 hg3 hat3))
      go_roundw
      case rel =>
        refine ⟨k + 1, by omega, by go_num, by rw [HD.out]; go_num, ?_, HB3.out⟩
        have h := HO3.out
        rw [← bs_append, List.append_assoc, ← HN4.out] at h
        exact h
      case measure => simp [intOf]; omega
    · obtain rfl : k = 4 := by omega
      go_wp2_with fail
      go_ret
      refine ⟨_, rfl, ?_, HB.out⟩
      rw [HS.out]
      exact HO.out
end Go.Proofs.YtbemloijgabfcaaDoor

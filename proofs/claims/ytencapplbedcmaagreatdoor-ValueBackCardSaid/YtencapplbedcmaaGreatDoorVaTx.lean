/- Layer 10's law package: texts by contract; a list's length. -/
import Derived.Test.YtencapplbedcmaaGreatDoorVaSu
import Derived.Test.YtencapplbedcmaaGreatDoorVaR3
namespace Go.Proofs.YtencapplbedcmaaGreatDoor
open Go.RowKit

theorem ls_len (s : Tx) : (listT s).1.length ≤ 4096 := by
  rcases h : listT s with ⟨l, k⟩
  by_cases hk : k = 0
  · subst hk
    exact (list_ok h).2.2.1
  · unfold listT at h
    split at h
    · cases h; simp
    · split at h
      · cases h; simp
      · cases h; exact absurd rfl hk
set_option maxHeartbeats 1000000 in
set_option maxRecDepth 100000 in
theorem texts_any (A B : Option Addr) (c d n : Nat) (L : List Tx) (w : World) (hn : L.length = n) (hs : n ≤ 1000000) (hr : RdS w A L) (hq : RdS w B L) :
    Calls Tryz.prog 20 #[.slice A n c, .slice B n d] w fun e w' => e = .returned (.bool true) ∧ Below w.heap.size w w' := by
  have HS := Lib.hid (And.intro hn (And.intro hr hq))
  clear hn hr hq
  go_enter Tryz.func20, Tryz.ntmps20
  go_wp2_with fail
  go_loopw [5] (fun v w' => ∃ i : Nat, v = .int .i64 i ∧ i ≤ n ∧ Below w.heap.size w w') (fun v _ => n - (intOf v).toNat)
  case atStart => exact ⟨0, rfl, Nat.zero_le _, Below.refl _ _⟩
  case round =>
    obtain ⟨i, rfl, hi, hb⟩ := hrel
    have HB := Lib.hid hb
    clear hb
    rcases Nat.lt_or_ge i n with hlt | hge
    · have q0 : (0 : Int) ≤ i := by omega
      have q1 : (i : Int) < n := by omega
      have hil : i < (L.map txC).length := by rw [List.length_map, HS.out.1]; exact hlt
      obtain ⟨ad, rfl, k0⟩ := (Rd.below HS.out.2.1 HB.out).at_ hil
      obtain ⟨ad', rfl, k1⟩ := (Rd.below HS.out.2.2 HB.out).at_ hil
      obtain ⟨S, hS⟩ : ∃ S, (L.map txC)[i] = .string S := ⟨_, by rw [List.getElem_map]; rfl⟩
      rw [hS] at k0 k1
      clear hS hil
      have t1 : (S.toList == S.toList) = true := beq_self_eq_true _
      go_wp2_with fail
      go_quiet (fail)
      go_wp2_with fail
      refine ⟨⟨i + 1, by go_num, hlt, HB.out.trans (below_dr _ _)⟩, by simp [intOf]; omega⟩
    · have q1 : ¬ ((i : Int) < n) := by omega
      go_wp2_with fail
      go_ret
      exact ret_trueV HB.out
end Go.Proofs.YtencapplbedcmaaGreatDoor

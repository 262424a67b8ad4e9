/- The document's answers of layer 2: Put, Code, by contracts. -/
import Derived.Test.YtkhlmlmbgfnolaaLebE
namespace Go.Proofs.Ytkhlmlmbgfnolaa
open Go.RowKit

theorem owns_below {B : Nat} {e : TypeId} {k : Nat} {v : Value} {n : Nat} {xs : List Value} {w w' : World} (h : w.ownsRow B e k v n xs) (hb : Below w.heap.size w w') : w'.ownsRow B e k v n xs :=
  h.kept (row := none) ⟨hb.os, hb.tape, hb.output, hb.size, fun j hj _ => hb.block j hj⟩ (by cases v.ownBlock <;> simp)
set_option maxRecDepth 100000 in
set_option maxHeartbeats 1000000 in
theorem refput_n (A : Option Addr) (n c : Nat) (l : List UInt8) (v : Nat) (w : World) (hn : l.length = n) (hr : Rd w A (bs l)) (hv : v < 18446744073709551616) (hl : n ≤ 1000000) :
    Calls Try.prog 8 #[.slice A n c, .int .u64 v] w fun e w' => ∃ x, e = .returned x ∧ w'.ownsRow w.heap.size 5 1 x (n + (dig v).length) (bs (l ++ dig v)) ∧ Below w.heap.size w w' := by
  have HR := Lib.hid hr
  have HN := Lib.hid hn
  have h10 := dig_len10 hv
  obtain ⟨d, hd⟩ : ∃ d, (dig v).length = d := ⟨_, rfl⟩
  rw [hd] at h10 ⊢
  have HD := Lib.hid hd
  clear hr hn hd
  go_enter Try.func8, Try.ntmps8
  go_wp2_with (first
    | (at_builtin
       refine wpList_app rfl (.tmp 6) (.tmp 7) _ rfl elU8 w.heap.size (.slice none 0 0) 0 [] rfl (World.ownsRow_nil _ _ _ _) A n c (bs l) rfl (by rw [bs_length]; exact HN.out) HR.out (bs_one l) (by unfold maxLen; omega) (by omega) (Nat.le_refl _) ?_
       intro v2 w2 hown2 hg2 hat2
       have hb2 := (Below.refl w.heap.size w).grown hg2 (Nat.le_refl _) (fun k hk => by simp [Value.ownBlock] at hk)
       have HO2 := Lib.hid hown2
       have HB2 := Lib.hid hb2
       clear hown2 hg2 hat2 hb2))
  refine (number_n v w2 hv).mono ?_
  rintro e w3 ⟨x3, rfl, hown3, hb3⟩
  rw [HD.out] at hown3
  obtain ⟨A3, c3, rfl, _, _, _, hR3, _⟩ := owns_form hown3
  have HR3 := Lib.hid hR3
  have hbs := HB2.out.size
  have hO3 : w3.ownsRow w.heap.size 5 1 v2 (0 + n) ([] ++ bs l) := owns_below HO2.out hb3
  have HO3 := Lib.hid hO3
  have HB3 := Lib.hid (HB2.out.trans (hb3.mono hbs))
  have hbs3 := HB3.out.size
  clear hown3 hb3 hR3 hO3
  go_wp2_with (first
    | (at_builtin
       refine wpList_app rfl (.tmp 8) (.tmp 10) _ rfl elU8 w.heap.size v2 (0 + n) ([] ++ bs l) rfl HO3.out A3 d c3 (bs (dig v)) rfl (by rw [bs_length]; exact HD.out) HR3.out (bs_one _) (by unfold maxLen; omega) (by omega) hbs3 ?_
       intro v4 w4 hown4 hg4 hat4
       have HO4 := Lib.hid hown4
       have HB4 := Lib.hid (HB3.out.grown hg4 hbs3 (fun j hj => owns_block HO3.out j hj))
       clear hown4 hg4 hat4))
  go_ret
  refine ⟨_, rfl, ?_, HB4.out⟩
  have h := HO4.out
  rw [List.nil_append, ← bs_append, Nat.zero_add] at h
  exact h
set_option maxHeartbeats 400000 in
theorem code_n (x : Int) (w : World) (h0 : -9223372036854775808 ≤ x) (h1 : x ≤ 9223372036854775807) :
    Calls Try.prog 10 #[.int .i64 x] w fun e w' => e = .returned (.int .u64 (enc x : Nat)) ∧ w = w' := by
  rcases Int.lt_or_le x 0 with h | h
  · have e1 : (enc x : Int) = 2 * (-x - 1) + 1 := by unfold enc; rw [if_pos h]; omega
    have HE := Lib.hid e1
    clear e1
    go_enter Try.func10, Try.ntmps10
    go_wp2_with fail
    go_ret
    refine ⟨?_, rfl⟩
    rw [HE.out]
    refine congrArg Ending.returned (congrArg (Value.int IntKind.u64) ?_)
    omega
  · have e1 : (enc x : Int) = 2 * x := by unfold enc; rw [if_neg (by omega)]; omega
    have HE := Lib.hid e1
    clear e1
    go_enter Try.func10, Try.ntmps10
    go_wp2_with fail
    go_ret
    refine ⟨?_, rfl⟩
    rw [HE.out]
    rfl
end Go.Proofs.Ytkhlmlmbgfnolaa

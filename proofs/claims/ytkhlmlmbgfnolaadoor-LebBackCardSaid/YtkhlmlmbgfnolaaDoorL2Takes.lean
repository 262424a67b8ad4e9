/- LebTakes' walk. -/
import Derived.Test.YtkhlmlmbgfnolaaDoorL2Num
import Derived.Test.YtkhlmlmbgfnolaaDoorRefTake
namespace Go.Proofs.YtkhlmlmbgfnolaaDoor
open Go.RowKit

theorem left_err {l : List UInt8} {k : Nat} (ht : tk l = (k, 0, 0)) (hk : 0 < k) : left l = [] := by unfold left; rw [ht, if_neg (by simp; omega)]
theorem left_ok {l : List UInt8} {v j : Nat} (ht : tk l = (0, v, j)) : left l = l.drop j := by unfold left; rw [ht]; exact if_pos rfl
set_option maxRecDepth 100000 in
set_option maxHeartbeats 2000000 in
theorem takes_core (A : Option Addr) (n c k v q : Nat) (x : Int) (l r : List UInt8) (p : ByteArray) (w : World) (hg : ErrT w) (hr : Rd w A (bs l)) (_ : l.length = n) (h4 : n ≤ 4000) (hq : r.length = q) (hp : str r = p) (hv : v < 18446744073709551616)
    (hT : ∀ W, Rd W A (bs l) → Calls Tryd.prog 7 #[.slice A n c] W fun e w' => ∃ A' c', e = .returned (.tuple #[.int .u64 v, .slice A' q c', errV k]) ∧ Rd w' A' (bs r) ∧ Below W.heap.size W w')
    (hF : ∀ W, Rd W A (bs l) → Calls Tryd.prog 8 #[.slice A n c] W fun e w' => ∃ A' c', e = .returned (.tuple #[.int .u64 v, .slice A' q c', .int .i64 k]) ∧ Rd w' A' (bs r) ∧ Below W.heap.size W w')
    (hI : ∀ W, Rd W A (bs l) → Calls Tryd.prog 9 #[.slice A n c] W fun e w' => ∃ A' c', e = .returned (.tuple #[.int .i64 x, .slice A' q c', errV k]) ∧ Rd w' A' (bs r) ∧ Below W.heap.size W w')
    (hx : (0 < k ∧ x = 0) ∨ (k = 0 ∧ x = dec v)) :
    Calls Tryd.prog 3 #[.slice A n c] w fun e w' => e = .returned (.bool true) ∧ Below w.heap.size w w' := by
  have HG := Lib.hid hg
  have HR := Lib.hid hr
  have HT := Lib.hid hT
  have HF := Lib.hid hF
  have HI := Lib.hid hI
  have CV : ∀ (W : World) (X : Option Addr) (cc : Nat), Rd W X (bs r) → (convert 22 9 (.slice X q cc)).run Tryd.prog W = .ok (.string p) W := fun W X cc hR => by
    rw [← hp]
    exact run_conv_str (P := Tryd.prog) Tryd.underlying22 Tryd.underlying5 Tryd.underlying9 hq hR
  have HCV := Lib.hid CV
  have HX := Lib.hid hx
  obtain ⟨ek, hek⟩ : ∃ ek, errV k = ek := ⟨_, rfl⟩
  have HN : Hid (∀ W, ErrT W → Calls Tryd.prog 10 #[ek] W fun e w' => e = .returned (.int .i64 k) ∧ Below W.heap.size W w') := by
    rw [← hek]
    exact fun W hW => num_errV k W hW
  rw [hek] at HT HI
  clear hg hr hT hF hI CV hq hp hx hek
  go_enter Tryd.func3, Tryd.ntmps3
  go_wp2_with fail
  refine (HT.out w HR.out).mono ?_
  rintro e w1 ⟨A1, c1, rfl, hR1, hb1⟩
  have HB1 := Lib.hid hb1
  have HR1 := Lib.hid hR1
  clear hb1 hR1
  go_wp2_with fail
  refine (HF.out w1 (HR.out.below HB1.out)).mono ?_
  rintro e w2 ⟨A2, c2, rfl, hR2, hb2⟩
  have HB2 := Lib.hid (HB1.out.trans (hb2.mono HB1.out.size))
  have HR1' := Lib.hid (HR1.out.below hb2)
  have HR2 := Lib.hid hR2
  clear hb2 hR2 HR1
  go_wp2_with fail
  refine (HI.out w2 (HR.out.below HB2.out)).mono ?_
  rintro e w3 ⟨A3, c3, rfl, hR3, hb3⟩
  have HB3 := Lib.hid (HB2.out.trans (hb3.mono HB2.out.size))
  have HR1 := Lib.hid (HR1'.out.below hb3)
  have HR2' := Lib.hid (HR2.out.below hb3)
  have HR3 := Lib.hid hR3
  clear hb3 hR3 HR1' HR2
  go_wp2_with fail
  refine (HN.out w3 (HG.out.below HB3.out)).mono ?_
  rintro e w4 ⟨rfl, hb4⟩
  have HB4 := Lib.hid (HB3.out.trans (hb4.mono HB3.out.size))
  have HR1' := Lib.hid (HR1.out.below hb4)
  have HR2 := Lib.hid (HR2'.out.below hb4)
  have HR3' := Lib.hid (HR3.out.below hb4)
  clear hb4 HR1 HR2' HR3
  go_wp2_with fail
  refine (HN.out w4 (HG.out.below HB4.out)).mono ?_
  rintro e w5 ⟨rfl, hb5⟩
  have HB5 := Lib.hid (HB4.out.trans (hb5.mono HB4.out.size))
  have cv1 := HCV.out w5 A1 c1 (HR1'.out.below hb5)
  have cv2 := HCV.out w5 A2 c2 (HR2.out.below hb5)
  have cv3 := HCV.out w5 A3 c3 (HR3'.out.below hb5)
  clear hb5
  rcases HX.out with ⟨hk, hx⟩ | ⟨hk, hx⟩
  · subst hx
    have hk0 : ¬ (k : Int) = 0 := by omega
    have hk1 : ((k : Int) != 0) = true := bne_iff_ne.2 hk0
    clear hk
    go_wp2_with fail
    refine (sure_any w5).mono ?_
    rintro e w6 ⟨rfl, hb6⟩
    have HB6 := Lib.hid (HB5.out.trans (hb6.mono HB5.out.size))
    clear hb6
    go_wp2_with fail
    go_ret
    exact ⟨rfl, HB6.out⟩
  · subst hk
    subst hx
    go_wp2_with fail
    refine (sign_n v w5 hv).mono ?_
    rintro e w6' ⟨rfl, rfl⟩
    generalize dec v = x at *
    go_wp2_with fail
    refine (sure_any w5).mono ?_
    rintro e w6 ⟨rfl, hb6⟩
    have HB6 := Lib.hid (HB5.out.trans (hb6.mono HB5.out.size))
    clear hb6
    go_wp2_with fail
    go_ret
    exact ⟨rfl, HB6.out⟩
theorem takes_any (A : Option Addr) (c : Nat) (l : List UInt8) (w : World) (hg : ErrT w) (hr : Rd w A (bs l)) (hc : l.length ≤ c) (_ : c ≤ maxLen) :
    Calls Tryd.prog 3 #[.slice A l.length c] w fun e w' => e = .returned (.bool true) ∧ Below w.heap.size w w' := by
  rcases Nat.lt_or_ge 4000 l.length with h | h
  · clear hg hr
    go_enter Tryd.func3, Tryd.ntmps3
    go_wp2_with fail
    refine (sure_any w).mono ?_
    rintro e w2 ⟨rfl, hb2⟩
    go_wp2_with fail
    go_ret
    exact ⟨rfl, hb2⟩
  · have key : ∀ k v : Nat, (tk l).1 = k → (tk l).2.1 = v → ∀ W, Rd W A (bs l) → Calls Tryd.prog 8 #[.slice A l.length c] W fun e w' => ∃ A' c', e = .returned (.tuple #[.int .u64 v, .slice A' (left l).length c', .int .i64 k]) ∧ Rd w' A' (bs (left l)) ∧ Below W.heap.size W w' := by
      rintro k v rfl rfl W hW
      refine (reftake_n A l.length c l W rfl hW hc (by omega)).mono ?_
      rintro e w' ⟨A', c', rfl, hR, _, hb⟩
      exact ⟨A', c', rfl, hR, hb⟩
    have errs : ∀ k : Nat, 0 < k → tk l = (k, 0, 0) → Calls Tryd.prog 3 #[.slice A l.length c] w fun e w' => e = .returned (.bool true) ∧ Below w.heap.size w w' := by
      intro k hk ht
      have hl := left_err ht hk
      refine takes_core A l.length c k 0 (left l).length 0 l (left l) _ w hg hr rfl h rfl rfl (by omega) ?_ (key k 0 (by rw [ht]) (by rw [ht])) ?_ (.inl ⟨hk, rfl⟩)
      · intro W hW
        refine (take_err A l.length c k l W rfl hW hc (by omega) ht hk).mono ?_
        rintro e w' ⟨rfl, hb⟩
        exact ⟨none, 0, by rw [hl, errV_pos k hk]; rfl, by rw [hl]; exact Rd.nil, hb⟩
      · intro W hW
        refine (takeInt_err A l.length c k l W rfl hW hc (by omega) ht hk).mono ?_
        rintro e w' ⟨rfl, hb⟩
        exact ⟨none, 0, by rw [hl, errV_pos k hk]; rfl, by rw [hl]; exact Rd.nil, hb⟩
    rcases tk_cases l with ⟨v, j, ht, hv, hj, _, _, _⟩ | ht | ht
    · have hl := left_ok ht
      refine takes_core A l.length c 0 v (l.length - j) (dec v) l (left l) _ w hg hr rfl h (by rw [hl, List.length_drop]) rfl hv ?_ ?_ ?_ (.inr ⟨rfl, rfl⟩)
      · intro W hW
        refine (take_ok A l.length c v j l W rfl hW hc (by omega) ht hj).mono ?_
        rintro e w' ⟨A', c', rfl, hR, _, hb⟩
        exact ⟨A', c', rfl, by rw [hl]; exact hR, hb⟩
      · have := key 0 v (by rw [ht]) (by rw [ht])
        rw [show (left l).length = l.length - j by rw [hl, List.length_drop]] at this
        exact this
      · intro W hW
        refine (takeInt_ok A l.length c v j l W rfl hW hc (by omega) ht hj hv).mono ?_
        rintro e w' ⟨A', c', rfl, hR, _, hb⟩
        exact ⟨A', c', rfl, by rw [hl]; exact hR, hb⟩
    · exact errs 3 (by omega) ht
    · exact errs 4 (by omega) ht
end Go.Proofs.YtkhlmlmbgfnolaaDoor

/- CrcNested's walk. -/
import Derived.Test.YtbemloijgabfcaaDoorL1Sure
namespace Go.Proofs.YtbemloijgabfcaaDoor
open Go.RowKit

/-- Four bytes or more, opened: what is ahead of the sum, or its error. -/
theorem open_any (A : Option Addr) (n k c : Nat) (l : List UInt8) (w : World) (hk : k = n + 4) (ht : Tab w) (hr : Rd w A (bs l)) (hn : l.length = n + 4) (hm : n + 4 ≤ 1000000) (hc : n + 4 ≤ c) :
    Calls Tryd.prog 14 #[.slice A k c] w fun e w' => Below w.heap.size w w' ∧ ((∃ v, e = .returned (.tuple #[v, .nilIface])) ∨ e = .returned (.tuple #[.slice none 0 0, .iface 43 (.int .i64 6)])) := by
  subst hk
  obtain ⟨ad, rfl, _⟩ := hr (by rw [bs_length]; omega)
  by_cases h : l.drop n = le4 (more 0 (l.take n))
  · refine (open_good ad n c l w ht hr hn hm hc h).mono ?_
    rintro e w' ⟨v, rfl, _, hb⟩
    exact ⟨hb, .inl ⟨v, rfl⟩⟩
  · refine (open_bad ad n c l w ht hr hn (by unfold maxLen; omega) hc h).mono ?_
    rintro e w' ⟨rfl, hb⟩
    exact ⟨hb, .inr rfl⟩

set_option maxRecDepth 100000 in
set_option maxHeartbeats 4000000 in
theorem nested_core (A : Option Addr) (n c : Nat) (l : List UInt8) (x : UInt8) (w : World) (ht : Tab w) (hg : ErrT w) (hr : Rd w A (bs l)) (hn : l.length = n) (h4 : n ≤ 4000) :
    Calls Tryd.prog 8 #[.slice A n c, .int .u8 (x.toNat : Int)] w fun e w' => e = .returned (.bool true) ∧ Below w.heap.size w w' := by
  have HT := Lib.hid ht
  have HG := Lib.hid hg
  have HR := Lib.hid hr
  have HN := Lib.hid hn
  have hs1 : (sealed l).length = n + 4 := by rw [seal_length, hn]
  have HS1 := Lib.hid hs1
  have CV : ∀ (W : World) (X : Option Addr) (j cc : Nat) (q : List UInt8), q.length = j → Rd W X (bs q) → (convert 22 9 (.slice X j cc)).run Tryd.prog W = .ok (.string (str q)) W := fun W X j cc q hj hR =>
    run_conv_str (P := Tryd.prog) Tryd.underlying22 Tryd.underlying5 Tryd.underlying9 hj hR
  have HCV := Lib.hid CV
  clear ht hg hr hn hs1 CV
  have hx := x.toNat_lt
  have HX : Hid (bs [x] = [.int .u8 (x.toNat : Int)]) := rfl
  generalize hxv : x.toNat = xv at *
  have HXV := Lib.hid hxv
  clear hxv
  go_enter Tryd.func8, Tryd.ntmps8
  go_wp2_with fail
  refine (seal_n A n c l _ HN.out HT.out HR.out (by omega)).mono ?_
  rintro e w1 ⟨v1, rfl, hown1, hb1⟩
  obtain ⟨A1, c1, rfl, _, _, _, hR1, _⟩ := owns_form hown1
  have HB1 := Lib.hid hb1
  have HR1 := Lib.hid hR1
  clear hown1 hb1 hR1
  go_wp2_with fail
  refine (seal_n A1 (n + 4) c1 (sealed l) _ HS1.out (HT.out.below HB1.out) HR1.out (by omega)).mono ?_
  rintro e w2 ⟨v2, rfl, hown2, hb2⟩
  obtain ⟨A2, c2, rfl, hc2, _, _, hR2, _⟩ := owns_form hown2
  have HB2 := Lib.hid (HB1.out.trans (hb2.mono HB1.out.size))
  have HR2 := Lib.hid hR2
  clear hown2 hb2 hR2
  go_wp2_with fail
  refine (open_sealed A2 (n + 4 + 4) c2 (sealed l) _ (by rw [HS1.out]) (HT.out.below HB2.out) HR2.out (by omega) hc2).mono ?_
  rintro e w3 ⟨v3, rfl, hown3, hb3⟩
  rw [HS1.out] at hown3
  obtain ⟨A3, c3, rfl, hc3, _, _, hR3, _⟩ := owns_form hown3
  have HB3 := Lib.hid (HB2.out.trans (hb3.mono HB2.out.size))
  have HR3 := Lib.hid hR3
  clear hown3 hb3 hR3
  go_wp2_with fail
  refine (open_sealed A3 (n + 4) c3 l _ (by rw [HN.out]) (HT.out.below HB3.out) HR3.out (by omega) hc3).mono ?_
  rintro e w4 ⟨v4, rfl, hown4, hb4⟩
  rw [HN.out] at hown4
  obtain ⟨A4, c4, rfl, hc4, _, _, hR4, _⟩ := owns_form hown4
  have HB4 := Lib.hid (HB3.out.trans (hb4.mono HB3.out.size))
  have cv4 := HCV.out w4 A4 n c4 l HN.out hR4
  have cv5 := HCV.out w4 A n c l HN.out (HR.out.below HB4.out)
  clear hown4 hb4 hR4
  go_wp2_with fail
  refine (seal_n A n c l _ HN.out (HT.out.below HB4.out) (HR.out.below HB4.out) (by omega)).mono ?_
  rintro e w5 ⟨v5, rfl, hown5, hb5⟩
  obtain ⟨A5, c5, rfl, hc5, _, _, hR5, _⟩ := owns_form hown5
  have HB5 := Lib.hid (HB4.out.trans (hb5.mono HB4.out.size))
  have HR5 := Lib.hid hR5
  have hz5 := HB5.out.size
  clear hown5 hb5 hR5 cv4 cv5
  go_wp2_with (first
    | (at_builtin
       refine wpList_app rfl (.tmp 56) (.tmp 57) _ rfl elU8 w.heap.size (.slice none 0 0) 0 [] rfl (World.ownsRow_nil _ _ _ _) A5 (n + 4) c5 (bs (sealed l)) rfl (by rw [bs_length]; exact HS1.out) HR5.out (bs_one _) (by unfold maxLen; omega) (by omega) HB5.out.size ?_
       intro v6 w6 hown6 hg6 hat6
       have HO6 := Lib.hid hown6
       have HB6 := Lib.hid (HB5.out.grown hg6 hz5 (fun k hk => by simp [Value.ownBlock] at hk))
       have hz6 := HB6.out.size
       clear hown6 hg6 hat6)
    | (at_builtin
       refine wpList_app rfl (.tmp 58) (.tmp 60) _ rfl elU8 w.heap.size v6 (0 + (n + 4)) ([] ++ bs (sealed l)) rfl (HO6.out.alloc _) (some ⟨w6.heap.size, 0, none⟩) 1 1 (bs [x]) rfl rfl ?rd (bs_one _) (by unfold maxLen; omega) (by omega) (by simp; omega) ?_
       case rd =>
         rw [HX.out]
         exact Rd.block (cs := #[.int .u8 (xv : Int)]) (heap_alloc_new _ _)
       intro v7 w7 hown7 hg7 hat7
       have HO7 := Lib.hid hown7
       have HB7 := Lib.hid ((HB6.out.alloc hz6 (.cells #[.int .u8 (xv : Int)] 5)).grown hg7 (by simp; omega) (fun k hk => owns_block HO6.out k hk))
       have hz7 := HB7.out.size
       clear hown7 hg7 hat7
       obtain ⟨A7, c7, rfl, hc7, _, _, hR7, _⟩ := owns_form HO7.out
       have HR7 : Hid (Rd w7 A7 (bs (sealed l ++ [x]))) := by
         unfold Hid
         rw [bs_append]
         exact hR7
       clear hR7))
  refine (open_any A7 (n + 1) _ c7 (sealed l ++ [x]) _ (by omega) (HT.out.below HB7.out) HR7.out (by rw [List.length_append, HS1.out]; rfl) (by omega) (by omega)).mono ?_
  have hcut : (sealed l ++ [x]).take (n + 4) = sealed l := by rw [← HS1.out]; exact List.take_left
  have HR7' : Hid (Rd w7 A7 (bs (sealed l))) := by
    have h := HR7.out.take (k := n + 4)
    rw [bs_take, hcut] at h
    exact h
  clear hcut
  have i0 : (0 : Int) ≤ (n : Int) + 4 := by omega
  have i1 : (n : Int) + 4 ≤ (c7 : Int) := by omega
  rintro e w8 ⟨hb8, ⟨v8, rfl⟩ | rfl⟩
  all_goals
    have HB8 := Lib.hid (HB7.out.trans (hb8.mono HB7.out.size))
    have HR8 := Lib.hid (HR7'.out.below hb8)
    clear hb8
    go_wp2_with fail
    refine (open_sealed A7 (n + 4) c7 l _ (by rw [HN.out]) (HT.out.below HB8.out) HR8.out (by omega) (by omega)).mono ?_
    rintro e w9 ⟨v9, rfl, hown9, hb9⟩
    rw [HN.out] at hown9
    obtain ⟨A9, c9, rfl, hc9, _, _, hR9, _⟩ := owns_form hown9
    have HB9 := Lib.hid (HB8.out.trans (hb9.mono HB8.out.size))
    have HR9 := Lib.hid hR9
    have cv8 := HCV.out w9 A9 n c9 l HN.out hR9
    have cv9 := HCV.out w9 A n c l HN.out (HR.out.below HB9.out)
    clear hown9 hb9 hR9
    go_wp2_with (first
      | (go_at_call 18
         refine (num_err 6 _ (HG.out.below HB9.out)).mono ?_
         rintro e w10 ⟨rfl, hb10⟩
         have HB10 := Lib.hid (HB9.out.trans (hb10.mono HB9.out.size))
         have cv6 := HCV.out w10 A9 n c9 l HN.out (HR9.out.below hb10)
         have cv7 := HCV.out w10 A n c l HN.out (HR.out.below HB10.out)
         clear hb10)
      | (go_at_call 10
         refine (sure_any _ (HT.out.below HB10.out)).mono ?_
         rintro e w11 ⟨rfl, hb11⟩
         have HB11 := Lib.hid (HB10.out.trans (hb11.mono HB10.out.size))
         clear hb11)
      | (go_at_call 10
         refine (sure_any _ (HT.out.below HB9.out)).mono ?_
         rintro e w11 ⟨rfl, hb11⟩
         have HB11 := Lib.hid (HB9.out.trans (hb11.mono HB9.out.size))
         clear hb11))
    go_ret
    exact ⟨rfl, HB11.out⟩

theorem nested_any (A : Option Addr) (c : Nat) (l : List UInt8) (x : Int) (w : World) (ht : Tab w) (hg : ErrT w) (hr : Rd w A (bs l)) (_ : l.length ≤ c) (_ : c ≤ maxLen) (hx : 0 ≤ x ∧ x ≤ 255) :
    Calls Tryd.prog 8 #[.slice A l.length c, .int .u8 x] w fun e w' => e = .returned (.bool true) ∧ Below w.heap.size w w' := by
  obtain ⟨y, rfl⟩ : ∃ y : UInt8, x = (y.toNat : Int) := ⟨UInt8.ofNat x.toNat, by rw [UInt8.toNat_ofNat']; omega⟩
  rcases Nat.lt_or_ge 4000 l.length with h | h
  · have HT := Lib.hid ht
    clear ht hg hr
    go_enter Tryd.func8, Tryd.ntmps8
    go_wp2_with fail
    refine (sure_any _ HT.out).mono ?_
    rintro e w2 ⟨rfl, hb2⟩
    go_wp2_with fail
    go_ret
    exact ⟨rfl, hb2⟩
  · exact nested_core A l.length c l y w ht hg hr rfl h
end Go.Proofs.YtbemloijgabfcaaDoor

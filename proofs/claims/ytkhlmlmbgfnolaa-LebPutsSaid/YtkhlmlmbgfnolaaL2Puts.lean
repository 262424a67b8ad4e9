/- LebPuts' walk. -/
import Derived.Test.YtkhlmlmbgfnolaaRefPut
import Derived.Test.YtkhlmlmbgfnolaaGrow
namespace Go.Proofs.Ytkhlmlmbgfnolaa
open Go.RowKit

/-- A new slice, as a walk takes it. -/
theorem new_slice {w w' : World} {v : Value} {n : Nat} {l : List UInt8} (P : Program) (tb ts : TypeId) (e : TypeId) (hs : P.underlying tb = some (.slice e)) (he : P.underlying e = some (.int .u8)) (hd : P.underlying ts = some .string)
    (h : w'.ownsRow w.heap.size e 1 v n (bs l)) (hn : l.length = n) :
    ∃ A c, v = .slice A n c ∧ Rd w' A (bs l) ∧ ∀ W : World, Rd W A (bs l) → (convert tb ts (.slice A n c)).run P W = .ok (.string (str l)) W := by
  obtain ⟨A, c, rfl, _, _, _, hR, _⟩ := owns_form h
  exact ⟨A, c, rfl, hR, fun W hW => run_conv_str (P := P) hs he hd hn hW⟩

set_option maxRecDepth 100000 in
set_option maxHeartbeats 40000000 in
theorem puts_core (A : Option Addr) (n c v m e d1 d2 d3 : Nat) (x : Int) (l : List UInt8) (s p0 p1 p2 p3 p4 : ByteArray) (w : World) (hr : Rd w A (bs l)) (hl : l.length = n) (h4 : n ≤ 4000) (hs : s.size = m) (h5 : m ≤ 4000)
    (hv : v < 18446744073709551616) (hx : IntKind.i64.wrap (v : Int) = x) (x0 : -9223372036854775808 ≤ x) (x1 : x ≤ 9223372036854775807) (he : enc x = e) (hd1 : (dig v).length = d1) (hd2 : (dig e).length = d2) (hd3 : (dig m).length = d3)
    (hp0 : str l = p0) (hp1 : str (l ++ dig v) = p1) (hp2 : str (l ++ dig e) = p2) (hp3 : str (l ++ dig m) = p3) (hp4 : str (l ++ dig m ++ s.toList) = p4) (hq : (p4.toList == (p3 ++ s).toList) = true) (hps : ¬ 9223372036854775807 < p3.size + m) :
    Calls Try.prog 3 #[.slice A n c, .int .u64 v, .string s] w fun e w' => e = .returned (.bool true) ∧ Below w.heap.size w w' := by
  have he64 : e < 18446744073709551616 := by rw [← he]; exact enc_lt x x0 x1
  have hwm : IntKind.u64.wrap (m : Int) = (m : Int) := by
    simp only [IntKind.wrap, IntKind.bits, IntKind.signed]
    simp
    omega
  have HR := Lib.hid hr
  have HL := Lib.hid hl
  have HE := Lib.hid he
  have HS := Lib.hid hs
  have HSL : Hid (s.toList.length = m) := by
    unfold Hid
    rw [← hs, ByteArray.toList_eq]
    rfl
  have P0 := Lib.hid hp0
  have P1 := Lib.hid hp1
  have P2 := Lib.hid hp2
  have P3 := Lib.hid hp3
  have P4 := Lib.hid hp4
  have HD1 := Lib.hid hd1
  have HD2 := Lib.hid hd2
  have HD3 := Lib.hid hd3
  have CV : ∀ W : World, Rd W A (bs l) → (convert 22 9 (.slice A n c)).run Try.prog W = .ok (.string p0) W := fun W hR => by
    rw [← P0.out]
    exact run_conv_str (P := Try.prog) Try.underlying22 Try.underlying5 Try.underlying9 hl hR
  have HCV := Lib.hid CV
  have cv0 := CV w hr
  clear CV hr hl he hd1 hd2 hd3 hp0 hp1 hp2 hp3 hp4
  go_enter Try.func3, Try.ntmps3
  go_wp2_with fail
  go_region_held3 (fun _ => True) (first | trivial | exact ⟨Below.refl _ _, cvk⟩ | exact cvl) (first
    | (go_at_call 7
       refine (put_n A n c l v _ HL.out HR.out.drew hv (by omega)).mono ?_
       rintro e' w3 ⟨v3, rfl, hown, hb⟩
       rw [HD1.out] at hown
       obtain ⟨A1, c1, rfl, hR, hC⟩ := new_slice Try.prog 22 9 5 Try.underlying22 Try.underlying5 Try.underlying9 hown (by rw [List.length_append, HL.out, HD1.out])
       have HB3 := Lib.hid ((Below.refl _ w).drew.trans hb)
       rw [P1.out] at hC
       have HS3 := Lib.hid hR
       have HC3 := Lib.hid hC
       have HX3 := Lib.hid hb
       have cvk := hC w3 hR
       clear hown hR hC hb
       go_wp2_with fail
       obtain ⟨K2, heq, hG⟩ := shut_grow (fun W => Below w3.heap.size w3 W ∧ (convert 22 9 (.slice A1 (n + d1) c1)).run Try.prog W = .ok (.string p1) W) (by assumption) (fun _ _ => trivial)
       refine hG _ _ ?_
       clear hG
       simp only [heq] at *)
    | (go_at_call 8
       with_reducible refine (refput_n A n c l v _ HL.out ?_ hv (by omega)).mono ?_
       · exact HR.out.below HB3.out
       rintro e' w4 ⟨v4, rfl, hown, hb⟩
       rw [HD1.out] at hown
       obtain ⟨A2, c2, rfl, hR, hC⟩ := new_slice Try.prog 22 9 5 Try.underlying22 Try.underlying5 Try.underlying9 hown (by rw [List.length_append, HL.out, HD1.out])
       have HB4 := Lib.hid (HB3.out.trans (hb.mono HB3.out.size))
       rw [P1.out] at hC
       have HS4 := Lib.hid hR
       have HC4 := Lib.hid hC
       have HX4 := Lib.hid hb
       have cvk := hC w4 hR
       clear hown hR hC hb
       go_wp2_with fail
       obtain ⟨K2, heq, hG⟩ := shut_grow (fun W => Below w4.heap.size w4 W ∧ (convert 22 9 (.slice A2 (n + d1) c2)).run Try.prog W = .ok (.string p1) W) (by assumption) (by intro W hW; exact ⟨(HX4.out).trans (hW.1.mono HX4.out.size), HC3.out W ((HS3.out.below HX4.out).below hW.1)⟩)
       refine hG _ _ ?_
       clear hG
       simp only [heq] at *)
    | (go_at_call 9
       refine (putInt_n A n c l x _ HL.out ?_ x0 x1 (by omega)).mono ?_
       · exact HR.out.below HB4.out
       rintro e' w5 ⟨v5, rfl, hown, hb⟩
       rw [HE.out, HD2.out] at hown
       obtain ⟨A3, c3, rfl, hR, hC⟩ := new_slice Try.prog 22 9 5 Try.underlying22 Try.underlying5 Try.underlying9 hown (by rw [List.length_append, HL.out, HD2.out])
       have HB5 := Lib.hid (HB4.out.trans (hb.mono HB4.out.size))
       rw [P2.out] at hC
       have HS5 := Lib.hid hR
       have HC5 := Lib.hid hC
       have HX5 := Lib.hid hb
       have cvk := hC w5 hR
       clear hown hR hC hb
       go_wp2_with fail
       obtain ⟨K2, heq, hG⟩ := shut_grow (fun W => Below w5.heap.size w5 W ∧ (convert 22 9 (.slice A3 (n + d2) c3)).run Try.prog W = .ok (.string p2) W) (by assumption) (by intro W hW; exact ⟨(HX5.out).trans (hW.1.mono HX5.out.size), HC4.out W ((HS4.out.below HX5.out).below hW.1)⟩)
       refine hG _ _ ?_
       clear hG
       simp only [heq] at *)
    | (go_at_call 10
       refine (code_n x _ x0 x1).mono ?_
       rintro e' w5' ⟨he', rfl⟩
       rw [HE.out] at he'
       subst he')
    | (go_at_call 8
       with_reducible refine (refput_n A n c l e _ HL.out ?_ he64 (by omega)).mono ?_
       · exact HR.out.below HB5.out
       rintro e' w6 ⟨v6, rfl, hown, hb⟩
       rw [HD2.out] at hown
       obtain ⟨A4, c4, rfl, hR, hC⟩ := new_slice Try.prog 22 9 5 Try.underlying22 Try.underlying5 Try.underlying9 hown (by rw [List.length_append, HL.out, HD2.out])
       have HB6 := Lib.hid (HB5.out.trans (hb.mono HB5.out.size))
       rw [P2.out] at hC
       have HS6 := Lib.hid hR
       have HC6 := Lib.hid hC
       have HX6 := Lib.hid hb
       have cvk := hC w6 hR
       clear hown hR hC hb
       go_wp2_with fail
       obtain ⟨K2, heq, hG⟩ := shut_grow (fun W => Below w6.heap.size w6 W ∧ (convert 22 9 (.slice A4 (n + d2) c4)).run Try.prog W = .ok (.string p2) W) (by assumption) (by intro W hW; exact ⟨(HX6.out).trans (hW.1.mono HX6.out.size), HC5.out W ((HS5.out.below HX6.out).below hW.1)⟩)
       refine hG _ _ ?_
       clear hG
       simp only [heq] at *)
    | (go_at_call 11
       refine (putText_n A n c l s _ HL.out ?_ (by omega) (by omega)).mono ?_
       · exact HR.out.below HB6.out
       rintro e' w7 ⟨v7, rfl, hown, hb⟩
       rw [HS.out, HD3.out] at hown
       obtain ⟨A5, c5, rfl, hR, hC⟩ := new_slice Try.prog 22 9 5 Try.underlying22 Try.underlying5 Try.underlying9 hown (by rw [List.length_append, List.length_append, HL.out, HD3.out, HSL.out])
       have HB7 := Lib.hid (HB6.out.trans (hb.mono HB6.out.size))
       rw [P4.out] at hC
       have HS7 := Lib.hid hR
       have HC7 := Lib.hid hC
       have HX7 := Lib.hid hb
       have cvk := hC w7 hR
       clear hown hR hC hb
       go_wp2_with fail
       obtain ⟨K2, heq, hG⟩ := shut_grow (fun W => Below w7.heap.size w7 W ∧ (convert 22 9 (.slice A5 (n + d3 + m) c5)).run Try.prog W = .ok (.string p4) W) (by assumption) (by intro W hW; exact ⟨(HX7.out).trans (hW.1.mono HX7.out.size), HC6.out W ((HS6.out.below HX7.out).below hW.1)⟩)
       refine hG _ _ ?_
       clear hG
       simp only [heq] at *)
    | (go_at_call 8
       with_reducible refine (refput_n A n c l m _ HL.out ?_ (by omega) (by omega)).mono ?_
       · exact HR.out.below HB7.out
       rintro e' w8 ⟨v8, rfl, hown, hb⟩
       rw [HD3.out] at hown
       obtain ⟨A6, c6, rfl, hR, hC⟩ := new_slice Try.prog 22 9 5 Try.underlying22 Try.underlying5 Try.underlying9 hown (by rw [List.length_append, HL.out, HD3.out])
       have HB8 := Lib.hid (HB7.out.trans (hb.mono HB7.out.size))
       rw [P3.out] at hC
       have HS8 := Lib.hid hR
       have HC8 := Lib.hid hC
       have HX8 := Lib.hid hb
       have cvk := And.intro (hC w8 hR) (HCV.out w8 (HR.out.below HB8.out))
       clear hown hR hC hb
       go_wp2_with fail
       obtain ⟨K2, heq, hG⟩ := shut_grow (fun W => Below w8.heap.size w8 W ∧ (convert 22 9 (.slice A6 (n + d3) c6)).run Try.prog W = .ok (.string p3) W ∧ (convert 22 9 (.slice A n c)).run Try.prog W = .ok (.string p0) W) (by assumption) (by intro W hW; exact ⟨(HX8.out).trans (hW.1.mono HX8.out.size), HC7.out W ((HS7.out.below HX8.out).below hW.1)⟩)
       refine hG _ _ ?_
       clear hG
       simp only [heq] at *)
    | (go_at_call 6
       refine (sure_any _).mono ?_
       rintro e' w9 ⟨rfl, hb⟩
       have HB9 := Lib.hid (HB8.out.trans (hb.mono HB8.out.size))
       have cvl := And.intro hb (And.intro (HC8.out w9 (HS8.out.below hb)) (HCV.out w9 (HR.out.below HB9.out)))
       clear hb))
  all_goals
    go_wp2_with fail
    go_ret
    exact ⟨rfl, HB9.out⟩
theorem toList_app (l : List UInt8) (s : ByteArray) : (str l ++ s).toList = l ++ s.toList := by
  rw [ByteArray.toList_eq, ByteArray.toList_eq]
  simp [str, ByteArray.data_append]
theorem wrap_bounds (v : Int) : -9223372036854775808 ≤ IntKind.i64.wrap v ∧ IntKind.i64.wrap v ≤ 9223372036854775807 := by
  simp only [IntKind.wrap, IntKind.bits, IntKind.signed]
  simp
  omega
theorem puts_any (A : Option Addr) (c : Nat) (l : List UInt8) (v : Int) (s : ByteArray) (w : World) (hr : Rd w A (bs l)) (_ : l.length ≤ c) (_ : c ≤ maxLen) (hv : 0 ≤ v ∧ v ≤ 18446744073709551615) (_ : s.size ≤ maxLen) :
    Calls Try.prog 3 #[.slice A l.length c, .int .u64 v, .string s] w fun e w' => e = .returned (.bool true) ∧ Below w.heap.size w w' := by
  obtain ⟨v, rfl⟩ := Int.eq_ofNat_of_zero_le hv.1
  by_cases h : l.length ≤ 4000 ∧ s.size ≤ 4000
  · have h10 := dig_len10 (v := s.size) (by omega)
    refine puts_core A l.length c v s.size (enc (IntKind.i64.wrap v)) _ _ _ (IntKind.i64.wrap v) l s _ _ _ _ _ w hr rfl h.1 rfl h.2 (by omega) rfl (wrap_bounds _).1 (wrap_bounds _).2 rfl rfl rfl rfl rfl rfl rfl rfl rfl ?_ ?_
    · rw [str_toList, toList_app]
      exact beq_self_eq_true _
    · rw [str_size, List.length_append]
      omega
  · generalize hn1 : l.length = n1 at *
    generalize hn2 : s.size = n2 at *
    clear hr
    rcases Nat.lt_or_ge 4000 n1 with h1 | h1
    · have i1 : (4000 : Int) < (n1 : Int) := by omega
      clear h
      go_enter Try.func3, Try.ntmps3
      go_wp2_with fail
      refine (sure_any w).mono ?_
      rintro e w2 ⟨rfl, hb2⟩
      go_wp2_with fail
      go_ret
      exact ⟨rfl, hb2⟩
    · have i1 : ¬ (4000 : Int) < (n1 : Int) := by omega
      have i2 : (4000 : Int) < (n2 : Int) := by omega
      clear h
      go_enter Try.func3, Try.ntmps3
      go_wp2_with fail
      refine (sure_any w).mono ?_
      rintro e w2 ⟨rfl, hb2⟩
      go_wp2_with fail
      go_ret
      exact ⟨rfl, hb2⟩
end Go.Proofs.Ytkhlmlmbgfnolaa

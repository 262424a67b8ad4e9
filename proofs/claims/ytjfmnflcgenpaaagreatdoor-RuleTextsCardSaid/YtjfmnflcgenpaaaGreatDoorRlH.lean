/- Contract: rule's Text. -/
import Derived.Test.YtjfmnflcgenpaaaGreatDoorRlG
namespace Go.Proofs.YtjfmnflcgenpaaaGreatDoor
open Go.RowKit

theorem itoa_len (i : Int) (h1 : -1000000 ≤ i) (h2 : i ≤ 1000000) : (Lib.itoa i).length ≤ 21 := Lib.itoa_length_le i (by omega) (by omega)
theorem dtx_len (y m d : Int) (h : ∀ x ∈ [y, m, d], -9223372036854775808 ≤ x ∧ x ≤ 9223372036854775807) : (dtx y m d).length ≤ 65 := by
  have h1 := Lib.itoa_length_le y (h y (by simp)).1 (h y (by simp)).2
  have h2 := Lib.itoa_length_le m (h m (by simp)).1 (h m (by simp)).2
  have h3 := Lib.itoa_length_le d (h d (by simp)).1 (h d (by simp)).2
  unfold dtx
  simp only [List.length_append, List.length_cons]
  omega
theorem one_in {x : Int} {P : Int → Prop} (h : P x) : ∀ y ∈ [x], P y := by
  intro y hy
  rw [List.mem_singleton] at hy
  rw [hy]; exact h
theorem two_in {x y : Int} {P : Int → Prop} (h : P x) (h2 : P y) : ∀ z ∈ [x, y], P z := by
  intro z hz
  rcases List.mem_cons.1 hz with rfl | hz
  · exact h
  · exact one_in h2 z hz
theorem three_in {x y z : Int} {P : Int → Prop} (h : P x) (h2 : P y) (h3 : P z) : ∀ u ∈ [x, y, z], P u := by
  intro u hu
  rcases List.mem_cons.1 hu with rfl | hu
  · exact h
  · exact two_in h2 h3 u hu
set_option maxRecDepth 100000 in
set_option maxHeartbeats 1000000 in
theorem text0 (wk : Int) (w : World) (hE : En w) (hmay : mayR ⟨0, 0, 0, wk, 0, 0, 0, 0, 0, 0⟩ = true) (h1 : 0 ≤ wk) (h2 : wk ≤ 6) :
    Calls Tryz.prog 13 #[rv ⟨0, 0, 0, wk, 0, 0, 0, 0, 0, 0⟩] w fun e w' => e = .returned (.tuple #[.string (str (tx ⟨0, 0, 0, wk, 0, 0, 0, 0, 0, 0⟩)), .nilIface]) ∧ Below w.heap.size w w' := by
  have HC := Lib.hid (fun W (hT : Tab W) => check_any ⟨0, 0, 0, wk, 0, 0, 0, 0, 0, 0⟩ W hT)
  rw [hmay, if_pos rfl, errE_zero] at HC
  have hb0 := (Below.refl w.heap.size w).alloc (Nat.le_refl _) (.cells #[.int .i64 0, .int .i64 0, .int .i64 0, .int .i64 wk, .int .i64 0, .int .i64 0, .int .i64 0, .int .i64 0, .int .i64 0, .int .i64 0] 32)
  have G0 := Lib.hid (heap_alloc_new w (.cells #[.int .i64 0, .int .i64 0, .int .i64 0, .int .i64 wk, .int .i64 0, .int .i64 0, .int .i64 0, .int .i64 0, .int .i64 0, .int .i64 0] 32))
  have HT := Lib.hid (fun A W hr hW => tell_any { data := #[32] } [wk] A 1 1 W rfl (by omega) (by omega) (by omega) hr (one_in ⟨by omega, by omega⟩) (by decide) hW)
  have hl : (Lib.join ([wk].map Lib.itoa) [32]).length ≤ 1000 := join_len _ _ (by simp) (by
    intro x hx
    obtain ⟨i, hi, rfl⟩ := List.mem_map.1 hx
    have := one_in (P := fun i => -1000000 ≤ i ∧ i ≤ 1000000) ⟨by omega, by omega⟩ i hi
    exact itoa_len i this.1 this.2) (by decide)
  have e1 : ({ data := #[32] } : ByteArray).data.toList = [32] := rfl
  rw [e1] at HT
  obtain ⟨Z, hq, hz, _⟩ := add_named { data := #[119, 101, 101, 107, 100, 97, 121, 32] } (str (Lib.join ([wk].map Lib.itoa) [32])) (by decide) (by rw [str_size]; omega)
  have HZ : Hid (Z = str (tx ⟨0, 0, 0, wk, 0, 0, 0, 0, 0, 0⟩)) := by
    unfold Hid
    rw [hz]
    have e2 : ({ data := #[119, 101, 101, 107, 100, 97, 121, 32] } : ByteArray) = str (wW ++ [32]) := rfl
    rw [e2, str_append]
    simp only [List.map_cons, List.map_nil, Lib.join_one]
    unfold tx
    simp only [List.append_assoc, List.cons_append, List.nil_append, if_true]
  have HE := Lib.hid (hE.below hb0)
  have HB0 := Lib.hid hb0
  generalize str (Lib.join ([wk].map Lib.itoa) [32]) = J at *
  generalize str (tx ⟨0, 0, 0, wk, 0, 0, 0, 0, 0, 0⟩) = R at *
  clear hb0 hE hl e1 hz hmay
  unfold rv at *
  simp only at *
  go_enter Tryz.func13, Tryz.ntmps13
  go_wp2_with fail
  refine (HC.out _ HE.out.tab).mono ?_
  rintro e w1 ⟨rfl, hb1⟩
  have hb2 := HB0.out.trans (hb1.mono HB0.out.size)
  have HB1 := Lib.hid (hb2.alloc hb2.size (.cells #[.int .i64 wk] 3))
  have HE1 := Lib.hid ((HE.out.below hb1).below ((Below.refl w1.heap.size w1).alloc (Nat.le_refl _) (.cells #[.int .i64 wk] 3)))
  have g1 := (hb1.block w.heap.size (by simp)).trans G0.out
  have HRd := Lib.hid (Rd.block (heap_alloc_new w1 (.cells #[.int .i64 wk] 3)))
  have K0 := cell_blk g1 0 (v := .int .i64 0) rfl
  have K3 := cell_blk g1 3 (v := .int .i64 wk) rfl
  clear hb1 hb2 g1 HC HB0 HE G0
  go_wp2_with fail
  refine (HT.out _ _ HRd.out HE1.out).mono ?_
  rintro e w2 ⟨rfl, hb2⟩
  have HB2 := Lib.hid (HB1.out.trans (hb2.mono HB1.out.size))
  clear hb2 HB1 HE1 HRd
  go_wp2_with fail
  go_ret2
  rw [HZ.out]
  exact ⟨rfl, HB2.out⟩
set_option maxRecDepth 100000 in
set_option maxHeartbeats 1000000 in
theorem text1 (mo n : Int) (w : World) (hE : En w) (hmay : mayR ⟨1, mo, n, 0, 0, 0, 0, 0, 0, 0⟩ = true) (h1 : 0 ≤ mo) (h2 : mo ≤ 12) (h3 : -31 ≤ n) (h4 : n ≤ 31) :
    Calls Tryz.prog 13 #[rv ⟨1, mo, n, 0, 0, 0, 0, 0, 0, 0⟩] w fun e w' => e = .returned (.tuple #[.string (str (tx ⟨1, mo, n, 0, 0, 0, 0, 0, 0, 0⟩)), .nilIface]) ∧ Below w.heap.size w w' := by
  have HC := Lib.hid (fun W (hT : Tab W) => check_any ⟨1, mo, n, 0, 0, 0, 0, 0, 0, 0⟩ W hT)
  rw [hmay, if_pos rfl, errE_zero] at HC
  have hb0 := (Below.refl w.heap.size w).alloc (Nat.le_refl _) (.cells #[.int .i64 1, .int .i64 mo, .int .i64 n, .int .i64 0, .int .i64 0, .int .i64 0, .int .i64 0, .int .i64 0, .int .i64 0, .int .i64 0] 32)
  have G0 := Lib.hid (heap_alloc_new w (.cells #[.int .i64 1, .int .i64 mo, .int .i64 n, .int .i64 0, .int .i64 0, .int .i64 0, .int .i64 0, .int .i64 0, .int .i64 0, .int .i64 0] 32))
  have HT := Lib.hid (fun A W hr hW => tell_any { data := #[32] } [mo, n] A 2 2 W rfl (by omega) (by omega) (by omega) hr (two_in ⟨by omega, by omega⟩ ⟨by omega, by omega⟩) (by decide) hW)
  have hl : (Lib.join ([mo, n].map Lib.itoa) [32]).length ≤ 1000 := join_len _ _ (by simp) (by
    intro x hx
    obtain ⟨i, hi, rfl⟩ := List.mem_map.1 hx
    have := two_in (P := fun i => -1000000 ≤ i ∧ i ≤ 1000000) ⟨by omega, by omega⟩ ⟨by omega, by omega⟩ i hi
    exact itoa_len i this.1 this.2) (by decide)
  have e1 : ({ data := #[32] } : ByteArray).data.toList = [32] := rfl
  rw [e1] at HT
  obtain ⟨Z, hq, hz, _⟩ := add_named { data := #[100, 97, 121, 32] } (str (Lib.join ([mo, n].map Lib.itoa) [32])) (by decide) (by rw [str_size]; omega)
  have HZ : Hid (Z = str (tx ⟨1, mo, n, 0, 0, 0, 0, 0, 0, 0⟩)) := by
    unfold Hid
    rw [hz]
    have e2 : ({ data := #[100, 97, 121, 32] } : ByteArray) = str (dW ++ [32]) := rfl
    rw [e2, str_append]
    simp only [List.map_cons, List.map_nil, join2]
    unfold tx
    simp only [show ((1 : Int) = 0) = False by simp, List.append_assoc, List.cons_append, List.nil_append, if_true, if_false]
  have HE := Lib.hid (hE.below hb0)
  have HB0 := Lib.hid hb0
  generalize str (Lib.join ([mo, n].map Lib.itoa) [32]) = J at *
  generalize str (tx ⟨1, mo, n, 0, 0, 0, 0, 0, 0, 0⟩) = R at *
  clear hb0 hE hl e1 hz hmay
  unfold rv at *
  simp only at *
  go_enter Tryz.func13, Tryz.ntmps13
  go_wp2_with fail
  refine (HC.out _ HE.out.tab).mono ?_
  rintro e w1 ⟨rfl, hb1⟩
  have hb2 := HB0.out.trans (hb1.mono HB0.out.size)
  have HB1 := Lib.hid (hb2.alloc hb2.size (.cells #[.int .i64 mo, .int .i64 n] 3))
  have HE1 := Lib.hid ((HE.out.below hb1).below ((Below.refl w1.heap.size w1).alloc (Nat.le_refl _) (.cells #[.int .i64 mo, .int .i64 n] 3)))
  have g1 := (hb1.block w.heap.size (by simp)).trans G0.out
  have HRd := Lib.hid (Rd.block (heap_alloc_new w1 (.cells #[.int .i64 mo, .int .i64 n] 3)))
  have K0 := cell_blk g1 0 (v := .int .i64 1) rfl
  have K1 := cell_blk g1 1 (v := .int .i64 mo) rfl
  have K2 := cell_blk g1 2 (v := .int .i64 n) rfl
  clear hb1 hb2 g1 HC HB0 HE G0
  go_wp2_with fail
  refine (HT.out _ _ HRd.out HE1.out).mono ?_
  rintro e w2 ⟨rfl, hb2⟩
  have HB2 := Lib.hid (HB1.out.trans (hb2.mono HB1.out.size))
  clear hb2 HB1 HE1 HRd
  go_wp2_with fail
  go_ret2
  rw [HZ.out]
  exact ⟨rfl, HB2.out⟩
set_option maxRecDepth 100000 in
set_option maxHeartbeats 1000000 in
theorem text2 (mo n wk : Int) (w : World) (hE : En w) (hmay : mayR ⟨2, mo, n, wk, 0, 0, 0, 0, 0, 0⟩ = true) (h1 : 0 ≤ mo) (h2 : mo ≤ 12) (h3 : -5 ≤ n) (h4 : n ≤ 5) (h5 : 0 ≤ wk) (h6 : wk ≤ 6) :
    Calls Tryz.prog 13 #[rv ⟨2, mo, n, wk, 0, 0, 0, 0, 0, 0⟩] w fun e w' => e = .returned (.tuple #[.string (str (tx ⟨2, mo, n, wk, 0, 0, 0, 0, 0, 0⟩)), .nilIface]) ∧ Below w.heap.size w w' := by
  have HC := Lib.hid (fun W (hT : Tab W) => check_any ⟨2, mo, n, wk, 0, 0, 0, 0, 0, 0⟩ W hT)
  rw [hmay, if_pos rfl, errE_zero] at HC
  have hb0 := (Below.refl w.heap.size w).alloc (Nat.le_refl _) (.cells #[.int .i64 2, .int .i64 mo, .int .i64 n, .int .i64 wk, .int .i64 0, .int .i64 0, .int .i64 0, .int .i64 0, .int .i64 0, .int .i64 0] 32)
  have G0 := Lib.hid (heap_alloc_new w (.cells #[.int .i64 2, .int .i64 mo, .int .i64 n, .int .i64 wk, .int .i64 0, .int .i64 0, .int .i64 0, .int .i64 0, .int .i64 0, .int .i64 0] 32))
  have HT := Lib.hid (fun A W hr hW => tell_any { data := #[32] } [mo, n, wk] A 3 3 W rfl (by omega) (by omega) (by omega) hr (three_in ⟨by omega, by omega⟩ ⟨by omega, by omega⟩ ⟨by omega, by omega⟩) (by decide) hW)
  have hl : (Lib.join ([mo, n, wk].map Lib.itoa) [32]).length ≤ 1000 := join_len _ _ (by simp) (by
    intro x hx
    obtain ⟨i, hi, rfl⟩ := List.mem_map.1 hx
    have := three_in (P := fun i => -1000000 ≤ i ∧ i ≤ 1000000) ⟨by omega, by omega⟩ ⟨by omega, by omega⟩ ⟨by omega, by omega⟩ i hi
    exact itoa_len i this.1 this.2) (by decide)
  have e1 : ({ data := #[32] } : ByteArray).data.toList = [32] := rfl
  rw [e1] at HT
  obtain ⟨Z, hq, hz, _⟩ := add_named { data := #[110, 116, 104, 32] } (str (Lib.join ([mo, n, wk].map Lib.itoa) [32])) (by decide) (by rw [str_size]; omega)
  have HZ : Hid (Z = str (tx ⟨2, mo, n, wk, 0, 0, 0, 0, 0, 0⟩)) := by
    unfold Hid
    rw [hz]
    have e2 : ({ data := #[110, 116, 104, 32] } : ByteArray) = str (nW ++ [32]) := rfl
    rw [e2, str_append]
    simp only [List.map_cons, List.map_nil, join3]
    unfold tx
    simp only [show ((2 : Int) = 0) = False by simp, show ((2 : Int) = 1) = False by simp, List.append_assoc, List.cons_append, List.nil_append, if_true, if_false]
  have HE := Lib.hid (hE.below hb0)
  have HB0 := Lib.hid hb0
  generalize str (Lib.join ([mo, n, wk].map Lib.itoa) [32]) = J at *
  generalize str (tx ⟨2, mo, n, wk, 0, 0, 0, 0, 0, 0⟩) = R at *
  clear hb0 hE hl e1 hz hmay
  unfold rv at *
  simp only at *
  go_enter Tryz.func13, Tryz.ntmps13
  go_wp2_with fail
  refine (HC.out _ HE.out.tab).mono ?_
  rintro e w1 ⟨rfl, hb1⟩
  have hb2 := HB0.out.trans (hb1.mono HB0.out.size)
  have HB1 := Lib.hid (hb2.alloc hb2.size (.cells #[.int .i64 mo, .int .i64 n, .int .i64 wk] 3))
  have HE1 := Lib.hid ((HE.out.below hb1).below ((Below.refl w1.heap.size w1).alloc (Nat.le_refl _) (.cells #[.int .i64 mo, .int .i64 n, .int .i64 wk] 3)))
  have g1 := (hb1.block w.heap.size (by simp)).trans G0.out
  have HRd := Lib.hid (Rd.block (heap_alloc_new w1 (.cells #[.int .i64 mo, .int .i64 n, .int .i64 wk] 3)))
  have K0 := cell_blk g1 0 (v := .int .i64 2) rfl
  have K1 := cell_blk g1 1 (v := .int .i64 mo) rfl
  have K2 := cell_blk g1 2 (v := .int .i64 n) rfl
  have K3 := cell_blk g1 3 (v := .int .i64 wk) rfl
  clear hb1 hb2 g1 HC HB0 HE G0
  go_wp2_with fail
  refine (HT.out _ _ HRd.out HE1.out).mono ?_
  rintro e w2 ⟨rfl, hb2⟩
  have HB2 := Lib.hid (HB1.out.trans (hb2.mono HB1.out.size))
  clear hb2 HB1 HE1 HRd
  go_wp2_with fail
  go_ret2
  rw [HZ.out]
  exact ⟨rfl, HB2.out⟩
end Go.Proofs.YtjfmnflcgenpaaaGreatDoor

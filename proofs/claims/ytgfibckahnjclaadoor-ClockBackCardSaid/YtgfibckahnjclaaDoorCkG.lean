/- Contracts: the document's Stamp. -/
import Derived.Test.YtgfibckahnjclaaDoorCkF
namespace Go.Proofs.YtgfibckahnjclaaDoor
open Go.RowKit

set_option maxRecDepth 100000 in
set_option maxHeartbeats 2000000 in
theorem refStamp_ok (t o : Int) (y m d s : Nat) (n : Int) (w : World) (h1 : 0 ≤ t) (h2 : t ≤ 4611686018427387904) (ho1 : -50400 ≤ o) (ho2 : o ≤ 50400) (hd : (t + o) / 86400 = n) (hs : (t + o) % 86400 = s)
    (hi : Is y m d) (hn : nr y m d = n) (hy0 : 1 ≤ y) (hy : y ≤ 274877906944) (hm : m < 100) (hdd : d < 100) :
    Calls Tryd.prog 18 #[.int .i64 t, .int .i64 o] w fun e w' => e = .returned (.tuple #[.string (str (stampL y m d s)), .int .i64 0]) ∧ Below w.heap.size w w' := by
  have hs4 : s ≤ 86400 := by omega
  have H1 := Lib.hid (fun W => refSplit_ok t o n s W h1 h2 ho1 ho2 hd hs)
  have H2 := Lib.hid (fun W => refOf_any y m d n W hi hn (by omega) (by omega))
  unfold dt at H2
  have HE := Lib.hid (stamp_str y m d s)
  have HY := Lib.hid (fun W => digits1 y y W rfl hy0 (by omega))
  have HM := Lib.hid (fun W => digits2 m m W rfl hm)
  have HD := Lib.hid (fun W => digits2 d d W rfl hdd)
  have HX := Lib.hid (fun W => refText_any s s W rfl hs4)
  have z1 := dec_size y (by omega)
  have z2 := d2_size m
  have z3 := d2_size d
  have z4 := tx8_size (s / 3600) (s / 60 % 60) (s % 60)
  generalize str (tx8 (s / 3600) (s / 60 % 60) (s % 60)) = X at *
  generalize str (Lib.decDigits y) = Y at *
  generalize str (d2 m) = M at *
  generalize str (d2 d) = D at *
  generalize str (stampL y m d s) = R at *
  obtain ⟨A1, q1, e1, k1⟩ := add_named Y { data := #[45] } (by omega) (by decide)
  obtain ⟨A2, q2, e2, k2⟩ := add_named A1 M (by rw [k1]; show Y.size + 1 ≤ _; omega) (by omega)
  have s1 : ({ data := #[45] } : ByteArray).size = 1 := rfl
  have s2 : ({ data := #[32] } : ByteArray).size = 1 := rfl
  obtain ⟨A3, q3, e3, k3⟩ := add_named A2 { data := #[45] } (by omega) (by omega)
  obtain ⟨A4, q4, e4, k4⟩ := add_named A3 D (by omega) (by omega)
  obtain ⟨A5, q5, e5, k5⟩ := add_named A4 { data := #[32] } (by omega) (by omega)
  obtain ⟨A6, q6, e6, k6⟩ := add_named A5 X (by omega) (by omega)
  have HE2 : Hid (A6 = R) := by
    rw [e6, e5, e4, e3, e2, e1]
    exact HE.out
  clear e1 e2 e3 e4 e5 e6 k1 k2 k3 k4 k5 k6 s1 s2 z1 z2 z3 z4 HE
  clear hd hs hi hn h1 h2 ho1 ho2 hy0 hy hm hdd hs4
  go_enter Tryd.func18, Tryd.ntmps18
  go_wp2_with fail
  refine (H1.out _).mono ?_
  rintro e w1 ⟨rfl, rfl⟩
  go_wp2_with fail
  refine (H2.out _).mono ?_
  rintro e w2 ⟨rfl, hb2⟩
  have HB3 := Lib.hid (hb2.alloc hb2.size (.cells #[.int .i64 y, .int .i64 m, .int .i64 d] 61))
  have g4 := heap_alloc_new w2 (.cells #[.int .i64 y, .int .i64 m, .int .i64 d] 61)
  obtain ⟨w3, hw3⟩ : ∃ w3, w2.alloc (.cells #[.int .i64 y, .int .i64 m, .int .i64 d] 61) = w3 := ⟨_, rfl⟩
  rw [hw3] at HB3 g4
  have hlt4 : w2.heap.size < w3.heap.size := (Array.getElem?_eq_some_iff.1 g4).1
  have HSS := Lib.hid (show ∀ W, Below w3.heap.size w3 W → W.cell? ⟨w2.heap.size, 0, none⟩ = some (.int .i64 y) ∧ W.cell? ⟨w2.heap.size, 1, none⟩ = some (.int .i64 m) ∧ W.cell? ⟨w2.heap.size, 2, none⟩ = some (.int .i64 d) from fun W hb =>
    ⟨cell_blk ((hb.block _ hlt4).trans g4) 0 rfl, cell_blk ((hb.block _ hlt4).trans g4) 1 rfl, cell_blk ((hb.block _ hlt4).trans g4) 2 rfl⟩)
  have hbd : Below w3.heap.size w3 w3.drew := ⟨rfl, rfl, rfl, Nat.le_refl _, fun _ _ => rfl⟩
  have HW := Lib.hid hw3
  clear hb2 hw3 g4 hlt4 H2 H1
  go_wp2_with fail
  rw [HW.out]
  go_region_held3 (fun W => W.cell? ⟨w2.heap.size, 0, none⟩ = some (.int .i64 y) ∧ W.cell? ⟨w2.heap.size, 1, none⟩ = some (.int .i64 m) ∧ W.cell? ⟨w2.heap.size, 2, none⟩ = some (.int .i64 d))
    (exact HSS.out _ (by assumption))
    (first
      | (go_at_call 33
         with_reducible refine (HY.out _).mono ?_
         rintro e w4 ⟨rfl, rfl⟩)
      | (go_at_call 33
         with_reducible refine (HM.out _).mono ?_
         rintro e w5 ⟨rfl, rfl⟩)
      | (go_at_call 33
         with_reducible refine (HD.out _).mono ?_
         rintro e w6 ⟨rfl, rfl⟩)
      | (go_at_call 34
         refine (HX.out _).mono ?_
         rintro e w7 ⟨rfl, rfl⟩))
  all_goals
    go_wp2_with fail
    go_ret2
    exact ⟨ret_strI HE2.out, HB3.out.trans (hbd.mono HB3.out.size)⟩
theorem refStamp_no (t o : Int) (w : World) (h : (t < 0 ∨ 4611686018427387904 < t) ∨ (o < -50400 ∨ 50400 < o)) :
    Calls Tryd.prog 18 #[.int .i64 t, .int .i64 o] w fun e w' => e = .returned (.tuple #[.string (str []), .int .i64 1]) ∧ w = w' := by
  have H1 := Lib.hid (fun W => refSplit_no t o W h)
  clear h
  go_enter Tryd.func18, Tryd.ntmps18
  go_wp2_with fail
  refine (H1.out _).mono ?_
  rintro e w1 ⟨rfl, rfl⟩
  go_wp2_with fail
  go_ret2
  exact ⟨rfl, rfl⟩
end Go.Proofs.YtgfibckahnjclaaDoor

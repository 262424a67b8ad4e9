/- Contracts: clock's Stamp; the document's Stamp. -/
import Derived.Test.YtgfibckahnjclaaDoorCkE
import Derived.Test.YtgfibckahnjclaaDoorCvG
import Derived.Deep.RegionHeld3
import Derived.Lib.ItoaLen
namespace Go.Proofs.YtgfibckahnjclaaDoor
open Go.RowKit

/-- A moment's text. -/
def stampL (y m d s : Nat) : List UInt8 := Lib.decDigits y ++ 45 :: (d2 m ++ 45 :: (d2 d ++ 32 :: tx8 (s / 3600) (s / 60 % 60) (s % 60)))
theorem stamp_str (y m d s : Nat) : str (Lib.decDigits y) ++ str [45] ++ str (d2 m) ++ str [45] ++ str (d2 d) ++ str [32] ++ str (tx8 (s / 3600) (s / 60 % 60) (s % 60)) = str (stampL y m d s) := by
  simp only [str_append, stampL, List.append_assoc, List.cons_append, List.nil_append]
theorem dec_size (n : Nat) (h : n ≤ 4611686018427387904) : (str (Lib.decDigits n)).size ≤ 21 := by
  have := Lib.itoa_length_le (n : Int) (by omega) (by omega)
  unfold Lib.itoa at this
  rw [if_neg (by omega), Int.toNat_natCast] at this
  exact this
/-- Two strings together, by a name of their own. -/
theorem add_named (a b : ByteArray) (h : a.size ≤ 1000000) (h2 : b.size ≤ 1000000) : ∃ z : ByteArray, (∀ W, (Op.stringOp .add a b).run Tryd.prog W = .ok (.string z) W) ∧ z = a ++ b ∧ z.size = a.size + b.size :=
  ⟨a ++ b, fun W => run_string_add_sum W a b (by omega), rfl, by simp⟩
theorem year_lo {y : Int} {m : Nat} {d n : Int} (hi : Is y m d) (hn : nr y m d = n) (h : -1 ≤ n) : 1969 ≤ y := by
  have h1 := nr_in hi
  rw [hn] at h1
  rcases Int.lt_or_le y 1969 with h2 | h2
  · have h3 := bgn_le (show y + 1 ≤ 1969 by omega)
    have h4 : bgn 1969 = -365 := by decide
    omega
  · exact h2
/-- A day's date, in plain numbers: from the day ahead of 1970 on. -/
theorem date_nat (n : Int) (h : -1 ≤ n) (h2 : n ≤ 70368744177664) : ∃ y m d : Nat, Is y m d ∧ nr y m d = n ∧ 1 ≤ y ∧ y ≤ 274877906944 ∧ m < 100 ∧ d < 100 := by
  obtain ⟨y, m, d, hi, hn⟩ := date_ex n
  have hy := year_lo hi hn h
  have hin := nr_in hi
  rw [hn] at hin
  have hbd := year_bd hin.1 hin.2 (by omega) h2
  have hl := mlen_le (y := y) hi.m1 hi.m12
  have h1 := hi.m12
  have h3 := hi.d1
  have h4 := hi.dl
  obtain ⟨Y, rfl⟩ := Int.eq_ofNat_of_zero_le (show 0 ≤ y by omega)
  obtain ⟨D, rfl⟩ := Int.eq_ofNat_of_zero_le (show 0 ≤ d by omega)
  exact ⟨Y, m, D, hi, hn, by omega, by omega, by omega, by omega⟩
set_option maxRecDepth 100000 in
set_option maxHeartbeats 2000000 in
theorem stamp_ok (t o : Int) (y m d s : Nat) (n : Int) (w : World) (h1 : 0 ≤ t) (h2 : t ≤ 4611686018427387904) (ho1 : -50400 ≤ o) (ho2 : o ≤ 50400) (hd : (t + o) / 86400 = n) (hs : (t + o) % 86400 = s)
    (hi : Is y m d) (hn : nr y m d = n) (hy : y ≤ 274877906944) (hm : m < 100) (hdd : d < 100) (ht : Tab w) (hp : Pow w) :
    Calls Tryd.prog 17 #[.int .i64 t, .int .i64 o] w fun e w' => e = .returned (.tuple #[.string (str (stampL y m d s)), .nilIface]) ∧ Below w.heap.size w w' := by
  have hs4 : s ≤ 86400 := by omega
  have H1 := Lib.hid (split_ok t o n s w h1 h2 ho1 ho2 hd hs)
  unfold mo at H1
  have H2 := Lib.hid (fun W (hT : Tab W) => ofOk_any y m d n W hi hn (by omega) (by omega) hT)
  unfold dt at H2
  have HE := Lib.hid (stamp_str y m d s)
  have HY := Lib.hid (fun W (hP : Pow W) => itoa_any y y W rfl (by omega) hP)
  have HM := Lib.hid (fun W => pair_any m m W rfl hm)
  have HD := Lib.hid (fun W => pair_any d d W rfl hdd)
  have HX := Lib.hid (fun W => text_any s s W rfl hs4)
  have z1 := dec_size y (by omega)
  have z2 := d2_size m
  have z3 := d2_size d
  have z4 := tx8_size (s / 3600) (s / 60 % 60) (s % 60)
  generalize str (tx8 (s / 3600) (s / 60 % 60) (s % 60)) = X at *
  generalize str (Lib.decDigits y) = Y at *
  generalize str (d2 m) = M at *
  generalize str (d2 d) = D at *
  generalize str (stampL y m d s) = R at *
  obtain ⟨A1, q1, e1, k1⟩ := add_named Y { data := #[45] } (by omega) (by decide)
  obtain ⟨A2, q2, e2, k2⟩ := add_named A1 M (by rw [k1]; show Y.size + 1 ≤ _; omega) (by omega)
  have s1 : ({ data := #[45] } : ByteArray).size = 1 := rfl
  have s2 : ({ data := #[32] } : ByteArray).size = 1 := rfl
  obtain ⟨A3, q3, e3, k3⟩ := add_named A2 { data := #[45] } (by omega) (by omega)
  obtain ⟨A4, q4, e4, k4⟩ := add_named A3 D (by omega) (by omega)
  obtain ⟨A5, q5, e5, k5⟩ := add_named A4 { data := #[32] } (by omega) (by omega)
  obtain ⟨A6, q6, e6, k6⟩ := add_named A5 X (by omega) (by omega)
  have HE2 : Hid (A6 = R) := by
    rw [e6, e5, e4, e3, e2, e1]
    exact HE.out
  clear e1 e2 e3 e4 e5 e6 k1 k2 k3 k4 k5 k6 s1 s2 z1 z2 z3 z4 HE
  have HT := Lib.hid ht
  have HP := Lib.hid hp
  clear hd hs hi hn ht hp h1 h2 ho1 ho2 hy hm hdd hs4
  go_enter Tryd.func17, Tryd.ntmps17
  go_wp2_with fail
  refine H1.out.mono ?_
  rintro e w1 ⟨rfl, hb1⟩
  have HB1 := Lib.hid (hb1.alloc hb1.size (.cells #[.int .i64 n, .int .i64 s] 24))
  have G1 := Lib.hid (heap_alloc_new w1 (.cells #[.int .i64 n, .int .i64 s] 24))
  clear hb1 H1
  go_wp2_with fail
  refine (H2.out _ (HT.out.below HB1.out)).mono ?_
  rintro e w2 ⟨rfl, hb2⟩
  have hb3 := (HB1.out.trans (hb2.mono HB1.out.size))
  have HB3 := Lib.hid (hb3.alloc hb3.size (.cells #[.int .i64 y, .int .i64 m, .int .i64 d] 57))
  have g1 := (hb2.block w1.heap.size (by simp)).trans G1.out
  have hs1 : w1.heap.size < w2.heap.size := (Array.getElem?_eq_some_iff.1 g1).1
  obtain ⟨w3, hw3⟩ : ∃ w3, w2.alloc (.cells #[.int .i64 y, .int .i64 m, .int .i64 d] 57) = w3 := ⟨_, rfl⟩
  have g3 : w3.heap[w1.heap.size]? = some (.cells #[.int .i64 n, .int .i64 s] 24) := by rw [← hw3]; exact (Below.heap_alloc w2 _ _ hs1).trans g1
  have g4 : w3.heap[w2.heap.size]? = some (.cells #[.int .i64 y, .int .i64 m, .int .i64 d] 57) := by rw [← hw3]; exact heap_alloc_new w2 (.cells #[.int .i64 y, .int .i64 m, .int .i64 d] 57)
  have hlt3 : w1.heap.size < w3.heap.size := (Array.getElem?_eq_some_iff.1 g3).1
  have hlt4 : w2.heap.size < w3.heap.size := (Array.getElem?_eq_some_iff.1 g4).1
  rw [hw3] at HB3
  have HSS := Lib.hid (show ∀ W, Below w3.heap.size w3 W → W.cell? ⟨w2.heap.size, 0, none⟩ = some (.int .i64 y) ∧ W.cell? ⟨w2.heap.size, 1, none⟩ = some (.int .i64 m) ∧ W.cell? ⟨w2.heap.size, 2, none⟩ = some (.int .i64 d) ∧ W.cell? ⟨w1.heap.size, 1, none⟩ = some (.int .i64 s) from fun W hb =>
    ⟨cell_blk ((hb.block _ hlt4).trans g4) 0 rfl, cell_blk ((hb.block _ hlt4).trans g4) 1 rfl, cell_blk ((hb.block _ hlt4).trans g4) 2 rfl, cell_blk ((hb.block _ hlt3).trans g3) 1 rfl⟩)
  have hbd : Below w3.heap.size w3 w3.drew := ⟨rfl, rfl, rfl, Nat.le_refl _, fun _ _ => rfl⟩
  have HP3 := Lib.hid (show Pow w3.drew from (HP.out.below HB3.out).below hbd)
  have HW := Lib.hid hw3
  clear hb2 hb3 HB1 G1 g1 hs1 hw3 g3 g4 hlt3 hlt4 H2
  go_wp2_with fail
  rw [HW.out]
  go_region_held3 (fun W => W.cell? ⟨w2.heap.size, 0, none⟩ = some (.int .i64 y) ∧ W.cell? ⟨w2.heap.size, 1, none⟩ = some (.int .i64 m) ∧ W.cell? ⟨w2.heap.size, 2, none⟩ = some (.int .i64 d) ∧ W.cell? ⟨w1.heap.size, 1, none⟩ = some (.int .i64 s))
    (exact HSS.out _ (by assumption))
    (first
      | (go_at_call 29
         refine (HY.out _ HP3.out).mono ?_
         rintro e w4 ⟨rfl, hb4⟩
         have hb4' : Below w3.heap.size w3 w4 := hbd.trans (hb4.mono hbd.size)
         clear hb4)
      | (go_at_call 30
         with_reducible refine (HM.out _).mono ?_
         rintro e w5 ⟨rfl, rfl⟩)
      | (go_at_call 30
         with_reducible refine (HD.out _).mono ?_
         rintro e w6 ⟨rfl, rfl⟩)
      | (go_at_call 31
         refine (HX.out _).mono ?_
         rintro e w7 ⟨rfl, rfl⟩))
  all_goals
    go_wp2_with fail
    go_ret2
    exact ⟨ret_strI HE2.out, HB3.out.trans (hb4'.mono HB3.out.size)⟩
theorem stamp_no (t o : Int) (w : World) (h : (t < 0 ∨ 4611686018427387904 < t) ∨ (o < -50400 ∨ 50400 < o)) :
    Calls Tryd.prog 17 #[.int .i64 t, .int .i64 o] w fun e w' => e = .returned (.tuple #[.string (str []), errK 1]) ∧ Below w.heap.size w w' := by
  have H1 := Lib.hid (split_no t o w h)
  unfold mo at H1
  unfold errK at H1 ⊢
  clear h
  go_enter Tryd.func17, Tryd.ntmps17
  go_wp2_with fail
  refine H1.out.mono ?_
  rintro e w1 ⟨rfl, hb1⟩
  have HB1 := Lib.hid hb1
  clear hb1 H1
  go_wp2_with fail
  go_ret2
  exact ⟨rfl, HB1.out.alloc HB1.out.size _⟩
end Go.Proofs.YtgfibckahnjclaaDoor

/- Contracts: the document's digits, date, Text. -/
import Derived.Test.YtjfmnflcgenpaaaGreatDoorRlO
import Derived.Test.YtjfmnflcgenpaaaGreatDoorRlI
namespace Go.Proofs.YtjfmnflcgenpaaaGreatDoor
open Go.RowKit

theorem digit_slice (r : Nat) (h : r < 10) : (str [48, 49, 50, 51, 52, 53, 54, 55, 56, 57]).extract r (r + 1) = str [UInt8.ofNat (48 + r)] := by
  have : ∀ i : Fin 10, (str [48, 49, 50, 51, 52, 53, 54, 55, 56, 57]).extract i (i + 1) = str [UInt8.ofNat (48 + i.val)] := by decide
  exact this ⟨r, h⟩
theorem digit_run (m : Nat) (W : World) : (Instr.slice 9 (Value.string { data := #[48, 49, 50, 51, 52, 53, 54, 55, 56, 57] }) (some (Value.int IntKind.i64 (↑m % 10))) (some (Value.int IntKind.i64 (↑m % 10 + 1))) none).run Tryz.prog W = .ok (.string (str [UInt8.ofNat (48 + m % 10)])) W := by
  rw [run_slice_string _ _ _ _ _ _ _ Tryz.underlying9 (by omega) (by omega) (by show (m : Int) % 10 + 1 ≤ 10; omega)]
  rw [show ((m : Int) % 10).toNat = m % 10 by omega, show ((m : Int) % 10 + 1).toNat = m % 10 + 1 by omega]
  exact congrArg (fun x => Result.ok (Value.string x) W) (digit_slice (m % 10) (by omega))
def szOf : Value → Nat
  | .string b => b.size
  | _ => 0
theorem dgs_all (n : Nat) : dgs n 1 [] = Lib.decDigits n := by
  rcases Nat.eq_zero_or_pos n with rfl | h
  · rw [dgs_go 0 1 [] (.inr (by simp)), dgs_end _ _ _ (by simp), Lib.decDigits_one (by omega)]
  · exact dgs_one n h
set_option maxRecDepth 100000 in
theorem digits_nn (n : Nat) (w : World) (hn : n ≤ 1000000) :
    Calls Tryz.prog 36 #[.int .i64 n] w fun e w' => e = .returned (.string (str (Lib.decDigits n))) ∧ w = w' := by
  have HALL := Lib.hid (dgs_all n)
  go_enter Tryz.func36, Tryz.ntmps36
  go_wp2_with fail
  go_loop [0, 3] (fun i s => ∃ (m : Nat) (t : List UInt8), i = .int .i64 m ∧ m ≤ n ∧ s = .string (str t) ∧ dgs m 1 t = dgs n 1 [] ∧ t.length + m ≤ n + 2) (fun i s => (intOf i).toNat + (1 - szOf s))
  case atStart => exact ⟨n, [], rfl, Nat.le_refl _, rfl, rfl, by simp⟩
  case round =>
    obtain ⟨m, t, rfl, hm, rfl, hd, hlen⟩ := hrel
    have HD := Lib.hid hd
    clear hd
    have hsz : (str t).size = t.length := rfl
    rcases Nat.eq_zero_or_pos m with h0 | h0
    · subst h0
      rcases t with _ | ⟨c, t⟩
      · have HG := Lib.hid (dgs_go 0 1 [] (.inr (by simp)))
        have HX := Lib.hid (digit_slice (0 % 10) (by omega))
        have e0 : str [] = { data := #[] } := rfl
        rw [e0]
        go_wp2_with fail
        go_round
        case rel =>
          refine ⟨0, [UInt8.ofNat (48 + 0 % 10)], rfl, Nat.zero_le _, ?_, HG.out.symm.trans HD.out, by simp⟩
          have e1 : ({ data := #[48, 49, 50, 51, 52, 53, 54, 55, 56, 57] } : ByteArray).extract 0 1 = str [48] := HX.out
          first
          | rfl
          | (rw [e1]; rfl)
          | (refine congrArg Value.string ?_; rw [e1]; rfl)
        case measure =>
          have e1 : ({ data := #[48, 49, 50, 51, 52, 53, 54, 55, 56, 57] } : ByteArray).extract 0 1 = str [48] := HX.out
          have e2 : (str [48]).size = 1 := rfl
          have e3 : ({ data := #[] } : ByteArray).size = 0 := rfl
          simp only [szOf, intOf, ByteArray.size_append, e1, e2, e3]
          omega
      · have HE := Lib.hid (dgs_end 0 1 (c :: t) (by simp))
        have hne : ((str (c :: t)).toList == []) = false := by rw [str_toList]; rfl
        obtain ⟨S, hS⟩ : ∃ S, str (c :: t) = S := ⟨_, rfl⟩
        have HS := Lib.hid hS
        rw [hS] at hsz hne ⊢
        clear hS
        go_wp2_with fail
        go_ret
        exact ⟨congrArg (fun x => Ending.returned (Value.string x)) (by rw [← HALL.out, ← HD.out, HE.out, HS.out]), rfl⟩
    · have HG := Lib.hid (dgs_go m 1 t (.inl h0))
      obtain ⟨S, hS⟩ : ∃ S, str t = S := ⟨_, rfl⟩
      have HS := Lib.hid hS
      rw [hS] at hsz ⊢
      clear hS
      obtain ⟨L, hL⟩ : ∃ L, t.length = L := ⟨_, rfl⟩
      have HL := Lib.hid hL
      rw [hL] at hsz hlen
      clear hL
      have hR := digit_run m w
      obtain ⟨D, hD⟩ : ∃ D, str [UInt8.ofNat (48 + m % 10)] = D := ⟨_, rfl⟩
      have hDs : D.size = 1 := by rw [← hD]; rfl
      have HDD := Lib.hid hD
      rw [hD] at hR
      clear hD
      go_wp2_with fail
      go_round
      case rel =>
        refine ⟨m / 10, UInt8.ofNat (48 + m % 10) :: t, by go_num, by omega, ?_, HG.out.symm.trans HD.out, by have := HL.out; simp only [List.length_cons]; omega⟩
        rw [← HS.out, ← HDD.out]
        exact congrArg Value.string (str_append _ _)
      case measure =>
        simp only [szOf, intOf, ByteArray.size_append]
        omega
set_option maxRecDepth 100000 in
theorem digits_any (n : Int) (w : World) (h1 : -1000000 ≤ n) (h2 : n ≤ 1000000) :
    Calls Tryz.prog 36 #[.int .i64 n] w fun e w' => e = .returned (.string (str (Lib.itoa n))) ∧ w = w' := by
  rcases Int.lt_or_le n 0 with h | h
  · obtain ⟨u, rfl⟩ : ∃ u : Nat, n = -(u : Int) := ⟨n.natAbs, by omega⟩
    have HC := Lib.hid (digits_nn u w (by omega))
    have hl : (Lib.decDigits u).length ≤ 9 := (dig_len9 u).2 (by omega)
    obtain ⟨Z, hq, hz, _⟩ := add_named { data := #[45] } (str (Lib.decDigits u)) (by decide) (by rw [str_size]; omega)
    have HZ : Hid (Z = str (Lib.itoa (-(u : Int)))) := by
      unfold Hid
      rw [hz, itoa_neg u (by omega)]
      have e1 : ({ data := #[45] } : ByteArray) = str [45] := rfl
      rw [e1, str_append]
      rfl
    have e0 : - -(u : Int) = u := by omega
    generalize str (Lib.decDigits u) = S at *
    generalize str (Lib.itoa (-(u : Int))) = R at *
    clear hz hl
    go_enter Tryz.func36, Tryz.ntmps36
    go_wp2_with fail
    refine HC.out.mono ?_
    rintro e w' ⟨rfl, rfl⟩
    go_wp2_with fail
    go_ret
    rw [HZ.out]
    exact ⟨rfl, rfl⟩
  · obtain ⟨u, rfl⟩ := Int.eq_ofNat_of_zero_le h
    rw [itoa_nn]
    exact digits_nn u w (by omega)

set_option maxRecDepth 100000 in
set_option maxHeartbeats 2000000 in
theorem refDate_any (y m d : Int) (w : World) (hy1 : -1000000 ≤ y) (hy2 : y ≤ 1000000) (hm1 : -1000000 ≤ m) (hm2 : m ≤ 1000000) (hd1 : -1000000 ≤ d) (hd2 : d ≤ 1000000) :
    Calls Tryz.prog 37 #[dt y m d] w fun e w' => e = .returned (.string (str (dtx y m d))) ∧ Below w.heap.size w w' := by
  have zy : (str (Lib.itoa y)).size = (Lib.itoa y).length := rfl
  have ly := itoa_len y (by omega) (by omega)
  have sl1 : ({ data := #[45] } : ByteArray).size = 1 := rfl
  have zm : (str (Lib.itoa m)).size = (Lib.itoa m).length := rfl
  have lm := itoa_len m (by omega) (by omega)
  have zd : (str (Lib.itoa d)).size = (Lib.itoa d).length := rfl
  have ld := itoa_len d (by omega) (by omega)
  obtain ⟨Z1, q1, e1, k1⟩ := add_named (str (Lib.itoa y)) { data := #[45] } (by omega) (by omega)
  obtain ⟨Z2, q2, e2, k2⟩ := add_named Z1 (str (Lib.itoa m)) (by omega) (by omega)
  obtain ⟨Z3, q3, e3, k3⟩ := add_named Z2 { data := #[45] } (by omega) (by omega)
  obtain ⟨Z4, q4, e4, k4⟩ := add_named Z3 (str (Lib.itoa d)) (by omega) (by omega)
  have HZ : Hid (Z4 = str (dtx y m d)) := by
    unfold Hid
    rw [e4, e3, e2, e1]
    have e9 : ({ data := #[45] } : ByteArray) = str [45] := rfl
    rw [e9, str_append, str_append, str_append, str_append]
    unfold dtx
    simp only [List.append_assoc, List.cons_append, List.nil_append]
  have HCy := Lib.hid (fun W => digits_any y W (by omega) (by omega))
  have HCm := Lib.hid (fun W => digits_any m W (by omega) (by omega))
  have HCd := Lib.hid (fun W => digits_any d W (by omega) (by omega))
  have hb0 := (Below.refl w.heap.size w).alloc (Nat.le_refl _) (.cells #[.int .i64 y, .int .i64 m, .int .i64 d] 23)
  have g0 := heap_alloc_new w (.cells #[.int .i64 y, .int .i64 m, .int .i64 d] 23)
  have HB0 := Lib.hid hb0
  generalize str (Lib.itoa y) = Sy at *
  generalize str (Lib.itoa m) = Sm at *
  generalize str (Lib.itoa d) = Sd at *
  generalize str (dtx y m d) = R at *
  clear sl1 zy ly zm lm zd ld e1 k1 e2 k2 e3 k3 e4 k4
  obtain ⟨w1, hw1⟩ : ∃ w1, w.alloc (.cells #[.int .i64 y, .int .i64 m, .int .i64 d] 23) = w1 := ⟨_, rfl⟩
  rw [hw1] at hb0 g0
  have hlt : w.heap.size < w1.heap.size := by rw [← hw1]; simp
  have HSS := Lib.hid (show ∀ W, Below w1.heap.size w1 W → W.cell? ⟨w.heap.size, 0, none⟩ = some (.int .i64 y) ∧ W.cell? ⟨w.heap.size, 1, none⟩ = some (.int .i64 m) ∧ W.cell? ⟨w.heap.size, 2, none⟩ = some (.int .i64 d) from fun W hb => ⟨cell_blk ((hb.block _ hlt).trans g0) 0 rfl, cell_blk ((hb.block _ hlt).trans g0) 1 rfl, cell_blk ((hb.block _ hlt).trans g0) 2 rfl⟩)
  have HB := Lib.hid hb0
  have HW := Lib.hid hw1
  have hbd := below_dr w1
  clear hb0 g0 hw1 hlt HB0
  unfold dt
  go_enter Tryz.func37, Tryz.ntmps37
  go_wp2_with fail
  rw [HW.out]
  go_region_held3 (fun W => W.cell? ⟨w.heap.size, 0, none⟩ = some (.int .i64 y) ∧ W.cell? ⟨w.heap.size, 1, none⟩ = some (.int .i64 m) ∧ W.cell? ⟨w.heap.size, 2, none⟩ = some (.int .i64 d))
    (exact HSS.out _ (by assumption))
    (first
        | (go_at_call 36
           with_reducible refine (HCy.out _).mono ?_
           rintro e w4 ⟨rfl, rfl⟩)
        | (go_at_call 36
           with_reducible refine (HCm.out _).mono ?_
           rintro e w4 ⟨rfl, rfl⟩)
        | (go_at_call 36
           with_reducible refine (HCd.out _).mono ?_
           rintro e w4 ⟨rfl, rfl⟩)
    )
  all_goals
    go_wp2_with fail
    go_ret
    rw [HZ.out]
    exact ⟨rfl, HB.out.trans (hbd.mono HB.out.size)⟩

set_option maxRecDepth 100000 in
theorem refText0 (wk : Int) (w : World) (h1 : 0 ≤ wk) (h2 : wk ≤ 6) :
    Calls Tryz.prog 16 #[rv ⟨0, 0, 0, wk, 0, 0, 0, 0, 0, 0⟩] w fun e w' => e = .returned (.string (str (tx ⟨0, 0, 0, wk, 0, 0, 0, 0, 0, 0⟩))) ∧ Below w.heap.size w w' := by
  have sl8 : ({ data := #[119, 101, 101, 107, 100, 97, 121, 32] } : ByteArray).size = 8 := rfl
  have zwk : (str (Lib.itoa wk)).size = (Lib.itoa wk).length := rfl
  have lwk := itoa_len wk (by omega) (by omega)
  obtain ⟨Z1, q1, e1, k1⟩ := add_named { data := #[119, 101, 101, 107, 100, 97, 121, 32] } (str (Lib.itoa wk)) (by omega) (by omega)
  have HZ : Hid (Z1 = str (tx ⟨0, 0, 0, wk, 0, 0, 0, 0, 0, 0⟩)) := by
    unfold Hid
    rw [e1]
    have e9 : ({ data := #[119, 101, 101, 107, 100, 97, 121, 32] } : ByteArray) = str (wW ++ [32]) := rfl
    rw [e9, str_append]
    unfold tx
    simp only [List.append_assoc, List.cons_append, List.nil_append, if_true]
  have HC := Lib.hid (fun W => digits_any wk W (by omega) (by omega))
  have HB := Lib.hid ((Below.refl w.heap.size w).alloc (Nat.le_refl _) (.cells #[.int .i64 0, .int .i64 0, .int .i64 0, .int .i64 wk, .int .i64 0, .int .i64 0, .int .i64 0, .int .i64 0, .int .i64 0, .int .i64 0] 25))
  generalize str (Lib.itoa wk) = S at *
  generalize str (tx ⟨0, 0, 0, wk, 0, 0, 0, 0, 0, 0⟩) = R at *
  clear sl8 zwk lwk e1 k1
  unfold rv
  simp only
  go_enter Tryz.func16, Tryz.ntmps16
  go_wp2_with fail
  refine (HC.out _).mono ?_
  rintro e w1 ⟨rfl, rfl⟩
  go_wp2_with fail
  go_ret
  rw [HZ.out]
  exact ⟨rfl, HB.out⟩

set_option maxRecDepth 100000 in
set_option maxHeartbeats 2000000 in
theorem refText1 (mo n : Int) (w : World) (h1 : 0 ≤ mo) (h2 : mo ≤ 12) (h3 : -31 ≤ n) (h4 : n ≤ 31) :
    Calls Tryz.prog 16 #[rv ⟨1, mo, n, 0, 0, 0, 0, 0, 0, 0⟩] w fun e w' => e = .returned (.string (str (tx ⟨1, mo, n, 0, 0, 0, 0, 0, 0, 0⟩))) ∧ Below w.heap.size w w' := by
  have sl4 : ({ data := #[100, 97, 121, 32] } : ByteArray).size = 4 := rfl
  have zmo : (str (Lib.itoa mo)).size = (Lib.itoa mo).length := rfl
  have lmo := itoa_len mo (by omega) (by omega)
  have sl1 : ({ data := #[32] } : ByteArray).size = 1 := rfl
  have zn : (str (Lib.itoa n)).size = (Lib.itoa n).length := rfl
  have ln := itoa_len n (by omega) (by omega)
  obtain ⟨Z1, q1, e1, k1⟩ := add_named { data := #[100, 97, 121, 32] } (str (Lib.itoa mo)) (by omega) (by omega)
  obtain ⟨Z2, q2, e2, k2⟩ := add_named Z1 { data := #[32] } (by omega) (by omega)
  obtain ⟨Z3, q3, e3, k3⟩ := add_named Z2 (str (Lib.itoa n)) (by omega) (by omega)
  have HZ : Hid (Z3 = str (tx ⟨1, mo, n, 0, 0, 0, 0, 0, 0, 0⟩)) := by
    unfold Hid
    rw [e3, e2, e1]
    have e9 : ({ data := #[100, 97, 121, 32] } : ByteArray) = str (dW ++ [32]) := rfl
    have e8 : ({ data := #[32] } : ByteArray) = str [32] := rfl
    rw [e9, e8, str_append, str_append, str_append]
    unfold tx
    simp only [show ((1 : Int) = 0) = False by simp, List.append_assoc, List.cons_append, List.nil_append, if_true, if_false]
  have HCmo := Lib.hid (fun W => digits_any mo W (by omega) (by omega))
  have HCn := Lib.hid (fun W => digits_any n W (by omega) (by omega))
  have hb0 := (Below.refl w.heap.size w).alloc (Nat.le_refl _) (.cells #[.int .i64 1, .int .i64 mo, .int .i64 n, .int .i64 0, .int .i64 0, .int .i64 0, .int .i64 0, .int .i64 0, .int .i64 0, .int .i64 0] 25)
  have g0 := heap_alloc_new w (.cells #[.int .i64 1, .int .i64 mo, .int .i64 n, .int .i64 0, .int .i64 0, .int .i64 0, .int .i64 0, .int .i64 0, .int .i64 0, .int .i64 0] 25)
  have HB0 := Lib.hid hb0
  generalize str (Lib.itoa mo) = Smo at *
  generalize str (Lib.itoa n) = Sn at *
  generalize str (tx ⟨1, mo, n, 0, 0, 0, 0, 0, 0, 0⟩) = R at *
  clear sl1 sl4 zmo lmo zn ln e1 k1 e2 k2 e3 k3
  obtain ⟨w1, hw1⟩ : ∃ w1, w.alloc (.cells #[.int .i64 1, .int .i64 mo, .int .i64 n, .int .i64 0, .int .i64 0, .int .i64 0, .int .i64 0, .int .i64 0, .int .i64 0, .int .i64 0] 25) = w1 := ⟨_, rfl⟩
  rw [hw1] at hb0 g0
  have hlt : w.heap.size < w1.heap.size := by rw [← hw1]; simp
  have HSS := Lib.hid (show ∀ W, Below w1.heap.size w1 W → W.cell? ⟨w.heap.size, 1, none⟩ = some (.int .i64 mo) ∧ W.cell? ⟨w.heap.size, 2, none⟩ = some (.int .i64 n) from fun W hb => ⟨cell_blk ((hb.block _ hlt).trans g0) 1 rfl, cell_blk ((hb.block _ hlt).trans g0) 2 rfl⟩)
  have HB := Lib.hid hb0
  have HW := Lib.hid hw1
  have hbd := below_dr w1
  clear hb0 g0 hw1 hlt HB0
  unfold rv
  simp only
  go_enter Tryz.func16, Tryz.ntmps16
  go_wp2_with fail
  rw [HW.out]
  go_region_held3 (fun W => W.cell? ⟨w.heap.size, 1, none⟩ = some (.int .i64 mo) ∧ W.cell? ⟨w.heap.size, 2, none⟩ = some (.int .i64 n))
    (exact HSS.out _ (by assumption))
    (first
        | (go_at_call 36
           with_reducible refine (HCmo.out _).mono ?_
           rintro e w4 ⟨rfl, rfl⟩)
        | (go_at_call 36
           with_reducible refine (HCn.out _).mono ?_
           rintro e w4 ⟨rfl, rfl⟩)
    )
  all_goals
    go_wp2_with fail
    go_ret
    rw [HZ.out]
    exact ⟨rfl, HB.out.trans (hbd.mono HB.out.size)⟩

set_option maxRecDepth 100000 in
set_option maxHeartbeats 2000000 in
theorem refText2 (mo n wk : Int) (w : World) (h1 : 0 ≤ mo) (h2 : mo ≤ 12) (h3 : -5 ≤ n) (h4 : n ≤ 5) (h5 : 0 ≤ wk) (h6 : wk ≤ 6) :
    Calls Tryz.prog 16 #[rv ⟨2, mo, n, wk, 0, 0, 0, 0, 0, 0⟩] w fun e w' => e = .returned (.string (str (tx ⟨2, mo, n, wk, 0, 0, 0, 0, 0, 0⟩))) ∧ Below w.heap.size w w' := by
  have sl4 : ({ data := #[110, 116, 104, 32] } : ByteArray).size = 4 := rfl
  have zmo : (str (Lib.itoa mo)).size = (Lib.itoa mo).length := rfl
  have lmo := itoa_len mo (by omega) (by omega)
  have sl1 : ({ data := #[32] } : ByteArray).size = 1 := rfl
  have zn : (str (Lib.itoa n)).size = (Lib.itoa n).length := rfl
  have ln := itoa_len n (by omega) (by omega)
  have zwk : (str (Lib.itoa wk)).size = (Lib.itoa wk).length := rfl
  have lwk := itoa_len wk (by omega) (by omega)
  obtain ⟨Z1, q1, e1, k1⟩ := add_named { data := #[110, 116, 104, 32] } (str (Lib.itoa mo)) (by omega) (by omega)
  obtain ⟨Z2, q2, e2, k2⟩ := add_named Z1 { data := #[32] } (by omega) (by omega)
  obtain ⟨Z3, q3, e3, k3⟩ := add_named Z2 (str (Lib.itoa n)) (by omega) (by omega)
  obtain ⟨Z4, q4, e4, k4⟩ := add_named Z3 { data := #[32] } (by omega) (by omega)
  obtain ⟨Z5, q5, e5, k5⟩ := add_named Z4 (str (Lib.itoa wk)) (by omega) (by omega)
  have HZ : Hid (Z5 = str (tx ⟨2, mo, n, wk, 0, 0, 0, 0, 0, 0⟩)) := by
    unfold Hid
    rw [e5, e4, e3, e2, e1]
    have e9 : ({ data := #[110, 116, 104, 32] } : ByteArray) = str (nW ++ [32]) := rfl
    have e8 : ({ data := #[32] } : ByteArray) = str [32] := rfl
    rw [e9, e8, str_append, str_append, str_append, str_append, str_append]
    unfold tx
    simp only [show ((2 : Int) = 0) = False by simp, show ((2 : Int) = 1) = False by simp, List.append_assoc, List.cons_append, List.nil_append, if_true, if_false]
  have HCmo := Lib.hid (fun W => digits_any mo W (by omega) (by omega))
  have HCn := Lib.hid (fun W => digits_any n W (by omega) (by omega))
  have HCwk := Lib.hid (fun W => digits_any wk W (by omega) (by omega))
  have hb0 := (Below.refl w.heap.size w).alloc (Nat.le_refl _) (.cells #[.int .i64 2, .int .i64 mo, .int .i64 n, .int .i64 wk, .int .i64 0, .int .i64 0, .int .i64 0, .int .i64 0, .int .i64 0, .int .i64 0] 25)
  have g0 := heap_alloc_new w (.cells #[.int .i64 2, .int .i64 mo, .int .i64 n, .int .i64 wk, .int .i64 0, .int .i64 0, .int .i64 0, .int .i64 0, .int .i64 0, .int .i64 0] 25)
  have HB0 := Lib.hid hb0
  generalize str (Lib.itoa mo) = Smo at *
  generalize str (Lib.itoa n) = Sn at *
  generalize str (Lib.itoa wk) = Swk at *
  generalize str (tx ⟨2, mo, n, wk, 0, 0, 0, 0, 0, 0⟩) = R at *
  clear sl1 sl4 zmo lmo zn ln zwk lwk e1 k1 e2 k2 e3 k3 e4 k4 e5 k5
  obtain ⟨w1, hw1⟩ : ∃ w1, w.alloc (.cells #[.int .i64 2, .int .i64 mo, .int .i64 n, .int .i64 wk, .int .i64 0, .int .i64 0, .int .i64 0, .int .i64 0, .int .i64 0, .int .i64 0] 25) = w1 := ⟨_, rfl⟩
  rw [hw1] at hb0 g0
  have hlt : w.heap.size < w1.heap.size := by rw [← hw1]; simp
  have HSS := Lib.hid (show ∀ W, Below w1.heap.size w1 W → W.cell? ⟨w.heap.size, 1, none⟩ = some (.int .i64 mo) ∧ W.cell? ⟨w.heap.size, 2, none⟩ = some (.int .i64 n) ∧ W.cell? ⟨w.heap.size, 3, none⟩ = some (.int .i64 wk) from fun W hb => ⟨cell_blk ((hb.block _ hlt).trans g0) 1 rfl, cell_blk ((hb.block _ hlt).trans g0) 2 rfl, cell_blk ((hb.block _ hlt).trans g0) 3 rfl⟩)
  have HB := Lib.hid hb0
  have HW := Lib.hid hw1
  have hbd := below_dr w1
  clear hb0 g0 hw1 hlt HB0
  unfold rv
  simp only
  go_enter Tryz.func16, Tryz.ntmps16
  go_wp2_with fail
  rw [HW.out]
  go_region_held3 (fun W => W.cell? ⟨w.heap.size, 1, none⟩ = some (.int .i64 mo) ∧ W.cell? ⟨w.heap.size, 2, none⟩ = some (.int .i64 n) ∧ W.cell? ⟨w.heap.size, 3, none⟩ = some (.int .i64 wk))
    (exact HSS.out _ (by assumption))
    (first
        | (go_at_call 36
           with_reducible refine (HCmo.out _).mono ?_
           rintro e w4 ⟨rfl, rfl⟩)
        | (go_at_call 36
           with_reducible refine (HCn.out _).mono ?_
           rintro e w4 ⟨rfl, rfl⟩)
        | (go_at_call 36
           with_reducible refine (HCwk.out _).mono ?_
           rintro e w4 ⟨rfl, rfl⟩)
    )
  all_goals
    go_wp2_with fail
    go_ret
    rw [HZ.out]
    exact ⟨rfl, HB.out.trans (hbd.mono HB.out.size)⟩

set_option maxRecDepth 100000 in
set_option maxHeartbeats 2000000 in
theorem refText3 (fy fm fd ty tm td : Int) (w : World) (hf1 : 0 ≤ fy) (hf2 : fy ≤ 9999) (hf3 : 0 ≤ fm) (hf4 : fm ≤ 12) (hf5 : 0 ≤ fd) (hf6 : fd ≤ 31) (ht1 : 0 ≤ ty) (ht2 : ty ≤ 9999) (ht3 : 0 ≤ tm) (ht4 : tm ≤ 12) (ht5 : 0 ≤ td) (ht6 : td ≤ 31) :
    Calls Tryz.prog 16 #[rv ⟨3, 0, 0, 0, fy, fm, fd, ty, tm, td⟩] w fun e w' => e = .returned (.string (str (tx ⟨3, 0, 0, 0, fy, fm, fd, ty, tm, td⟩))) ∧ Below w.heap.size w w' := by
  have sl6 : ({ data := #[100, 97, 116, 101, 115, 32] } : ByteArray).size = 6 := rfl
  have zfy : (str (dtx fy fm fd)).size = (dtx fy fm fd).length := rfl
  have lfy := dtx_len fy fm fd (three_in (in64 (by omega) (by omega)) (in64 (by omega) (by omega)) (in64 (by omega) (by omega)))
  have sl1 : ({ data := #[32] } : ByteArray).size = 1 := rfl
  have zty : (str (dtx ty tm td)).size = (dtx ty tm td).length := rfl
  have lty := dtx_len ty tm td (three_in (in64 (by omega) (by omega)) (in64 (by omega) (by omega)) (in64 (by omega) (by omega)))
  obtain ⟨Z1, q1, e1, k1⟩ := add_named { data := #[100, 97, 116, 101, 115, 32] } (str (dtx fy fm fd)) (by omega) (by omega)
  obtain ⟨Z2, q2, e2, k2⟩ := add_named Z1 { data := #[32] } (by omega) (by omega)
  obtain ⟨Z3, q3, e3, k3⟩ := add_named Z2 (str (dtx ty tm td)) (by omega) (by omega)
  have HZ : Hid (Z3 = str (tx ⟨3, 0, 0, 0, fy, fm, fd, ty, tm, td⟩)) := by
    unfold Hid
    rw [e3, e2, e1]
    have e9 : ({ data := #[100, 97, 116, 101, 115, 32] } : ByteArray) = str (tW ++ [32]) := rfl
    have e8 : ({ data := #[32] } : ByteArray) = str [32] := rfl
    rw [e9, e8, str_append, str_append, str_append]
    unfold tx
    simp only [show ((3 : Int) = 0) = False by simp, show ((3 : Int) = 1) = False by simp, show ((3 : Int) = 2) = False by simp, List.append_assoc, List.cons_append, List.nil_append, if_false]
  have HCfy := Lib.hid (fun W => refDate_any fy fm fd W (by omega) (by omega) (by omega) (by omega) (by omega) (by omega))
  have HCty := Lib.hid (fun W => refDate_any ty tm td W (by omega) (by omega) (by omega) (by omega) (by omega) (by omega))
  have hb0 := (Below.refl w.heap.size w).alloc (Nat.le_refl _) (.cells #[.int .i64 3, .int .i64 0, .int .i64 0, .int .i64 0, .int .i64 fy, .int .i64 fm, .int .i64 fd, .int .i64 ty, .int .i64 tm, .int .i64 td] 25)
  have g0 := heap_alloc_new w (.cells #[.int .i64 3, .int .i64 0, .int .i64 0, .int .i64 0, .int .i64 fy, .int .i64 fm, .int .i64 fd, .int .i64 ty, .int .i64 tm, .int .i64 td] 25)
  have HB0 := Lib.hid hb0
  generalize str (dtx fy fm fd) = Sfy at *
  generalize str (dtx ty tm td) = Sty at *
  generalize str (tx ⟨3, 0, 0, 0, fy, fm, fd, ty, tm, td⟩) = R at *
  clear sl1 sl6 zfy lfy zty lty e1 k1 e2 k2 e3 k3
  obtain ⟨w1, hw1⟩ : ∃ w1, w.alloc (.cells #[.int .i64 3, .int .i64 0, .int .i64 0, .int .i64 0, .int .i64 fy, .int .i64 fm, .int .i64 fd, .int .i64 ty, .int .i64 tm, .int .i64 td] 25) = w1 := ⟨_, rfl⟩
  rw [hw1] at hb0 g0
  have hlt : w.heap.size < w1.heap.size := by rw [← hw1]; simp
  have HSS := Lib.hid (show ∀ W, Below w1.heap.size w1 W → W.cell? ⟨w.heap.size, 4, none⟩ = some (.int .i64 fy) ∧ W.cell? ⟨w.heap.size, 5, none⟩ = some (.int .i64 fm) ∧ W.cell? ⟨w.heap.size, 6, none⟩ = some (.int .i64 fd) ∧ W.cell? ⟨w.heap.size, 7, none⟩ = some (.int .i64 ty) ∧ W.cell? ⟨w.heap.size, 8, none⟩ = some (.int .i64 tm) ∧ W.cell? ⟨w.heap.size, 9, none⟩ = some (.int .i64 td) from fun W hb => ⟨cell_blk ((hb.block _ hlt).trans g0) 4 rfl, cell_blk ((hb.block _ hlt).trans g0) 5 rfl, cell_blk ((hb.block _ hlt).trans g0) 6 rfl, cell_blk ((hb.block _ hlt).trans g0) 7 rfl, cell_blk ((hb.block _ hlt).trans g0) 8 rfl, cell_blk ((hb.block _ hlt).trans g0) 9 rfl⟩)
  have HB := Lib.hid hb0
  have HW := Lib.hid hw1
  have hbd := below_dr w1
  clear hb0 g0 hw1 hlt HB0
  unfold rv
  unfold dt at HCfy HCty
  simp only
  go_enter Tryz.func16, Tryz.ntmps16
  go_wp2_with fail
  rw [HW.out]
  go_region_held3 (fun W => W.cell? ⟨w.heap.size, 4, none⟩ = some (.int .i64 fy) ∧ W.cell? ⟨w.heap.size, 5, none⟩ = some (.int .i64 fm) ∧ W.cell? ⟨w.heap.size, 6, none⟩ = some (.int .i64 fd) ∧ W.cell? ⟨w.heap.size, 7, none⟩ = some (.int .i64 ty) ∧ W.cell? ⟨w.heap.size, 8, none⟩ = some (.int .i64 tm) ∧ W.cell? ⟨w.heap.size, 9, none⟩ = some (.int .i64 td))
    (exact HSS.out _ (by assumption))
    (first
        | (go_at_call 37
           with_reducible refine (HCfy.out _).mono ?_
           rintro e w4 ⟨rfl, hb4⟩
           have hbe : Below w1.heap.size w1 w4 := hbd.trans (hb4.mono hbd.size)
           clear hb4 hbd)
        | (go_at_call 37
           with_reducible refine (HCty.out _).mono ?_
           rintro e w4 ⟨rfl, hb4⟩
           have hbd : Below w1.heap.size w1 w4 := hbe.trans (hb4.mono hbe.size)
           clear hb4 hbe)
    )
  all_goals
    go_wp2_with fail
    go_ret
    rw [HZ.out]
    exact ⟨rfl, HB.out.trans (hbd.mono HB.out.size)⟩

theorem refText_any (r : Rl) (w : World) (h : mayR r = true) :
    Calls Tryz.prog 16 #[rv r] w fun e w' => e = .returned (.string (str (tx r))) ∧ Below w.heap.size w w' := by
  rcases may_cases h with ⟨wk, rfl, h1, h2⟩ | ⟨mo, n, rfl, h1, h2, h3, h4, h5⟩ | ⟨mo, n, wk, rfl, h1, h2, h3, h4, h5, h6, h7⟩ | ⟨fy, fm, fd, ty, tm, td, rfl, h1, h2, h3, h4, h5, h6, h7⟩
  · exact refText0 wk w h1 h2
  · exact refText1 mo n w h1 h2 h4 h5
  · exact refText2 mo n wk w h1 h2 h4 h5 h6 h7
  · obtain ⟨a1, a2, a3, a4⟩ := okD_bd h1 h4 h5
    obtain ⟨b1, b2, b3, b4⟩ := okD_bd h2 h6 h7
    exact refText3 fy fm fd ty tm td w h4 h5 a1 a2 a3 a4 h6 h7 b1 b2 b3 b4
end Go.Proofs.YtjfmnflcgenpaaaGreatDoor

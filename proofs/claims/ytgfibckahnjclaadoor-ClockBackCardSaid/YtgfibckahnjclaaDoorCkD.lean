/- Contracts: the document's digits, Text, Hours; clock's isDigit, number. -/
import Derived.Test.YtgfibckahnjclaaDoorCkC
namespace Go.Proofs.YtgfibckahnjclaaDoor
open Go.RowKit

theorem str_append (a b : List UInt8) : str a ++ str b = str (a ++ b) := by
  apply ByteArray.ext
  simp [str]
theorem digit_slice (r : Nat) (h : r < 10) : (str [48, 49, 50, 51, 52, 53, 54, 55, 56, 57]).extract r (r + 1) = str [UInt8.ofNat (48 + r)] := by
  have : ∀ i : Fin 10, (str [48, 49, 50, 51, 52, 53, 54, 55, 56, 57]).extract i (i + 1) = str [UInt8.ofNat (48 + i.val)] := by decide
  exact this ⟨r, h⟩
theorem digit_run (m : Nat) (W : World) : (Instr.slice 9 (Value.string { data := #[48, 49, 50, 51, 52, 53, 54, 55, 56, 57] }) (some (Value.int IntKind.i64 (↑m % 10))) (some (Value.int IntKind.i64 (↑m % 10 + 1))) none).run Tryd.prog W = .ok (.string (str [UInt8.ofNat (48 + m % 10)])) W := by
  rw [run_slice_string _ _ _ _ _ _ _ Tryd.underlying9 (by omega) (by omega) (by show (m : Int) % 10 + 1 ≤ 10; omega)]
  rw [show ((m : Int) % 10).toNat = m % 10 by omega, show ((m : Int) % 10 + 1).toNat = m % 10 + 1 by omega]
  exact congrArg (fun x => Result.ok (Value.string x) W) (digit_slice (m % 10) (by omega))
def szOf : Value → Nat
  | .string b => b.size
  | _ => 0
set_option maxRecDepth 100000 in
theorem digits_any (n least : Nat) (w : World) (hn : n ≤ 4611686018427387904) (hl : least ≤ 2) :
    Calls Tryd.prog 33 #[.int .i64 n, .int .i64 least] w fun e w' => e = .returned (.string (str (dgs n least []))) ∧ w = w' := by
  go_enter Tryd.func33, Tryd.ntmps33
  go_wp2_with fail
  go_loop [0, 5] (fun i s => ∃ (m : Nat) (t : List UInt8), i = .int .i64 m ∧ m ≤ n ∧ s = .string (str t) ∧ dgs m least t = dgs n least [] ∧ t.length + m ≤ n + 2) (fun i s => (intOf i).toNat + (least - szOf s))
  case atStart => exact ⟨n, [], rfl, Nat.le_refl _, rfl, rfl, by simp⟩
  case round =>
    obtain ⟨m, t, rfl, hm, rfl, hd, hlen⟩ := hrel
    have HD := Lib.hid hd
    clear hd
    have hsz : (str t).size = t.length := rfl
    by_cases hc : 0 < m ∨ t.length < least
    · have HG := Lib.hid (dgs_go m least t hc)
      have HX := Lib.hid (digit_slice (m % 10) (by omega))
      have HC := Lib.hid hc
      obtain ⟨S, hS⟩ : ∃ S, str t = S := ⟨_, rfl⟩
      have HS := Lib.hid hS
      rw [hS] at hsz ⊢
      clear hS
      obtain ⟨L, hL⟩ : ∃ L, t.length = L := ⟨_, rfl⟩
      have HL := Lib.hid hL
      rw [hL] at hsz hc hlen
      clear hL
      have hL2 : L ≤ 4611686018427387906 := by omega
      rcases Nat.eq_zero_or_pos m with h0 | h0
      · subst h0
        have hlt : L < least := by omega
        clear hc
        go_wp2_with fail
        go_round
        case rel =>
          refine ⟨0, UInt8.ofNat (48 + 0 % 10) :: t, rfl, Nat.zero_le _, ?_, HG.out.symm.trans HD.out, by have := HL.out; simp only [List.length_cons]; omega⟩
          rw [← HS.out]
          exact congrArg Value.string ((congrArg (· ++ str t) HX.out).trans (str_append _ _))
        case measure =>
          simp only [szOf, intOf, ByteArray.size_append]
          have e1 : ({ data := #[48, 49, 50, 51, 52, 53, 54, 55, 56, 57] } : ByteArray).extract 0 1 = str [48] := HX.out
          rw [e1]
          have e2 : (str [48]).size = 1 := rfl
          rw [e2, hsz]
          omega
      · clear hc
        have hR := digit_run m w
        obtain ⟨D, hD⟩ : ∃ D, str [UInt8.ofNat (48 + m % 10)] = D := ⟨_, rfl⟩
        have hDs : D.size = 1 := by rw [← hD]; rfl
        have HDD := Lib.hid hD
        rw [hD] at hR
        clear HX hD
        go_wp2_with fail
        go_round
        case rel =>
          refine ⟨m / 10, UInt8.ofNat (48 + m % 10) :: t, by go_num, by omega, ?_, HG.out.symm.trans HD.out, by have := HL.out; simp only [List.length_cons]; omega⟩
          rw [← HS.out, ← HDD.out]
          exact congrArg Value.string (str_append _ _)
        case measure =>
          simp only [szOf, intOf, ByteArray.size_append]
          omega
    · have HE := Lib.hid (dgs_end m least t hc)
      have hc1 : ¬ 0 < m := by omega
      have hc2 : ¬ t.length < least := by omega
      obtain rfl : m = 0 := by omega
      clear hc hc1
      obtain ⟨S, hS⟩ : ∃ S, str t = S := ⟨_, rfl⟩
      have HS := Lib.hid hS
      rw [hS] at hsz ⊢
      clear hS
      obtain ⟨L, hL⟩ : ∃ L, t.length = L := ⟨_, rfl⟩
      rw [hL] at hsz hc2 hlen
      clear hL
      go_wp2_with fail
      go_ret
      exact ⟨congrArg (fun x => Ending.returned (Value.string x)) (by rw [← HD.out, HE.out, HS.out]), rfl⟩
theorem digits2 (i : Int) (n : Nat) (w : World) (h : i = n) (hn : n < 100) :
    Calls Tryd.prog 33 #[.int .i64 i, .int .i64 2] w fun e w' => e = .returned (.string (str (d2 n))) ∧ w = w' := by
  subst h
  have := digits_any n 2 w (by omega) (by omega)
  rw [dgs_two n hn] at this
  exact this
theorem digits1 (i : Int) (n : Nat) (w : World) (h : i = n) (h1 : 1 ≤ n) (hn : n ≤ 4611686018427387904) :
    Calls Tryd.prog 33 #[.int .i64 i, .int .i64 1] w fun e w' => e = .returned (.string (str (Lib.decDigits n))) ∧ w = w' := by
  subst h
  have := digits_any n 1 w hn (by omega)
  rw [dgs_one n h1] at this
  exact this
theorem ret_str {a b : ByteArray} (h : a = b) : Ending.returned (.string a) = .returned (.string b) := by rw [h]
theorem ret_strI {a b : ByteArray} {v : Value} (h : a = b) : Ending.returned (.tuple #[.string a, v]) = .returned (.tuple #[.string b, v]) := by rw [h]
theorem tx8_str (a m s : Nat) : str (d2 a) ++ str [58] ++ str (d2 m) ++ str [58] ++ str (d2 s) = str (tx8 a m s) := by
  simp only [str_append, tx8]
  congr 1
theorem tx5_str (a m : Nat) : str (d2 a) ++ str [58] ++ str (d2 m) = str (tx5 a m) := by
  simp only [str_append, tx5]
  congr 1
theorem d2_size (n : Nat) : (str (d2 n)).size = 2 := rfl
theorem tx8_size (a m s : Nat) : (str (tx8 a m s)).size = 8 := rfl
theorem tx5_size (a m : Nat) : (str (tx5 a m)).size = 5 := rfl
theorem tx8_cut (a m s : Nat) : (str (tx8 a m s)).extract 0 5 = str (tx5 a m) := by
  unfold str
  rw [ByteArray.extract_mk]
  rfl
set_option maxRecDepth 100000 in
theorem refText_any (i : Int) (s : Nat) (w : World) (hi : i = s) (hs : s ≤ 86400) :
    Calls Tryd.prog 34 #[.int .i64 i] w fun e w' => e = .returned (.string (str (tx8 (s / 3600) (s / 60 % 60) (s % 60)))) ∧ w = w' := by
  have HE := Lib.hid (tx8_str (s / 3600) (s / 60 % 60) (s % 60))
  have H1 := Lib.hid (fun (j : Int) (h : j = ((s / 3600 : Nat) : Int)) W => digits2 j (s / 3600) W h (by omega))
  have H2 := Lib.hid (fun (j : Int) (h : j = ((s / 60 % 60 : Nat) : Int)) W => digits2 j (s / 60 % 60) W h (by omega))
  have H3 := Lib.hid (fun (j : Int) (h : j = ((s % 60 : Nat) : Int)) W => digits2 j (s % 60) W h (by omega))
  have z1 := d2_size (s / 3600)
  have z2 := d2_size (s / 60 % 60)
  have z3 := d2_size (s % 60)
  generalize str (d2 (s / 3600)) = A at *
  generalize str (d2 (s / 60 % 60)) = B at *
  generalize str (d2 (s % 60)) = C at *
  generalize str (tx8 (s / 3600) (s / 60 % 60) (s % 60)) = R at *
  subst hi
  go_enter Tryd.func34, Tryd.ntmps34
  go_wp2_with fail
  refine (H1.out _ (by omega) _).mono ?_
  rintro e w' ⟨rfl, rfl⟩
  go_wp2_with fail
  refine (H2.out _ (by omega) _).mono ?_
  rintro e w' ⟨rfl, rfl⟩
  go_wp2_with fail
  refine (H3.out _ (by omega) _).mono ?_
  rintro e w' ⟨rfl, rfl⟩
  go_wp2_with fail
  go_ret
  exact ⟨ret_str HE.out, rfl⟩
/-- The text of a second. -/
def hrs (s : Nat) : List UInt8 := if s % 60 = 0 then tx5 (s / 3600) (s / 60 % 60) else tx8 (s / 3600) (s / 60 % 60) (s % 60)
set_option maxRecDepth 100000 in
theorem refHours_ok (s : Nat) (w : World) (hs : s ≤ 86400) :
    Calls Tryd.prog 20 #[.int .i64 s] w fun e w' => e = .returned (.tuple #[.string (str (hrs s)), .int .i64 0]) ∧ w = w' := by
  have HT := Lib.hid (fun W => refText_any s s W rfl hs)
  have hz := tx8_size (s / 3600) (s / 60 % 60) (s % 60)
  have HC := Lib.hid (tx8_cut (s / 3600) (s / 60 % 60) (s % 60))
  by_cases h0 : s % 60 = 0
  · have HR : Hid (str (tx5 (s / 3600) (s / 60 % 60)) = str (hrs s)) := by unfold Hid hrs; rw [if_pos h0]
    generalize str (tx8 (s / 3600) (s / 60 % 60) (s % 60)) = A at *
    generalize str (hrs s) = R at *
    have hd : ((s : Int) % 60 == 0) = true := by simp; omega
    go_enter Tryd.func20, Tryd.ntmps20
    go_wp2_with fail
    refine (HT.out _).mono ?_
    rintro e w' ⟨rfl, rfl⟩
    go_wp2_with fail
    go_ret2
    exact ⟨ret_strI (HC.out.trans HR.out), rfl⟩
  · have HR : Hid (str (tx8 (s / 3600) (s / 60 % 60) (s % 60)) = str (hrs s)) := by unfold Hid hrs; rw [if_neg h0]
    generalize str (tx8 (s / 3600) (s / 60 % 60) (s % 60)) = A at *
    generalize str (hrs s) = R at *
    have hd : ((s : Int) % 60 == 0) = false := by rw [beq_eq_false_iff_ne]; omega
    go_enter Tryd.func20, Tryd.ntmps20
    go_wp2_with fail
    refine (HT.out _).mono ?_
    rintro e w' ⟨rfl, rfl⟩
    go_wp2_with fail
    go_ret2
    exact ⟨ret_strI HR.out, rfl⟩
theorem refHours_no (s : Int) (w : World) (hs : s < 0 ∨ 86400 < s) :
    Calls Tryd.prog 20 #[.int .i64 s] w fun e w' => e = .returned (.tuple #[.string (str []), .int .i64 1]) ∧ w = w' := by
  have key : s < 0 ∨ (0 ≤ s ∧ 86400 < s) := by omega
  clear hs
  rcases key with h | ⟨h, h'⟩
  all_goals
    go_enter Tryd.func20, Tryd.ntmps20
    go_wp2_with fail
    go_ret2
    exact ⟨rfl, rfl⟩
theorem isDigit_yes (c : Int) (w : World) (h1 : 48 ≤ c) (h2 : c ≤ 57) :
    Calls Tryd.prog 50 #[.int .u8 c] w fun e w' => e = .returned (.bool true) ∧ w = w' := by
  go_enter Tryd.func50, Tryd.ntmps50
  go_wp2
  go_ret
  exact ⟨rfl, rfl⟩
theorem isDigit_no (c : Int) (w : World) (h : ¬ (48 ≤ c ∧ c ≤ 57)) :
    Calls Tryd.prog 50 #[.int .u8 c] w fun e w' => e = .returned (.bool false) ∧ w = w' := by
  by_cases h1 : 48 ≤ c
  · have h2 : ¬ c ≤ 57 := by omega
    clear h
    go_enter Tryd.func50, Tryd.ntmps50
    go_wp2
    go_ret
    exact ⟨rfl, rfl⟩
  · clear h
    go_enter Tryd.func50, Tryd.ntmps50
    go_wp2
    go_ret
    exact ⟨rfl, rfl⟩
theorem isDg_of {c : UInt8} (h : isDg c = true) : 48 ≤ (c.toNat : Int) ∧ (c.toNat : Int) ≤ 57 := by
  unfold isDg at h
  simp at h
  omega
theorem isDg_no {c : UInt8} (h : isDg c = false) : ¬ (48 ≤ (c.toNat : Int) ∧ (c.toNat : Int) ≤ 57) := by
  unfold isDg at h
  simp at h
  omega
theorem ret_numB {a b : Int} {v : Value} (h : a = b) : Ending.returned (.tuple #[.int .i64 a, v]) = .returned (.tuple #[.int .i64 b, v]) := by rw [h]
set_option maxRecDepth 100000 in
theorem number_two (a b : UInt8) (w : World) (ha : isDg a = true) (hb : isDg b = true) :
    Calls Tryd.prog 37 #[.string (str [a, b])] w fun e w' => e = .returned (.tuple #[.int .i64 ((((a.toNat - 48) * 10 + (b.toNat - 48)) : Nat) : Int), .bool true]) ∧ Below w.heap.size w w' := by
  obtain ⟨a1, a2⟩ := isDg_of ha
  obtain ⟨b1, b2⟩ := isDg_of hb
  clear ha hb
  have hsz : (str [a, b]).size = 2 := rfl
  have g0 : (str [a, b])[0]'(by rw [hsz]; omega) = a := rfl
  have g1 : (str [a, b])[1]'(by rw [hsz]; omega) = b := rfl
  have HE : Hid (((a.toNat : Int) - 48) * 10 + ((b.toNat : Int) - 48) = ((((a.toNat - 48) * 10 + (b.toNat - 48)) : Nat) : Int)) := by unfold Hid; omega
  generalize ((((a.toNat - 48) * 10 + (b.toNat - 48)) : Nat) : Int) = R at *
  go_enter Tryd.func37, Tryd.ntmps37
  go_wp2_with fail
  refine (isDigit_yes _ _ a1 a2).mono ?_
  rintro e w' ⟨rfl, rfl⟩
  go_wp2_with fail
  refine (isDigit_yes _ _ b1 b2).mono ?_
  rintro e w' ⟨rfl, rfl⟩
  go_wp2_with fail
  go_quiet (fail)
  go_wp2_with fail
  go_ret2
  exact ⟨ret_numB HE.out, below_drewN _ _⟩
set_option maxRecDepth 100000 in
theorem number_len (s : ByteArray) (w : World) (h : s.size ≠ 2) :
    Calls Tryd.prog 37 #[.string s] w fun e w' => e = .returned (.tuple #[.int .i64 0, .bool false]) ∧ w = w' := by
  obtain ⟨n, hn⟩ : ∃ n, s.size = n := ⟨_, rfl⟩
  rw [hn] at h
  have hd : ((n : Int) == 2) = false := by rw [beq_eq_false_iff_ne]; omega
  have hd2 : ((n : Int) != 2) = true := by simp; omega
  clear h
  go_enter Tryd.func37, Tryd.ntmps37
  go_wp2_with fail
  go_ret2
  exact ⟨rfl, rfl⟩
set_option maxRecDepth 100000 in
theorem number_bad (a b : UInt8) (w : World) (h : (isDg a && isDg b) = false) :
    Calls Tryd.prog 37 #[.string (str [a, b])] w fun e w' => e = .returned (.tuple #[.int .i64 0, .bool false]) ∧ w = w' := by
  have hsz : (str [a, b]).size = 2 := rfl
  have g0 : (str [a, b])[0]'(by rw [hsz]; omega) = a := rfl
  have g1 : (str [a, b])[1]'(by rw [hsz]; omega) = b := rfl
  cases ha : isDg a
  · have HN := Lib.hid (isDg_no ha)
    clear h ha
    go_enter Tryd.func37, Tryd.ntmps37
    go_wp2_with fail
    refine (isDigit_no _ _ HN.out).mono ?_
    rintro e w' ⟨rfl, rfl⟩
    go_wp2_with fail
    go_ret2
    exact ⟨rfl, rfl⟩
  · have HY := Lib.hid (isDg_of ha)
    have hb : isDg b = false := by rw [ha] at h; simpa using h
    have HN := Lib.hid (isDg_no hb)
    clear h ha hb
    go_enter Tryd.func37, Tryd.ntmps37
    go_wp2_with fail
    refine (isDigit_yes _ _ HY.out.1 HY.out.2).mono ?_
    rintro e w' ⟨rfl, rfl⟩
    go_wp2_with fail
    refine (isDigit_no _ _ HN.out).mono ?_
    rintro e w' ⟨rfl, rfl⟩
    go_wp2_with fail
    go_ret2
    exact ⟨rfl, rfl⟩
theorem bytes_two (s : ByteArray) (h : s.size = 2) : ∃ a b, s = str [a, b] ∧ s.data.toList = [a, b] := by
  have hl : s.data.toList.length = 2 := by simpa using h
  match hx : s.data.toList, hl with
  | [a, b], _ =>
    refine ⟨a, b, ?_, rfl⟩
    apply ByteArray.ext
    show s.data = [a, b].toArray
    rw [← hx]
/-- number, by what two digits tell. -/
theorem number_no (s : ByteArray) (w : World) (h : num2 s.data.toList = none) :
    Calls Tryd.prog 37 #[.string s] w fun e w' => e = .returned (.tuple #[.int .i64 0, .bool false]) ∧ Below w.heap.size w w' := by
  by_cases h2 : s.size = 2
  · obtain ⟨a, b, rfl, hl⟩ := bytes_two s h2
    rw [hl] at h
    refine (number_bad a b w ?_).mono ?_
    · unfold num2 at h
      split at h
      · rename_i h3 h4
        simp only [List.cons.injEq] at h4
        split at h
        · cases h
        · rename_i h5
          obtain ⟨rfl, rfl, _⟩ := h4
          simpa using h5
      · rename_i h3
        exact absurd rfl (h3 a b)
    · rintro e w' ⟨rfl, rfl⟩
      exact ⟨rfl, Below.refl _ _⟩
  · refine (number_len s w h2).mono ?_
    rintro e w' ⟨rfl, rfl⟩
    exact ⟨rfl, Below.refl _ _⟩
theorem number_yes (s : ByteArray) (v : Nat) (w : World) (h : num2 s.data.toList = some v) :
    Calls Tryd.prog 37 #[.string s] w fun e w' => e = .returned (.tuple #[.int .i64 v, .bool true]) ∧ Below w.heap.size w w' := by
  have h2 : s.size = 2 := by
    rcases Nat.decEq s.data.toList.length 2 with h3 | h3
    · rw [num2_len h3] at h
      cases h
    · simpa using h3
  obtain ⟨a, b, rfl, hl⟩ := bytes_two s h2
  rw [hl] at h
  unfold num2 at h
  simp only at h
  split at h
  · rename_i hd
    simp only [Bool.and_eq_true] at hd
    injection h with h
    subst h
    exact number_two a b w hd.1 hd.2
  · cases h
end Go.Proofs.YtgfibckahnjclaaDoor

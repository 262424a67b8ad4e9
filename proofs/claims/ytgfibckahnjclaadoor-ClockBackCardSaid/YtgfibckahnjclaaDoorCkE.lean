/- Contracts: strconv.Itoa, strings.Split at a colon; clock's pair, short, text, Hours. -/
import Derived.Test.YtgfibckahnjclaaDoorCkD
import Derived.Test.YtgfibckahnjclaaDoorShelfC
import Derived.Lib.AppendIntMem
namespace Go.Proofs.YtgfibckahnjclaaDoor
open Go.RowKit

/-- The library's table of tens. -/
def Pow (w : World) : Prop := Lib.TabIs Tryd.prog w "internal/strconv.uint64pow10" .u64 Lib.pow10Tab
theorem itoa_small (i : Int) (n : Nat) (w : World) (h : i = n) (hn : n < 100) :
    Calls Tryd.prog 29 #[.int .i64 i] w fun e w' => e = .returned (.string (str (Lib.decDigits n))) ∧ w = w' := by
  subst h
  refine (show Calls Tryd.prog 29 #[.int .i64 n] w _ from Any.strconv_Itoa_small Tryd.itoaS n hn w).mono ?_
  rintro e w' ⟨rfl, rfl⟩
  exact ⟨rfl, rfl⟩
theorem itoa_any (i : Int) (n : Nat) (w : World) (h : i = n) (hn : n ≤ 4611686018427387904) (hp : Pow w) :
    Calls Tryd.prog 29 #[.int .i64 i] w fun e w' => e = .returned (.string (str (Lib.decDigits n))) ∧ Below w.heap.size w w' := by
  subst h
  refine (show Calls Tryd.prog 29 #[.int .i64 n] w _ from Any.strconv_Itoa Tryd.itoaL n (by omega) (by omega) w hp).mono ?_
  rintro e w' ⟨rfl, k, os, rfl⟩
  refine ⟨?_, Lib.below_grow _ _ (Nat.le_refl _) _ _⟩
  unfold Lib.itoa
  rw [if_neg (by omega), Int.toNat_natCast]
  rfl
theorem Pow.below {w w' : World} (h : Pow w) (hb : Below w.heap.size w w') : Pow w' := Lib.tabBelow_of_tabIs h w' hb
set_option maxRecDepth 100000 in
theorem pair_any (i : Int) (n : Nat) (w : World) (h : i = n) (hn : n < 100) :
    Calls Tryd.prog 30 #[.int .i64 i] w fun e w' => e = .returned (.string (str (d2 n))) ∧ w = w' := by
  subst h
  have H1 := Lib.hid (fun (j : Int) (h : j = ((n / 10 : Nat) : Int)) W => itoa_small j (n / 10) W h (by omega))
  have H2 := Lib.hid (fun (j : Int) (h : j = ((n % 10 : Nat) : Int)) W => itoa_small j (n % 10) W h (by omega))
  rw [Lib.decDigits_one (show n / 10 < 10 by omega)] at H1
  rw [Lib.decDigits_one (show n % 10 < 10 by omega)] at H2
  have HE : Hid (str [UInt8.ofNat (48 + n / 10)] ++ str [UInt8.ofNat (48 + n % 10)] = str (d2 n)) := str_append _ _
  have z1 : (str [UInt8.ofNat (48 + n / 10)]).size = 1 := rfl
  have z2 : (str [UInt8.ofNat (48 + n % 10)]).size = 1 := rfl
  generalize str [UInt8.ofNat (48 + n / 10)] = A at *
  generalize str [UInt8.ofNat (48 + n % 10)] = B at *
  generalize str (d2 n) = R at *
  go_enter Tryd.func30, Tryd.ntmps30
  go_wp2_with fail
  refine (H1.out _ (by omega) _).mono ?_
  rintro e w' ⟨rfl, rfl⟩
  go_wp2_with fail
  refine (H2.out _ (by omega) _).mono ?_
  rintro e w' ⟨rfl, rfl⟩
  go_wp2_with fail
  go_ret
  exact ⟨ret_str HE.out, rfl⟩
set_option maxRecDepth 100000 in
theorem short_any (i : Int) (s : Nat) (w : World) (hi : i = s) (hs : s ≤ 86400) :
    Calls Tryd.prog 35 #[.int .i64 i] w fun e w' => e = .returned (.string (str (tx5 (s / 3600) (s / 60 % 60)))) ∧ w = w' := by
  subst hi
  have HE := Lib.hid (tx5_str (s / 3600) (s / 60 % 60))
  have H1 := Lib.hid (fun (j : Int) (h : j = ((s / 3600 : Nat) : Int)) W => pair_any j (s / 3600) W h (by omega))
  have H2 := Lib.hid (fun (j : Int) (h : j = ((s / 60 % 60 : Nat) : Int)) W => pair_any j (s / 60 % 60) W h (by omega))
  have z1 := d2_size (s / 3600)
  have z2 := d2_size (s / 60 % 60)
  generalize str (d2 (s / 3600)) = A at *
  generalize str (d2 (s / 60 % 60)) = B at *
  generalize str (tx5 (s / 3600) (s / 60 % 60)) = R at *
  go_enter Tryd.func35, Tryd.ntmps35
  go_wp2_with fail
  refine (H1.out _ (by omega) _).mono ?_
  rintro e w' ⟨rfl, rfl⟩
  go_wp2_with fail
  refine (H2.out _ (by omega) _).mono ?_
  rintro e w' ⟨rfl, rfl⟩
  go_wp2_with fail
  go_ret
  exact ⟨ret_str HE.out, rfl⟩
theorem tx58 (a m s : Nat) : str (tx5 a m) ++ str [58] ++ str (d2 s) = str (tx8 a m s) := by
  rw [← tx5_str, tx8_str]
set_option maxRecDepth 100000 in
theorem text_any (i : Int) (s : Nat) (w : World) (hi : i = s) (hs : s ≤ 86400) :
    Calls Tryd.prog 31 #[.int .i64 i] w fun e w' => e = .returned (.string (str (tx8 (s / 3600) (s / 60 % 60) (s % 60)))) ∧ w = w' := by
  subst hi
  have HE := Lib.hid (tx58 (s / 3600) (s / 60 % 60) (s % 60))
  have H1 := Lib.hid (fun (j : Int) (h : j = (s : Int)) W => short_any j s W h hs)
  have H2 := Lib.hid (fun (j : Int) (h : j = ((s % 60 : Nat) : Int)) W => pair_any j (s % 60) W h (by omega))
  have z1 := tx5_size (s / 3600) (s / 60 % 60)
  have z2 := d2_size (s % 60)
  generalize str (tx5 (s / 3600) (s / 60 % 60)) = A at *
  generalize str (d2 (s % 60)) = B at *
  generalize str (tx8 (s / 3600) (s / 60 % 60) (s % 60)) = R at *
  go_enter Tryd.func31, Tryd.ntmps31
  go_wp2_with fail
  refine (H1.out _ rfl _).mono ?_
  rintro e w' ⟨rfl, rfl⟩
  go_wp2_with fail
  refine (H2.out _ (by omega) _).mono ?_
  rintro e w' ⟨rfl, rfl⟩
  go_wp2_with fail
  go_ret
  exact ⟨ret_str HE.out, rfl⟩
set_option maxRecDepth 100000 in
theorem hours_ok (s : Nat) (w : World) (hs : s ≤ 86400) :
    Calls Tryd.prog 19 #[.int .i64 s] w fun e w' => e = .returned (.tuple #[.string (str (hrs s)), .nilIface]) ∧ w = w' := by
  have HT := Lib.hid (fun W => text_any s s W rfl hs)
  have HS := Lib.hid (fun W => short_any s s W rfl hs)
  by_cases h0 : s % 60 = 0
  · have HR : Hid (str (tx5 (s / 3600) (s / 60 % 60)) = str (hrs s)) := by unfold Hid hrs; rw [if_pos h0]
    generalize str (tx5 (s / 3600) (s / 60 % 60)) = A at *
    generalize str (hrs s) = R at *
    have hd : ((s : Int) % 60 == 0) = true := by simp; omega
    go_enter Tryd.func19, Tryd.ntmps19
    go_wp2_with fail
    refine (HS.out _).mono ?_
    rintro e w' ⟨rfl, rfl⟩
    go_wp2_with fail
    go_ret2
    exact ⟨ret_strI HR.out, rfl⟩
  · have HR : Hid (str (tx8 (s / 3600) (s / 60 % 60) (s % 60)) = str (hrs s)) := by unfold Hid hrs; rw [if_neg h0]
    generalize str (tx8 (s / 3600) (s / 60 % 60) (s % 60)) = A at *
    generalize str (hrs s) = R at *
    have hd : ((s : Int) % 60 == 0) = false := by rw [beq_eq_false_iff_ne]; omega
    go_enter Tryd.func19, Tryd.ntmps19
    go_wp2_with fail
    refine (HT.out _).mono ?_
    rintro e w' ⟨rfl, rfl⟩
    go_wp2_with fail
    go_ret2
    exact ⟨ret_strI HR.out, rfl⟩
theorem hours_no (s : Int) (w : World) (hs : s < 0 ∨ 86400 < s) :
    Calls Tryd.prog 19 #[.int .i64 s] w fun e w' => e = .returned (.tuple #[.string (str []), errK 1]) ∧ w = w' := by
  have key : s < 0 ∨ (0 ≤ s ∧ 86400 < s) := by omega
  clear hs
  rcases key with h | ⟨h, h'⟩
  all_goals
    go_enter Tryd.func19, Tryd.ntmps19
    go_wp2_with fail
    go_ret2
    exact ⟨rfl, rfl⟩
end Go.Proofs.YtgfibckahnjclaaDoor

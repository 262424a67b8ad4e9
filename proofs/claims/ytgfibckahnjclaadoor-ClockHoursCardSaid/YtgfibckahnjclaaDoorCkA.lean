/- Contracts of clock's Split, Join, Add and of what they call; of the document's Split, Join, Add. -/
import Derived.Test.YtgfibckahnjclaaDoorCkMath
import Derived.Test.YtgfibckahnjclaaDoorCvE
namespace Go.Proofs.YtgfibckahnjclaaDoor
open Go.RowKit

theorem isTime_yes (t : Int) (w : World) (h1 : 0 ≤ t) (h2 : t ≤ 4611686018427387904) :
    Calls Tryd.prog 23 #[.int .i64 t] w fun e w' => e = .returned (.bool true) ∧ w = w' := by
  go_enter Tryd.func23, Tryd.ntmps23
  go_wp2
  go_ret
  exact ⟨rfl, rfl⟩
theorem isTime_no (t : Int) (w : World) (h : t < 0 ∨ 4611686018427387904 < t) :
    Calls Tryd.prog 23 #[.int .i64 t] w fun e w' => e = .returned (.bool false) ∧ w = w' := by
  rcases h with h | h
  · go_enter Tryd.func23, Tryd.ntmps23
    go_wp2
    go_ret
    exact ⟨rfl, rfl⟩
  · have h0 : 0 ≤ t := by omega
    go_enter Tryd.func23, Tryd.ntmps23
    go_wp2
    go_ret
    exact ⟨ret_bool (decide_eq_false (by omega)), rfl⟩
theorem isOffset_yes (t : Int) (w : World) (h1 : -50400 ≤ t) (h2 : t ≤ 50400) :
    Calls Tryd.prog 24 #[.int .i64 t] w fun e w' => e = .returned (.bool true) ∧ w = w' := by
  go_enter Tryd.func24, Tryd.ntmps24
  go_wp2
  go_ret
  exact ⟨rfl, rfl⟩
theorem isOffset_no (t : Int) (w : World) (h : t < -50400 ∨ 50400 < t) :
    Calls Tryd.prog 24 #[.int .i64 t] w fun e w' => e = .returned (.bool false) ∧ w = w' := by
  rcases h with h | h
  · go_enter Tryd.func24, Tryd.ntmps24
    go_wp2
    go_ret
    exact ⟨rfl, rfl⟩
  · have h0 : -50400 ≤ t := by omega
    go_enter Tryd.func24, Tryd.ntmps24
    go_wp2
    go_ret
    exact ⟨ret_bool (decide_eq_false (by omega)), rfl⟩
/-- A time cut at both ends. -/
def near (t : Int) : Int := if t < 0 then 0 else if 4611686018427387904 < t then 4611686018427387904 else t
def addN (t b : Int) : Int := near (near t + b)
theorem near_bd (t : Int) : 0 ≤ near t ∧ near t ≤ 4611686018427387904 := by unfold near; split <;> (try split) <;> omega
theorem near_in {t : Int} (h1 : 0 ≤ t) (h2 : t ≤ 4611686018427387904) : near t = t := by unfold near; rw [if_neg (by omega), if_neg (by omega)]
theorem near_lo {t : Int} (h : t < 0) : near t = 0 := if_pos h
theorem near_hi {t : Int} (h : 4611686018427387904 < t) : near t = 4611686018427387904 := by unfold near; rw [if_neg (by omega), if_pos h]
theorem between_any (t : Int) (w : World) :
    Calls Tryd.prog 27 #[.int .i64 t] w fun e w' => e = .returned (.int .i64 (near t)) ∧ w = w' := by
  rcases Int.lt_or_le t 0 with h | h
  · rw [near_lo h]
    have h2 : t ≤ 4611686018427387904 := by omega
    go_enter Tryd.func27, Tryd.ntmps27
    go_wp2
    all_goals
      go_ret
      exact ⟨ret_int (by omega), rfl⟩
  · rcases Int.lt_or_le 4611686018427387904 t with h2 | h2
    · rw [near_hi h2]
      go_enter Tryd.func27, Tryd.ntmps27
      go_wp2
      all_goals
        go_ret
        exact ⟨ret_int (by omega), rfl⟩
    · rw [near_in h h2]
      go_enter Tryd.func27, Tryd.ntmps27
      go_wp2
      all_goals
        go_ret
        exact ⟨ret_int (by omega), rfl⟩
theorem add_any (t b : Int) (w : World) (hb1 : -9223372036854775808 ≤ b) (hb2 : b ≤ 9223372036854775807) :
    Calls Tryd.prog 15 #[.int .i64 t, .int .i64 b] w fun e w' => e = .returned (.int .i64 (addN t b)) ∧ w = w' := by
  have HC := Lib.hid (fun W => between_any t W)
  obtain ⟨n1, n2⟩ := near_bd t
  have H : Hid (near (near t + b) = addN t b) := rfl
  generalize addN t b = r at *
  generalize near t = n at *
  rcases Int.lt_or_le (4611686018427387904 - n) b with h | h
  · have H2 := Lib.hid (near_hi (t := n + b) (by omega))
    go_enter Tryd.func15, Tryd.ntmps15
    go_wp2_with fail
    refine (HC.out _).mono ?_
    rintro e w' ⟨rfl, rfl⟩
    go_wp2_with fail
    go_ret
    exact ⟨ret_int (H2.out.symm.trans H.out), rfl⟩
  · go_enter Tryd.func15, Tryd.ntmps15
    go_wp2_with fail
    refine (HC.out _).mono ?_
    rintro e w' ⟨rfl, rfl⟩
    go_wp2_with fail
    refine (between_any _ _).mono ?_
    rintro e w' ⟨rfl, rfl⟩
    go_wp2_with fail
    go_ret
    exact ⟨ret_int H.out, rfl⟩
theorem near_cases (t : Int) : t < 0 ∧ near t = 0 ∨ 0 ≤ t ∧ t ≤ 4611686018427387904 ∧ near t = t ∨ 4611686018427387904 < t ∧ near t = 4611686018427387904 := by
  rcases Int.lt_or_le t 0 with h | h
  · exact .inl ⟨h, near_lo h⟩
  · rcases Int.lt_or_le 4611686018427387904 t with h2 | h2
    · exact .inr (.inr ⟨h2, near_hi h2⟩)
    · exact .inr (.inl ⟨h, h2, near_in h h2⟩)
theorem refAdd_any (t b : Int) (w : World) (hb1 : -9223372036854775808 ≤ b) (hb2 : b ≤ 9223372036854775807) :
    Calls Tryd.prog 16 #[.int .i64 t, .int .i64 b] w fun e w' => e = .returned (.int .i64 (addN t b)) ∧ w = w' := by
  obtain ⟨n1, n2⟩ := near_bd t
  have ht := near_cases t
  have hn := near_cases (near t + b)
  have H : near (near t + b) = addN t b := rfl
  rw [H] at hn
  clear H
  generalize addN t b = r at *
  generalize near t = n at *
  rcases ht with ⟨ht, rfl⟩ | ⟨ht, ht2, rfl⟩ | ⟨ht, rfl⟩
  all_goals
    rcases hn with ⟨h, h2⟩ | ⟨h, h3, h2⟩ | ⟨h, h2⟩
    all_goals
      have H2 := Lib.hid h2
      clear h2
      have hs : b < 0 ∨ 0 ≤ b := by omega
      rcases hs with hs | hs
      all_goals
        first
        | (exfalso
           omega)
        | (go_enter Tryd.func16, Tryd.ntmps16
           go_wp2
           go_ret
           exact ⟨ret_int (by have := H2.out; omega), rfl⟩)

/-- A moment as a value. -/
def mo (d s : Int) : Value := .agg #[.int .i64 d, .int .i64 s]
def errK (n : Int) : Value := .iface 52 (.int .i64 n)
theorem ret_mo {a b c d : Int} {v : Value} (h : a = b) (h2 : c = d) : Ending.returned (.tuple #[.agg #[.int .i64 a, .int .i64 c], v]) = .returned (.tuple #[.agg #[.int .i64 b, .int .i64 d], v]) := by rw [h, h2]
end Go.Proofs.YtgfibckahnjclaaDoor

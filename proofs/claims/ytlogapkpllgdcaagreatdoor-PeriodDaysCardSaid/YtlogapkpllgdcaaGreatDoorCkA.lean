/- Contracts of clock's Split, Join, Add and of what they call; of the document's Split, Join, Add. -/
import Derived.Test.YtlogapkpllgdcaaGreatDoorMa7
import Derived.Test.YtlogapkpllgdcaaGreatDoorCv7
namespace Go.Proofs.YtlogapkpllgdcaaGreatDoor
open Go.RowKit

theorem isTime_yes (t : Int) (w : World) (h1 : 0 ≤ t) (h2 : t ≤ 4611686018427387904) :
    Calls Tryz.prog 72 #[.int .i64 t] w fun e w' => e = .returned (.bool true) ∧ w = w' := by
  go_enter Tryz.func72, Tryz.ntmps72
  go_wp2
  go_ret
  exact ⟨rfl, rfl⟩
theorem isTime_no (t : Int) (w : World) (h : t < 0 ∨ 4611686018427387904 < t) :
    Calls Tryz.prog 72 #[.int .i64 t] w fun e w' => e = .returned (.bool false) ∧ w = w' := by
  rcases h with h | h
  · go_enter Tryz.func72, Tryz.ntmps72
    go_wp2
    go_ret
    exact ⟨rfl, rfl⟩
  · have h0 : 0 ≤ t := by omega
    go_enter Tryz.func72, Tryz.ntmps72
    go_wp2
    go_ret
    exact ⟨ret_bool (decide_eq_false (by omega)), rfl⟩
theorem isOffset_yes (t : Int) (w : World) (h1 : -50400 ≤ t) (h2 : t ≤ 50400) :
    Calls Tryz.prog 73 #[.int .i64 t] w fun e w' => e = .returned (.bool true) ∧ w = w' := by
  go_enter Tryz.func73, Tryz.ntmps73
  go_wp2
  go_ret
  exact ⟨rfl, rfl⟩
theorem isOffset_no (t : Int) (w : World) (h : t < -50400 ∨ 50400 < t) :
    Calls Tryz.prog 73 #[.int .i64 t] w fun e w' => e = .returned (.bool false) ∧ w = w' := by
  rcases h with h | h
  · go_enter Tryz.func73, Tryz.ntmps73
    go_wp2
    go_ret
    exact ⟨rfl, rfl⟩
  · have h0 : -50400 ≤ t := by omega
    go_enter Tryz.func73, Tryz.ntmps73
    go_wp2
    go_ret
    exact ⟨ret_bool (decide_eq_false (by omega)), rfl⟩
/-- A time cut at both ends. -/
def near (t : Int) : Int := if t < 0 then 0 else if 4611686018427387904 < t then 4611686018427387904 else t
def addN (t b : Int) : Int := near (near t + b)
theorem near_bd (t : Int) : 0 ≤ near t ∧ near t ≤ 4611686018427387904 := by unfold near; split <;> (try split) <;> omega
theorem near_in {t : Int} (h1 : 0 ≤ t) (h2 : t ≤ 4611686018427387904) : near t = t := by unfold near; rw [if_neg (by omega), if_neg (by omega)]
theorem near_lo {t : Int} (h : t < 0) : near t = 0 := if_pos h
theorem near_hi {t : Int} (h : 4611686018427387904 < t) : near t = 4611686018427387904 := by unfold near; rw [if_neg (by omega), if_pos h]
theorem near_cases (t : Int) : t < 0 ∧ near t = 0 ∨ 0 ≤ t ∧ t ≤ 4611686018427387904 ∧ near t = t ∨ 4611686018427387904 < t ∧ near t = 4611686018427387904 := by
  rcases Int.lt_or_le t 0 with h | h
  · exact .inl ⟨h, near_lo h⟩
  · rcases Int.lt_or_le 4611686018427387904 t with h2 | h2
    · exact .inr (.inr ⟨h2, near_hi h2⟩)
    · exact .inr (.inl ⟨h, h2, near_in h h2⟩)
/-- A moment as a value. -/
def mo (d s : Int) : Value := .agg #[.int .i64 d, .int .i64 s]
def errK (n : Int) : Value := .iface 81 (.int .i64 n)
theorem ret_mo {a b c d : Int} {v : Value} (h : a = b) (h2 : c = d) : Ending.returned (.tuple #[.agg #[.int .i64 a, .int .i64 c], v]) = .returned (.tuple #[.agg #[.int .i64 b, .int .i64 d], v]) := by rw [h, h2]
end Go.Proofs.YtlogapkpllgdcaaGreatDoor

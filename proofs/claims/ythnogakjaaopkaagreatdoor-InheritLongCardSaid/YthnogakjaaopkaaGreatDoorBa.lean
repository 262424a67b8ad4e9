/- Contracts: which texts are words, and names: isWordByte, isMade, isWord, Name. -/
import Derived.Test.YthnogakjaaopkaaGreatDoorBp9
import Derived.Test.YthnogakjaaopkaaGreatDoorLx8
import Derived.Laws.EntriesVeiled
import Derived.Shelf.Abstract
namespace Go.Proofs.YthnogakjaaopkaaGreatDoor
open Go.RowKit

/-- A function of the program's own that can be called by its number. -/
def Ent1 (g : FuncId) : Prop := ∀ args w, (callFunc g args).run Tryz.prog w = .ok (.enter g args) w
/-- A byte's number is a word's; a name's. -/
def wdI (c : Int) : Bool := (decide (97 ≤ c) && decide (c ≤ 122)) || (decide (48 ≤ c) && decide (c ≤ 57)) || c == 95
def nmI (c : Int) : Bool := wdI c || (decide (65 ≤ c) && decide (c ≤ 90)) || c == 45 || c == 46
theorem wdI_byte (b : UInt8) : wdI (b.toNat : Int) = wdB b := by
  have : ∀ c : Fin 256, wdI ((UInt8.ofNat c).toNat : Int) = wdB (UInt8.ofNat c) := by decide +kernel
  have hc : UInt8.ofNat b.toNat = b := by simp
  have := this ⟨b.toNat, UInt8.toNat_lt b⟩
  rw [hc] at this
  exact this
theorem nmI_byte (b : UInt8) : nmI (b.toNat : Int) = nmB b := by
  have : ∀ c : Fin 256, nmI ((UInt8.ofNat c).toNat : Int) = nmB (UInt8.ofNat c) := by decide +kernel
  have hc : UInt8.ofNat b.toNat = b := by simp
  have := this ⟨b.toNat, UInt8.toNat_lt b⟩
  rw [hc] at this
  exact this
theorem isWordByte_any (c : Int) (w : World) : Calls Tryz.prog 83 #[.int .u8 c] w fun e w' => e = .returned (.bool (wdI c)) ∧ w = w' := by
  cases h1 : decide (97 ≤ c) <;> cases h2 : decide (c ≤ 122) <;> cases h3 : decide (48 ≤ c) <;> cases h4 : decide (c ≤ 57) <;> cases h5 : (c == 95)
  all_goals
    simp only [wdI, h1, h2, h3, h4, h5, Bool.and_true, Bool.and_false, Bool.or_true, Bool.or_false]
    go_enter Tryz.func83, Tryz.ntmps83
    go_wp2_with fail
    go_ret
    exact ⟨rfl, rfl⟩
theorem isNameByte_any (c : Int) (w : World) : Calls Tryz.prog 82 #[.int .u8 c] w fun e w' => e = .returned (.bool (nmI c)) ∧ w = w' := by
  have HW := Lib.hid (fun W => isWordByte_any c W)
  cases h0 : wdI c <;> cases h1 : decide (65 ≤ c) <;> cases h2 : decide (c ≤ 90) <;> cases h5 : (c == 45) <;> cases h6 : (c == 46)
  all_goals
    rw [h0] at HW
    simp only [nmI, h0, h1, h2, h5, h6, Bool.and_true, Bool.and_false, Bool.or_true, Bool.or_false]
    clear h0
    go_enter Tryz.func82, Tryz.ntmps82
    go_wp2_with fail
    refine (HW.out _).mono ?_
    rintro e w' ⟨rfl, rfl⟩
    go_wp2_with fail
    go_ret
    exact ⟨rfl, rfl⟩
/-- Made of bytes that p takes, neither empty nor too long. -/
def madeT (p : UInt8 → Bool) (s : Tx) : Bool := s.all p && decide (0 < s.length) && decide (s.length < 33)
theorem madeT_long {p : UInt8 → Bool} {s : Tx} (h : 32 < s.length) : madeT p s = false := by
  unfold madeT
  rw [decide_eq_false (p := s.length < 33) (by omega), Bool.and_false]
theorem madeT_short {p : UInt8 → Bool} {s : Tx} (h0 : s ≠ []) (h : ¬ 32 < s.length) : madeT p s = s.all p := by
  unfold madeT
  have := List.length_pos_iff.2 h0
  rw [decide_eq_true (p := s.length < 33) (by omega), decide_eq_true (p := 0 < s.length) this, Bool.and_true, Bool.and_true]
theorem all_upto {p : UInt8 → Bool} {l : Tx} {k : Nat} {x : UInt8} {r : Tx} (hd : l.drop k = x :: r) : (l.take (k + 1)).all p = ((l.take k).all p && p x) := by
  have hk : k < l.length := by
    rcases Nat.lt_or_ge k l.length with h | h
    · exact h
    · rw [List.drop_eq_nil_of_le h] at hd
      cases hd
  rw [List.drop_eq_getElem_cons hk] at hd
  injection hd with hd _
  rw [List.take_succ_eq_append_getElem hk, List.all_append, hd]
  simp
theorem all_stop {p : UInt8 → Bool} {l : Tx} {k : Nat} {x : UInt8} {r : Tx} (hd : l.drop k = x :: r) (hx : p x = false) : l.all p = false := by
  have hm : x ∈ l := List.mem_of_mem_drop (i := k) (by rw [hd]; simp)
  rw [Bool.eq_false_iff]
  intro h
  rw [List.all_eq_true.1 h x hm] at hx
  cases hx
set_option maxHeartbeats 1000000 in
set_option maxRecDepth 100000 in
theorem isMade_any (l : Tx) (g : FuncId) (eg : Ent1 g) (p : UInt8 → Bool) (w : World) (hl : l.length ≤ 4611686018427387904) (hp : ∀ (c : UInt8) W, Calls Tryz.prog g #[.int .u8 (c.toNat : Int)] W fun e W' => e = .returned (.bool (p c)) ∧ W = W') :
    Calls Tryz.prog 81 #[.string (str l), .func (.func g) #[] #[]] w fun e w' => e = .returned (.bool (madeT p l)) ∧ w = w' := by
  have HP := Lib.hid hp
  clear hp
  obtain ⟨n, hn⟩ : ∃ n, l.length = n := ⟨_, rfl⟩
  rw [hn] at hl
  have hs : (str l).size = n := hn
  unfold Ent1 at eg
  by_cases h0 : l = []
  · subst h0
    have e0 : madeT p [] = false := rfl
    rw [e0]
    have hE := str_ne8 (l := []) (b := true) rfl
    generalize str [] = s at hs hE ⊢
    clear e0 hn
    go_enter Tryz.func81, Tryz.ntmps81
    go_wp2_with fail
    go_ret
    exact ⟨rfl, rfl⟩
  have hE := str_ne8 (l := l) (b := false) (by cases l; exact absurd rfl h0; rfl)
  by_cases h1 : 32 < n
  · rw [madeT_long (by rw [hn]; exact h1)]
    have q : (32 : Int) < n := by omega
    generalize str l = s at hs hE ⊢
    clear hn h0
    go_enter Tryz.func81, Tryz.ntmps81
    go_wp2_with fail
    go_ret
    exact ⟨rfl, rfl⟩
  · rw [madeT_short h0 (by rw [hn]; exact h1)]
    have q : ¬ (32 : Int) < n := by omega
    have HN := Lib.hid hn
    obtain ⟨s, hS⟩ : ∃ s, str l = s := ⟨_, rfl⟩
    have HS := Lib.hid hS
    rw [hS] at hs hE ⊢
    clear hn h0 hS
    go_enter Tryz.func81, Tryz.ntmps81
    go_wp2_with fail
    clear hE q
    go_loopw [15] (fun i wr => ∃ k : Nat, i = .int .i64 k ∧ k ≤ n ∧ wr = w ∧ (l.take k).all p = true) (fun i _ => n - (intOf i).toNat)
    case atStart => exact ⟨0, rfl, Nat.zero_le _, rfl, rfl⟩
    case round =>
      obtain ⟨k, rfl, hk, rfl, hall⟩ := hrel
      have HA := Lib.hid hall
      clear hall
      rcases Nat.lt_or_ge k n with hlt | hge
      · obtain ⟨x, r, e1, e2, S', e3, hs', hx, hc⟩ := at_facts l n k HN.out hlt
        obtain rfl : S' = s := e3.symm.trans HS.out
        have q0 : (0 : Int) ≤ k := by omega
        have q1 : (k : Int) < n := by omega
        have hP := Lib.hid (fun W => HP.out x W)
        have hD := Lib.hid e1
        clear e1 e2 e3 hc
        cases hpx : p x
        · have hX := Lib.hid hpx
          rw [hpx] at hP
          clear hpx
          go_wp2_with fail
          refine (hP.out _).mono ?_
          rintro e w' ⟨rfl, rfl⟩
          go_wp2_with fail
          go_ret
          exact ⟨ret_bool8 (all_stop hD.out hX.out).symm, rfl⟩
        · have hX := Lib.hid hpx
          rw [hpx] at hP
          clear hpx
          go_wp2_with fail
          refine (hP.out _).mono ?_
          rintro e w' ⟨rfl, rfl⟩
          go_wp2_with fail
          exact ⟨⟨k + 1, by go_num, hlt, by trivial, by rw [all_upto hD.out, HA.out, hX.out]; rfl⟩, by simp [intOf]; omega⟩
      · obtain rfl : k = n := by omega
        have q1 : ¬ ((k : Int) < k) := by omega
        go_wp2_with fail
        go_ret
        have h2 := HA.out
        rw [List.take_of_length_le (by rw [HN.out]; exact Nat.le_refl _)] at h2
        exact ⟨ret_bool8 h2.symm, rfl⟩
theorem entWord : Ent1 83 := enters_of Tryz.func83 (by kernel_rfl) rfl
theorem entName : Ent1 82 := enters_of Tryz.func82 (by kernel_rfl) rfl
set_option maxRecDepth 100000 in
theorem name_any (l : Tx) (w : World) (hl : l.length ≤ 4611686018427387904) : Calls Tryz.prog 65 #[.string (str l)] w fun e w' => e = .returned (.bool (nameT l)) ∧ w = w' := by
  have HM := Lib.hid (fun W => isMade_any l _ entName nmB W hl fun c W => by rw [← nmI_byte]; exact isNameByte_any _ W)
  have e : madeT nmB l = nameT l := rfl
  rw [e] at HM
  generalize nameT l = B at *
  generalize str l = S at *
  clear e hl
  go_enter Tryz.func65, Tryz.ntmps65
  go_wp2_with fail
  refine (HM.out _).mono ?_
  rintro e w' ⟨rfl, rfl⟩
  go_wp2_with fail
  go_ret
  exact ⟨rfl, rfl⟩
end Go.Proofs.YthnogakjaaopkaaGreatDoor

/- Contract: the document's Parse. -/
import Derived.Test.YtgfibckahnjclaaDoorCkH
import Derived.StillTailTactics
namespace Go.Proofs.YtgfibckahnjclaaDoor
open Go.RowKit

/-- What stands at place k of a text. -/
def chk (c : UInt8) (k : Nat) : Prop := if k % 3 = 2 then c = 58 else isDg c = true
theorem chk_colon {c : UInt8} {k : Nat} (h : chk c k) (hk : k % 3 = 2) : (c.toNat : Int) = 58 := by
  unfold chk at h
  rw [if_pos hk] at h
  subst h
  rfl
theorem chk_digit {c : UInt8} {k : Nat} (h : chk c k) (hk : k % 3 ≠ 2) : 48 ≤ (c.toNat : Int) ∧ (c.toNat : Int) ≤ 57 := by
  unfold chk at h
  rw [if_neg hk] at h
  exact isDg_of h
theorem not_colon {c : UInt8} {k : Nat} (h : ¬ chk c k) (hk : k % 3 = 2) : (c.toNat : Int) ≠ 58 := by
  unfold chk at h
  rw [if_pos hk] at h
  intro e
  exact h (u8_of c 58 (by omega))
theorem not_digit {c : UInt8} {k : Nat} (h : ¬ chk c k) (hk : k % 3 ≠ 2) : (c.toNat : Int) < 48 ∨ (48 ≤ (c.toNat : Int) ∧ 57 < (c.toNat : Int)) := by
  unfold chk at h
  rw [if_neg hk] at h
  have := isDg_no (c := c) (by simpa using h)
  omega
set_option maxRecDepth 100000 in
set_option maxHeartbeats 2000000 in
theorem refParse_bad (s : ByteArray) (w : World) (j : Nat) (hj : j < s.size) (hsz : s.size = 5 ∨ s.size = 8) (hok : ∀ k (h : k < s.size), k < j → chk s[k] k) (hbad : ¬ chk s[j] j) :
    Calls Tryd.prog 22 #[.string s] w fun e w' => e = .returned (.tuple #[.int .i64 0, .int .i64 3]) ∧ w = w' := by
  have HOK := Lib.hid hok
  have HBAD := Lib.hid hbad
  clear hok hbad
  obtain ⟨n, hn⟩ : ∃ n, s.size = n := ⟨_, rfl⟩
  have hjn : j < n := by rw [← hn]; exact hj
  rw [hn] at hsz
  rcases hsz with rfl | rfl
  all_goals
    go_enter Tryd.func22, Tryd.ntmps22
    go_wp2_with fail
    go_loop [4] (fun i => ∃ k : Nat, i = .int .i64 k ∧ k ≤ j) (fun i => j + 1 - (intOf i).toNat)
    case atStart => exact ⟨0, rfl, Nat.zero_le _⟩
    case round =>
      obtain ⟨k, rfl, hk⟩ := hrel
      have hks : k < s.size := by omega
      by_cases he : k = j
      · subst he
        have HB2 := HBAD
        clear HOK HBAD
        obtain ⟨c, hc⟩ : ∃ c, s[k] = c := ⟨_, rfl⟩
        rw [hc] at HB2
        by_cases h3 : k % 3 = 2
        · have h58 := not_colon HB2.out h3
          have d1 : ((c.toNat : Int) == 58) = false := by rw [beq_eq_false_iff_ne]; exact h58
          have d2 : ((c.toNat : Int) != 58) = true := by simp [d1, bne]
          have d3 : ((k : Int) % 3 == 2) = true := by simp; omega
          clear h58 h3 HB2
          go_wp2_with fail
          go_ret2
          exact ⟨rfl, rfl⟩
        · have hdg := not_digit HB2.out h3
          have d3 : ((k : Int) % 3 == 2) = false := by rw [beq_eq_false_iff_ne]; omega
          have d4 : ((k : Int) % 3 != 2) = true := by simp [d3, bne]
          clear h3 HB2
          rcases hdg with h | ⟨h, h'⟩
          · go_wp2_with fail
            go_ret2
            exact ⟨rfl, rfl⟩
          · go_wp2_with fail
            go_ret2
            exact ⟨rfl, rfl⟩
      · have HO := Lib.hid (HOK.out k hks (by omega))
        obtain ⟨c, hc⟩ : ∃ c, s[k] = c := ⟨_, rfl⟩
        rw [hc] at HO
        have hk5 := Lib.hid (show k < j by omega)
        by_cases h3 : k % 3 = 2
        · have h58 := chk_colon HO.out h3
          have d3 : ((k : Int) % 3 == 2) = true := by simp; omega
          have d4 : ((k : Int) % 3 != 2) = false := by simp; omega
          clear h3 HO he
          go_wp2_with fail
          go_round
          case rel => exact ⟨k + 1, by go_num, hk5.out⟩
          case measure => have := hk5.out; simp [intOf]; omega
        · obtain ⟨hd1, hd2⟩ := chk_digit HO.out h3
          have d3 : ((k : Int) % 3 == 2) = false := by rw [beq_eq_false_iff_ne]; omega
          have d4 : ((k : Int) % 3 != 2) = true := by simp [d3, bne]
          clear h3 HO he
          go_wp2_with fail
          go_round
          case rel => exact ⟨k + 1, by go_num, hk5.out⟩
          case measure => have := hk5.out; simp [intOf]; omega
theorem refParse_len (s : ByteArray) (w : World) (h : s.size ≠ 5) (h' : s.size ≠ 8) :
    Calls Tryd.prog 22 #[.string s] w fun e w' => e = .returned (.tuple #[.int .i64 0, .int .i64 3]) ∧ w = w' := by
  obtain ⟨n, hn⟩ : ∃ n, s.size = n := ⟨_, rfl⟩
  rw [hn] at h h'
  have d1 : ((n : Int) == 5) = false := by rw [beq_eq_false_iff_ne]; omega
  have d2 : ((n : Int) != 8) = true := by simp; omega
  have d3 : ((n : Int) == 8) = false := by rw [beq_eq_false_iff_ne]; omega
  have d4 : ((n : Int) != 5) = true := by simp; omega
  clear h h'
  go_enter Tryd.func22, Tryd.ntmps22
  go_wp2_with fail
  go_ret2
  exact ⟨rfl, rfl⟩
end Go.Proofs.YtgfibckahnjclaaDoor

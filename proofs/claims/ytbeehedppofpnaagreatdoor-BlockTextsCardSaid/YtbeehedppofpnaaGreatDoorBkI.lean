/- Contracts: the library's IndexRune in "\n;" at every character; ContainsAny. -/
import Derived.Test.YtbeehedppofpnaaGreatDoorLxI
import Derived.Test.YtbeehedppofpnaaGreatDoorBkB
import Derived.Shelf.Strings.IndexAnyAll
namespace Go.Proofs.YtbeehedppofpnaaGreatDoor
open Go.RowKit

def sem (c : UInt8) : Bool := c == 10 || c == 59
def semR (r : Nat) : Bool := r == 10 || r == 59
theorem semR_byte (b : UInt8) : semR b.toNat = sem b := by
  have : ∀ c : Fin 256, semR (UInt8.ofNat c).toNat = sem (UInt8.ofNat c) := by decide +kernel
  have hc : UInt8.ofNat b.toNat = b := by simp
  have := this ⟨b.toNat, UInt8.toNat_lt b⟩
  rw [hc] at this
  exact this
theorem idx_sem (c : UInt8) : decide (0 ≤ Lib.indexByte [10, 59] c) = sem c := by
  unfold sem
  by_cases h1 : c = 10
  · subst h1; decide
  · by_cases h2 : c = 59
    · subst h2; decide
    · have e1 : (10 == c) = false := beq_eq_false_iff_ne.2 fun e => h1 e.symm
      have e2 : (59 == c) = false := beq_eq_false_iff_ne.2 fun e => h2 e.symm
      have f1 : (c == 10) = false := beq_eq_false_iff_ne.2 h1
      have f2 : (c == 59) = false := beq_eq_false_iff_ne.2 h2
      simp [Lib.indexByte, e1, e2, f1, f2]
/-- What IndexRune tells of a character: at least 0 if it is a blank, -1 if not. -/
def Ix9 (r : Nat) (w : World) (e : Ending) (w' : World) : Prop := ∃ i : Int, e = .returned (.int .i64 i) ∧ decide (0 ≤ i) = semR r ∧ Below w.heap.size w w'
theorem semR_no {r : Nat} (h : 128 ≤ r) : semR r = false := by
  unfold semR
  simp only [Bool.or_eq_false_iff, beq_eq_false_iff_ne]
  omega
set_option maxRecDepth 100000 in
theorem ix_low9 (r : Nat) (S : ByteArray) (w : World) (hS : S = str [10, 59]) (hr : r < 128) : Calls Tryz.prog 93 #[.string S, .int .i32 (r : Int)] w (Ix9 r w) := by
  obtain ⟨c, hc⟩ : ∃ c : UInt8, c.toNat = r := ⟨UInt8.ofNat r, by simp; omega⟩
  have HB := Lib.hid (fun W => libByte_any [10, 59] c W)
  rw [← hS, hc] at HB
  have HI := Lib.hid (idx_sem c)
  have HR := Lib.hid (semR_byte c)
  rw [hc] at HR
  obtain ⟨i, hi⟩ : ∃ i, Lib.indexByte [10, 59] c = i := ⟨_, rfl⟩
  rw [hi] at HB HI
  have q : (r : Int) < 128 := by omega
  clear hi hS hc
  go_enter Tryz.func93, Tryz.ntmps93
  go_wp2_with fail
  refine (HB.out _).mono ?_
  rintro e w' ⟨rfl, rfl⟩
  go_wp2_with fail
  go_ret
  exact ⟨i, rfl, by rw [HI.out, HR.out], Below.refl _ _⟩
set_option maxRecDepth 100000 in
theorem ix_bad9 (r : Nat) (S : ByteArray) (w : World) (h1 : 55296 ≤ r) (h2 : r ≤ 57343) : Calls Tryz.prog 93 #[.string S, .int .i32 (r : Int)] w (Ix9 r w) := by
  have HV := Lib.hid (fun W => valid_no r W h1 h2)
  have HR := Lib.hid (semR_no (r := r) (by omega))
  have q : ¬ ((r : Int) < 128) := by omega
  have q2 : ((r : Int) == 65533) = false := beq_eq_false_iff_ne.2 (by omega)
  have q3 : ¬ (r : Int) = 65533 := by omega
  have q4 : (0 : Int) ≤ r := by omega
  clear h1 h2
  go_enter Tryz.func93, Tryz.ntmps93
  go_wp2_with fail
  refine (HV.out _).mono ?_
  rintro e w' ⟨rfl, rfl⟩
  go_wp2_with fail
  go_ret
  exact ⟨-1, rfl, by rw [HR.out]; rfl, Below.refl _ _⟩
set_option maxHeartbeats 2000000 in
set_option maxRecDepth 100000 in
theorem ix_high9 (r : Nat) (S : ByteArray) (w : World) (hS : S = str [10, 59]) (h1 : 128 ≤ r) (h2 : r < 55296 ∨ (57344 ≤ r ∧ r ≤ 1114111)) (h3 : r ≠ 65533) : Calls Tryz.prog 93 #[.string S, .int .i32 (r : Int)] w (Ix9 r w) := by
  have HV := Lib.hid (fun W => valid_yes r W h2)
  have HR := Lib.hid (semR_no (r := r) (by omega))
  have q : ¬ ((r : Int) < 128) := by omega
  have q2 : ((r : Int) == 65533) = false := beq_eq_false_iff_ne.2 (by omega)
  have q3 : ¬ (r : Int) = 65533 := by omega
  have q4 : (0 : Int) ≤ r := by omega
  obtain ⟨K, E, y, hE, hK, hs, hy, hyh⟩ := enc_facts r h1 h2
  have hcv : ∀ W, (convert 21 9 (.int .i32 (r : Int))).run Tryz.prog W = .ok (.string E) W := fun W => by
    rw [run_convert_int_string (P := Tryz.prog) W _ _ .i32 (r : Int) (by rw [Tryz.underlying21]; rfl) Tryz.underlying9, hE]
  have HYh := Lib.hid hyh
  have hSz : S.size = 2 := by rw [hS]; rfl
  have HS := Lib.hid hS
  clear h1 h2 h3 hE hyh hS
  go_enter Tryz.func93, Tryz.ntmps93
  go_wp2_with fail
  refine (HV.out _).mono ?_
  rintro e w' ⟨rfl, rfl⟩
  go_wp2_with fail
  go_step3
  have hrest : Lib.indexByte ([] : Tx) y = -1 := rfl
  rcases K with _ | _ | _ | K
  case' zero =>
    have hb : Hid (∀ W, Calls Tryz.prog 105 #[.string ByteArray.empty, .int .u8 (y.toNat : Int)] W fun e w' => e = .returned (.int .i64 (-1)) ∧ W = w') := fun W => by
      have h1 := libByte_any [] y W
      rw [hrest] at h1
      exact h1
    have hx : (S[1]'(by rw [hSz]; omega)) = 59 := by
      have := HS.out
      subst this
      rfl
    have hsz2 : E.size = 2 := hs
    have hy2 : E[1]'(by rw [hsz2]; omega) = y := hy
    have hyn : ¬ ((59 : Int) = (y.toNat : Int)) := by have := HYh.out; omega
    clear hrest hy hs hK
  case succ.succ.succ => omega
  case succ.zero =>
    have hsz2 : E.size = 3 := hs
    clear hrest hy hs hK
    go_wp2_with fail
    refine wp_loop_rounds 1 ?_
    rw [rounds_succ]
    go_wp2_with fail
    go_ret
    exact ⟨-1, rfl, by rw [HR.out]; rfl, Below.refl _ _⟩
  case succ.succ.zero =>
    have hsz2 : E.size = 4 := hs
    clear hrest hy hs hK
    go_wp2_with fail
    refine wp_loop_rounds 1 ?_
    rw [rounds_succ]
    go_wp2_with fail
    go_ret
    exact ⟨-1, rfl, by rw [HR.out]; rfl, Below.refl _ _⟩
  all_goals
    go_wp2_with fail
    refine wp_loop_rounds 1 ?_
    rw [rounds_succ]
    go_wp2_with fail
    go_step3
    go_wp2_with fail
    go_quiet (fail)
    go_wp2_with fail
    go_region_with (first
      | (go_at_call 105
         refine (hb.out _).mono ?_
         rintro e w' ⟨rfl, rfl⟩))
    go_wp2_with fail
    all_goals
      simp only [Exit.noGoto_ret, Exit.inBlock, Exit.then]
      go_ret
      exact ⟨-1, rfl, by rw [HR.out]; rfl, ⟨rfl, rfl, rfl, Nat.le_refl _, fun _ _ => rfl⟩⟩
set_option maxHeartbeats 2000000 in
set_option maxRecDepth 100000 in
theorem ix_err9 (S : ByteArray) (w : World) (hS : S = str [10, 59]) : Calls Tryz.prog 93 #[.string S, .int .i32 65533] w (Ix9 65533 w) := by
  have hSz : S.size = 2 := by rw [hS]; rfl
  have s0 : S[0]'(by rw [hSz]; omega) = 10 := by subst hS; rfl
  have s1 : S[1]'(by rw [hSz]; omega) = 59 := by subst hS; rfl
  obtain ⟨b, hb⟩ : ∃ b, w.heap.size = b := ⟨_, rfl⟩
  obtain ⟨w0, hw0⟩ : ∃ x, w.iter S 0 = x := ⟨_, rfl⟩
  have h0 : w0.heap[b]? = some (.stringIter S 0) := by rw [← hw0, ← hb]; exact World.iter_heap w S 0
  have n0 := fun ty => Lib.run_next_ascii_at (P := Tryz.prog) w0 b S 0 ty h0 (by rw [hSz]; omega) (by rw [s0]; decide)
  obtain ⟨w1, hw1⟩ : ∃ x, w0.iterAt b S 1 = x := ⟨_, rfl⟩
  have h1 : w1.heap[b]? = some (.stringIter S 1) := by rw [← hw1]; exact Lib.iterAt_heap _ _ _ _ _ h0
  have n1 := fun ty => Lib.run_next_ascii_at (P := Tryz.prog) w1 b S 1 ty h1 (by rw [hSz]; omega) (by rw [s1]; decide)
  obtain ⟨w2, hw2⟩ : ∃ x, w1.iterAt b S 2 = x := ⟨_, rfl⟩
  have h2 : w2.heap[b]? = some (.stringIter S 2) := by rw [← hw2]; exact Lib.iterAt_heap _ _ _ _ _ h1
  have n3 := fun ty => Lib.run_next_end_at (P := Tryz.prog) w2 b S 2 ty h2 (by rw [hSz]; omega)
  rw [s0, hw1] at n0
  rw [s1, hw2] at n1
  have e32 : (((10 : UInt8).toNat : Nat) : Int) = 10 := rfl
  have e9 : (((59 : UInt8).toNat : Nat) : Int) = 59 := rfl
  rw [e32] at n0
  rw [e9] at n1
  have HB : Hid (Below w.heap.size w w2) := by
    unfold Hid
    rw [← hw2, ← hw1, ← hw0]
    have hz : Below w.heap.size w (w.iter S 0) := (Below.refl _ w).alloc (Nat.le_refl _) _
    exact Lib.below_iterAt (Lib.below_iterAt hz (by omega) _ _) (by omega) _ _
  clear hS s0 s1 h0 h1 h2 hw1 hw2 e32 e9
  go_enter Tryz.func93, Tryz.ntmps93
  go_wp2_with fail
  refine wp_loop_rounds 3 ?_
  rw [rounds_succ]
  go_wp2_with fail
  rw [rounds_succ]
  go_wp2_with fail
  rw [rounds_succ]
  go_wp2_with fail
  go_ret
  exact ⟨-1, rfl, rfl, HB.out⟩
theorem ix_any9 (r : Nat) (S : ByteArray) (w : World) (hS : S = str [10, 59]) (hr : r ≤ 1114111) : Calls Tryz.prog 93 #[.string S, .int .i32 (r : Int)] w (Ix9 r w) := by
  by_cases h1 : r < 128
  · exact ix_low9 r S w hS h1
  · by_cases h2 : r = 65533
    · subst h2
      exact ix_err9 S w hS
    · by_cases h3 : 55296 ≤ r ∧ r ≤ 57343
      · exact ix_bad9 r S w h3.1 h3.2
      · exact ix_high9 r S w hS (by omega) (by omega) h2
end Go.Proofs.YtbeehedppofpnaaGreatDoor

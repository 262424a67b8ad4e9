/- Contracts: which character is a blank: the library's IndexRune, ContainsRune in " \t\r"; lex.isBlank. -/
import Derived.Test.YtbeehedppofpnaaGreatDoorLxA
import Derived.Lib.OthersKept
import Derived.WalkMore
namespace Go.Proofs.YtbeehedppofpnaaGreatDoor
open Go.RowKit

/-! Arithmetic: the last byte of a character's text. -/
theorem enc_facts (r : Nat) (h1 : 128 ≤ r) (h2 : r < 55296 ∨ (57344 ≤ r ∧ r ≤ 1114111)) :
    ∃ (K : Nat) (E : ByteArray) (y : UInt8), Utf8.encode (r : Int) = E ∧ K ≤ 2 ∧ ∃ hs : E.size = K + 2, E[K + 1]'(hs ▸ Nat.lt_succ_self _) = y ∧ 128 ≤ y.toNat := by
  have hv : Utf8.valid (r : Int) = true := by
    unfold Utf8.valid
    simp
    omega
  have hy : ∀ k, k < 64 → 128 ≤ (UInt8.ofNat (128 + k)).toNat := fun k hk => by simp; omega
  have e0 : (if Utf8.valid (r : Int) = true then ((r : Int)).toNat else Utf8.runeError) = r := by rw [if_pos hv]; omega
  unfold Utf8.encode
  simp only [e0]
  rw [if_neg (by omega)]
  split
  · exact ⟨0, _, _, rfl, by omega, rfl, rfl, hy _ (by omega)⟩
  · split
    · exact ⟨1, _, _, rfl, by omega, rfl, rfl, hy _ (by omega)⟩
    · exact ⟨2, _, _, rfl, by omega, rfl, rfl, hy _ (by omega)⟩
theorem idx_blk (c : UInt8) : decide (0 ≤ Lib.indexByte [32, 9, 13] c) = blk c := by
  unfold blk
  by_cases h1 : c = 32
  · subst h1; decide
  · by_cases h2 : c = 9
    · subst h2; decide
    · by_cases h3 : c = 13
      · subst h3; decide
      · have e1 : (32 == c) = false := beq_eq_false_iff_ne.2 fun e => h1 e.symm
        have e2 : (9 == c) = false := beq_eq_false_iff_ne.2 fun e => h2 e.symm
        have e3 : (13 == c) = false := beq_eq_false_iff_ne.2 fun e => h3 e.symm
        have f1 : (c == 32) = false := beq_eq_false_iff_ne.2 h1
        have f2 : (c == 9) = false := beq_eq_false_iff_ne.2 h2
        have f3 : (c == 13) = false := beq_eq_false_iff_ne.2 h3
        simp [Lib.indexByte, e1, e2, e3, f1, f2, f3]
theorem idx_high (l : Tx) (c : UInt8) (h : c ∉ l) : Lib.indexByte l c = -1 := by
  induction l with
  | nil => rfl
  | cons x r ih =>
    have hx : (x == c) = false := beq_eq_false_iff_ne.2 fun e => h (by simp [e])
    rw [Lib.indexByte, hx, ih (fun e => h (by simp [e]))]
    rfl
theorem libByte_any (l : Tx) (c : UInt8) (w : World) : Calls Tryz.prog 105 #[.string (str l), .int .u8 (c.toNat : Int)] w fun e w' => e = .returned (.int .i64 (Lib.indexByte l c)) ∧ w = w' := by
  refine (show Calls Tryz.prog 105 #[.string (str l), .int .u8 (c.toNat : Int)] w _ from Any.strings_IndexByte Tryz.idxByteL (str l) (c.toNat : Int) w).mono ?_
  rintro e w' ⟨rfl, rfl⟩
  have e1 : ((c.toNat : Int)).toNat.toUInt8 = c := by
    rw [Int.toNat_natCast]
    simp
  rw [e1]
  exact ⟨rfl, rfl⟩
/-- What IndexRune tells of a character: at least 0 if it is a blank, -1 if not. -/
def Ix (r : Nat) (w : World) (e : Ending) (w' : World) : Prop := ∃ i : Int, e = .returned (.int .i64 i) ∧ decide (0 ≤ i) = blkR r ∧ Below w.heap.size w w'
theorem blkR_no {r : Nat} (h : 128 ≤ r) : blkR r = false := by
  unfold blkR
  simp only [Bool.or_eq_false_iff, beq_eq_false_iff_ne]
  omega
set_option maxRecDepth 100000 in
theorem ix_low (r : Nat) (S : ByteArray) (w : World) (hS : S = str [32, 9, 13]) (hr : r < 128) : Calls Tryz.prog 93 #[.string S, .int .i32 (r : Int)] w (Ix r w) := by
  obtain ⟨c, hc⟩ : ∃ c : UInt8, c.toNat = r := ⟨UInt8.ofNat r, by simp; omega⟩
  have HB := Lib.hid (fun W => libByte_any [32, 9, 13] c W)
  rw [← hS, hc] at HB
  have HI := Lib.hid (idx_blk c)
  have HR := Lib.hid (blkR_byte c)
  rw [hc] at HR
  obtain ⟨i, hi⟩ : ∃ i, Lib.indexByte [32, 9, 13] c = i := ⟨_, rfl⟩
  rw [hi] at HB HI
  have q : (r : Int) < 128 := by omega
  clear hi hS hc
  go_enter Tryz.func93, Tryz.ntmps93
  go_wp2_with fail
  refine (HB.out _).mono ?_
  rintro e w' ⟨rfl, rfl⟩
  go_wp2_with fail
  go_ret
  exact ⟨i, rfl, by rw [HI.out, HR.out], Below.refl _ _⟩
set_option maxRecDepth 100000 in
theorem valid_no (r : Nat) (w : World) (h1 : 55296 ≤ r) (h2 : r ≤ 57343) : Calls Tryz.prog 106 #[.int .i32 (r : Int)] w fun e w' => e = .returned (.bool false) ∧ w = w' := by
  have q1 : ¬ ((r : Int) < 55296) := by omega
  have q2 : ¬ ((57343 : Int) < r) := by omega
  go_enter Tryz.func106, Tryz.ntmps106
  go_wp2_with fail
  go_ret
  exact ⟨rfl, rfl⟩
set_option maxRecDepth 100000 in
theorem valid_yes (r : Nat) (w : World) (h : r < 55296 ∨ (57344 ≤ r ∧ r ≤ 1114111)) : Calls Tryz.prog 106 #[.int .i32 (r : Int)] w fun e w' => e = .returned (.bool true) ∧ w = w' := by
  rcases h with h | ⟨h1, h2⟩
  · have q1 : (r : Int) < 55296 := by omega
    go_enter Tryz.func106, Tryz.ntmps106
    go_wp2_with fail
    go_ret
    exact ⟨rfl, rfl⟩
  · have q1 : ¬ ((r : Int) < 55296) := by omega
    have q2 : (57343 : Int) < r := by omega
    have q3 : (r : Int) ≤ 1114111 := by omega
    go_enter Tryz.func106, Tryz.ntmps106
    go_wp2_with fail
    go_ret
    exact ⟨rfl, rfl⟩
set_option maxRecDepth 100000 in
theorem ix_bad (r : Nat) (S : ByteArray) (w : World) (h1 : 55296 ≤ r) (h2 : r ≤ 57343) : Calls Tryz.prog 93 #[.string S, .int .i32 (r : Int)] w (Ix r w) := by
  have HV := Lib.hid (fun W => valid_no r W h1 h2)
  have HR := Lib.hid (blkR_no (r := r) (by omega))
  have q : ¬ ((r : Int) < 128) := by omega
  have q2 : ((r : Int) == 65533) = false := beq_eq_false_iff_ne.2 (by omega)
  have q3 : ¬ (r : Int) = 65533 := by omega
  have q4 : (0 : Int) ≤ r := by omega
  clear h1 h2
  go_enter Tryz.func93, Tryz.ntmps93
  go_wp2_with fail
  refine (HV.out _).mono ?_
  rintro e w' ⟨rfl, rfl⟩
  go_wp2_with fail
  go_ret
  exact ⟨-1, rfl, by rw [HR.out]; rfl, Below.refl _ _⟩
set_option maxHeartbeats 2000000 in
set_option maxRecDepth 100000 in
theorem ix_high (r : Nat) (S : ByteArray) (w : World) (hS : S = str [32, 9, 13]) (h1 : 128 ≤ r) (h2 : r < 55296 ∨ (57344 ≤ r ∧ r ≤ 1114111)) (h3 : r ≠ 65533) : Calls Tryz.prog 93 #[.string S, .int .i32 (r : Int)] w (Ix r w) := by
  have HV := Lib.hid (fun W => valid_yes r W h2)
  have HR := Lib.hid (blkR_no (r := r) (by omega))
  have q : ¬ ((r : Int) < 128) := by omega
  have q2 : ((r : Int) == 65533) = false := beq_eq_false_iff_ne.2 (by omega)
  have q3 : ¬ (r : Int) = 65533 := by omega
  have q4 : (0 : Int) ≤ r := by omega
  obtain ⟨K, E, y, hE, hK, hs, hy, hyh⟩ := enc_facts r h1 h2
  have hcv : ∀ W, (convert 21 9 (.int .i32 (r : Int))).run Tryz.prog W = .ok (.string E) W := fun W => by
    rw [run_convert_int_string (P := Tryz.prog) W _ _ .i32 (r : Int) (by rw [Tryz.underlying21]; rfl) Tryz.underlying9, hE]
  have HYh := Lib.hid hyh
  have hSz : S.size = 3 := by rw [hS]; rfl
  have HS := Lib.hid hS
  clear h1 h2 h3 hE hyh hS
  go_enter Tryz.func93, Tryz.ntmps93
  go_wp2_with fail
  refine (HV.out _).mono ?_
  rintro e w' ⟨rfl, rfl⟩
  go_wp2_with fail
  go_step3
  have hrest : ∀ k, k ≤ 3 → Lib.indexByte (([32, 9, 13] : Tx).drop k) y = -1 := fun k _ => idx_high _ _ fun hm => by
    have h1 := HYh.out
    have h2 := List.mem_of_mem_drop hm
    simp only [List.mem_cons, List.not_mem_nil, or_false] at h2
    rcases h2 with rfl | rfl | rfl
    · exact absurd h1 (by decide)
    · exact absurd h1 (by decide)
    · exact absurd h1 (by decide)
  rcases K with _ | _ | _ | K
  case' zero =>
    have hb : Hid (∀ W, Calls Tryz.prog 105 #[.string (S.extract 2 3), .int .u8 (y.toNat : Int)] W fun e w' => e = .returned (.int .i64 (-1)) ∧ W = w') := fun W => by
      have h1 := libByte_any (([32, 9, 13] : Tx).drop 2) y W
      rw [hrest 2 (by omega)] at h1
      rw [HS.out]
      exact h1
    have hx : (S[1]'(by rw [hSz]; omega)) = 9 := by
      have := HS.out
      subst this
      rfl
    have hsz2 : E.size = 2 := hs
    have hy2 : E[1]'(by rw [hsz2]; omega) = y := hy
    have hyn : ¬ ((9 : Int) = (y.toNat : Int)) := by have := HYh.out; omega
    clear hrest hy hs hK
  case' succ.zero =>
    have hb : Hid (∀ W, Calls Tryz.prog 105 #[.string ByteArray.empty, .int .u8 (y.toNat : Int)] W fun e w' => e = .returned (.int .i64 (-1)) ∧ W = w') := fun W => by
      have h1 := libByte_any (([32, 9, 13] : Tx).drop 3) y W
      rw [hrest 3 (by omega)] at h1
      exact h1
    have hx : (S[2]'(by rw [hSz]; omega)) = 13 := by
      have := HS.out
      subst this
      rfl
    have hsz2 : E.size = 3 := hs
    have hy2 : E[2]'(by rw [hsz2]; omega) = y := hy
    have hyn : ¬ ((13 : Int) = (y.toNat : Int)) := by have := HYh.out; omega
    clear hrest hy hs hK
  case succ.succ.succ => omega
  case succ.succ.zero =>
    have hsz2 : E.size = 4 := hs
    clear hrest hy hs hK
    go_wp2_with fail
    refine wp_loop_rounds 1 ?_
    rw [rounds_succ]
    go_wp2_with fail
    go_ret
    exact ⟨-1, rfl, by rw [HR.out]; rfl, Below.refl _ _⟩
  all_goals
    go_wp2_with fail
    refine wp_loop_rounds 1 ?_
    rw [rounds_succ]
    go_wp2_with fail
    go_step3
    go_wp2_with fail
    go_quiet (fail)
    go_wp2_with fail
    go_region_with (first
      | (go_at_call 105
         refine (hb.out _).mono ?_
         rintro e w' ⟨rfl, rfl⟩))
    go_wp2_with fail
    all_goals
      simp only [Exit.noGoto_ret, Exit.inBlock, Exit.then]
      go_ret
      exact ⟨-1, rfl, by rw [HR.out]; rfl, ⟨rfl, rfl, rfl, Nat.le_refl _, fun _ _ => rfl⟩⟩
set_option maxHeartbeats 2000000 in
set_option maxRecDepth 100000 in
theorem ix_err (S : ByteArray) (w : World) (hS : S = str [32, 9, 13]) : Calls Tryz.prog 93 #[.string S, .int .i32 65533] w (Ix 65533 w) := by
  have hSz : S.size = 3 := by rw [hS]; rfl
  have s0 : S[0]'(by rw [hSz]; omega) = 32 := by subst hS; rfl
  have s1 : S[1]'(by rw [hSz]; omega) = 9 := by subst hS; rfl
  have s2 : S[2]'(by rw [hSz]; omega) = 13 := by subst hS; rfl
  obtain ⟨b, hb⟩ : ∃ b, w.heap.size = b := ⟨_, rfl⟩
  obtain ⟨w0, hw0⟩ : ∃ x, w.iter S 0 = x := ⟨_, rfl⟩
  have h0 : w0.heap[b]? = some (.stringIter S 0) := by rw [← hw0, ← hb]; exact World.iter_heap w S 0
  have n0 := fun ty => Lib.run_next_ascii_at (P := Tryz.prog) w0 b S 0 ty h0 (by rw [hSz]; omega) (by rw [s0]; decide)
  obtain ⟨w1, hw1⟩ : ∃ x, w0.iterAt b S 1 = x := ⟨_, rfl⟩
  have h1 : w1.heap[b]? = some (.stringIter S 1) := by rw [← hw1]; exact Lib.iterAt_heap _ _ _ _ _ h0
  have n1 := fun ty => Lib.run_next_ascii_at (P := Tryz.prog) w1 b S 1 ty h1 (by rw [hSz]; omega) (by rw [s1]; decide)
  obtain ⟨w2, hw2⟩ : ∃ x, w1.iterAt b S 2 = x := ⟨_, rfl⟩
  have h2 : w2.heap[b]? = some (.stringIter S 2) := by rw [← hw2]; exact Lib.iterAt_heap _ _ _ _ _ h1
  have n2 := fun ty => Lib.run_next_ascii_at (P := Tryz.prog) w2 b S 2 ty h2 (by rw [hSz]; omega) (by rw [s2]; decide)
  obtain ⟨w3, hw3⟩ : ∃ x, w2.iterAt b S 3 = x := ⟨_, rfl⟩
  have h3 : w3.heap[b]? = some (.stringIter S 3) := by rw [← hw3]; exact Lib.iterAt_heap _ _ _ _ _ h2
  have n3 := fun ty => Lib.run_next_end_at (P := Tryz.prog) w3 b S 3 ty h3 (by rw [hSz]; omega)
  rw [s0, hw1] at n0
  rw [s1, hw2] at n1
  rw [s2, hw3] at n2
  have e32 : (((32 : UInt8).toNat : Nat) : Int) = 32 := rfl
  have e9 : (((9 : UInt8).toNat : Nat) : Int) = 9 := rfl
  have e13 : (((13 : UInt8).toNat : Nat) : Int) = 13 := rfl
  rw [e32] at n0
  rw [e9] at n1
  rw [e13] at n2
  have HB : Hid (Below w.heap.size w w3) := by
    unfold Hid
    rw [← hw3, ← hw2, ← hw1, ← hw0]
    have hz : Below w.heap.size w (w.iter S 0) := (Below.refl _ w).alloc (Nat.le_refl _) _
    exact Lib.below_iterAt (Lib.below_iterAt (Lib.below_iterAt hz (by omega) _ _) (by omega) _ _) (by omega) _ _
  clear hS s0 s1 s2 h0 h1 h2 h3 hw1 hw2 hw3 e32 e9 e13
  go_enter Tryz.func93, Tryz.ntmps93
  go_wp2_with fail
  refine wp_loop_rounds 4 ?_
  rw [rounds_succ]
  go_wp2_with fail
  rw [rounds_succ]
  go_wp2_with fail
  rw [rounds_succ]
  go_wp2_with fail
  rw [rounds_succ]
  go_wp2_with fail
  go_ret
  exact ⟨-1, rfl, rfl, HB.out⟩
theorem ix_any (r : Nat) (S : ByteArray) (w : World) (hS : S = str [32, 9, 13]) (hr : r ≤ 1114111) : Calls Tryz.prog 93 #[.string S, .int .i32 (r : Int)] w (Ix r w) := by
  by_cases h1 : r < 128
  · exact ix_low r S w hS h1
  · by_cases h2 : r = 65533
    · subst h2
      exact ix_err S w hS
    · by_cases h3 : 55296 ≤ r ∧ r ≤ 57343
      · exact ix_bad r S w h3.1 h3.2
      · exact ix_high r S w hS (by omega) (by omega) h2
set_option maxRecDepth 100000 in
theorem contains_any (r : Nat) (S : ByteArray) (w : World) (hS : S = str [32, 9, 13]) (hr : r ≤ 1114111) : Calls Tryz.prog 103 #[.string S, .int .i32 (r : Int)] w fun e w' => e = .returned (.bool (blkR r)) ∧ Below w.heap.size w w' := by
  have HI := Lib.hid (fun W => ix_any r S W hS hr)
  clear hS hr
  go_enter Tryz.func103, Tryz.ntmps103
  go_wp2_with fail
  refine (HI.out _).mono ?_
  rintro e w1 ⟨i, rfl, hi, hb⟩
  have HH := Lib.hid (And.intro hi hb)
  clear hi hb
  go_wp2_with fail
  go_ret
  exact ⟨ret_bool8 HH.out.1, HH.out.2⟩
set_option maxRecDepth 100000 in
theorem isBlank_any (r : Nat) (w : World) (hr : r ≤ 1114111) : Calls Tryz.prog 92 #[.int .i32 (r : Int)] w fun e w' => e = .returned (.bool (blkR r)) ∧ Below w.heap.size w w' := by
  have HI := Lib.hid (fun W S hS => contains_any r S W hS hr)
  clear hr
  generalize blkR r = B at *
  go_enter Tryz.func92, Tryz.ntmps92
  go_wp2_with fail
  refine (HI.out _ _ rfl).mono ?_
  rintro e w1 ⟨rfl, hb⟩
  have HB := Lib.hid hb
  clear hb
  go_wp2_with fail
  go_ret
  exact ⟨rfl, HB.out⟩
end Go.Proofs.YtbeehedppofpnaaGreatDoor

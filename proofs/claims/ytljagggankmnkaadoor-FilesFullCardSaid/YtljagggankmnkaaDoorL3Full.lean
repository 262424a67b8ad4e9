/- Layer 3's law FilesFull: its walk. -/
import Derived.Test.YtljagggankmnkaaDoorL3Num
import Derived.Deep.QuietTactic
namespace Go.Proofs.YtljagggankmnkaaDoor
open Go.RowKit Go.Maps

def nmF (i : Nat) : Bs := [102, UInt8.ofNat (97 + i / 8), UInt8.ofNat (97 + i % 8)]
def noN (i : Nat) : List (Bs × Bs) := (List.range i).foldl (fun l j => put (nmF j) [UInt8.ofNat j] l) []
def stN (i : Nat) : List (Stp Bs) := (List.range i).map fun j => ⟨0, nmF j, [], [UInt8.ofNat j]⟩
theorem noN_succ (i : Nat) : noN (i + 1) = put (nmF i) [UInt8.ofNat i] (noN i) := by simp [noN, List.range_succ, List.foldl_append]
theorem stN_succ (i : Nat) : stN (i + 1) = stN i ++ [⟨0, nmF i, [], [UInt8.ofNat i]⟩] := by simp [stN, List.range_succ]
theorem err_first : ∀ i, i < 64 → errOf (noN i) (stN i) ⟨0, nmF i, [], [UInt8.ofNat i]⟩ = 0 := by decide +kernel
theorem err_more : errOf (noN 64) (stN 64) ⟨0, [109, 111, 114, 101], [], []⟩ = 10 := by decide +kernel
theorem err_again : ∀ k, k < 64 → errOf (noN 64) (stN 64) ⟨0, nmF k, [], []⟩ = 0 := by decide +kernel
theorem len_again : ∀ k, k < 64 → (put (nmF k) [] (noN 64)).length = 64 := by decide +kernel
theorem nmF_named : ∀ k, k < 64 → named (nmF k) = true := by decide +kernel
theorem has_again : ∀ k, k < 64 → hasF (nmF k) (put (nmF k) [] (noN 64)) = true := by decide +kernel
theorem stN_len (i : Nat) : (stN i).length = i := by simp [stN]
theorem hasF_put (k : Bs) (a : Bs) (l : List (Bs × Bs)) : hasF k (put k a l) = true := hasF_mem.2 ⟨(k, a), mem_put.2 (.inl rfl), rfl⟩
theorem u8_of (i : Nat) : IntKind.u8.wrap (i : Int) = ((UInt8.ofNat i).toNat : Int) := by
  simp only [IntKind.wrap, IntKind.bits, IntKind.signed, UInt8.toNat_ofNat']
  simp

theorem nm_str : ∀ a, a < 8 → ∀ b, b < 8 → (({ data := #[102] } ++ ({ data := #[97, 98, 99, 100, 101, 102, 103, 104] } : ByteArray).extract a (a + 1) ++ ({ data := #[97, 98, 99, 100, 101, 102, 103, 104] } : ByteArray).extract b (b + 1)) : ByteArray) = str [102, UInt8.ofNat (97 + a), UInt8.ofNat (97 + b)] := by decide +kernel
theorem u64_nonneg (k : Int) : 0 ≤ IntKind.u64.wrap k := by
  simp only [IntKind.wrap, IntKind.bits, IntKind.signed]
  simp
  omega
set_option maxHeartbeats 1000000 in
set_option maxRecDepth 100000 in
theorem name_is (i : Nat) (hi : i < 64) (w : World) : Calls Tryd.prog 16 #[.int .i64 i] w fun e w' => e = .returned (.string (str (nmF i))) ∧ Below w.heap.size w w' := by
  obtain ⟨a, ha⟩ : ∃ a, i / 8 = a := ⟨_, rfl⟩
  obtain ⟨b, hb⟩ : ∃ b, i % 8 = b := ⟨_, rfl⟩
  have e1 : (i : Int).tdiv 8 = (a : Int) := by rw [Int.tdiv_eq_ediv_of_nonneg (by omega)]; omega
  have e2 : (i : Int).tmod 8 = (b : Int) := by rw [Int.tmod_eq_emod_of_nonneg (by omega)]; omega
  have ha8 : a < 8 := by omega
  have hb8 : b < 8 := by omega
  have a0 : (0 : Int) ≤ (a : Int) := by omega
  have a1 : (a : Int) ≤ (a : Int) + 1 := by omega
  have a2 : (a : Int) + 1 ≤ 8 := by omega
  have b0 : (0 : Int) ≤ (b : Int) := by omega
  have b1 : (b : Int) ≤ (b : Int) + 1 := by omega
  have b2 : (b : Int) + 1 ≤ 8 := by omega
  have HN := Lib.hid (show nmF i = [102, UInt8.ofNat (97 + a), UInt8.ofNat (97 + b)] by rw [nmF, ha, hb])
  have H8 := Lib.hid (And.intro ha8 hb8)
  clear ha hb hi
  go_enter Tryd.func16, Tryd.ntmps16
  go_wp2_with fail
  go_quiet (fail)
  go_wp2_with fail
  go_ret
  refine ⟨?_, ⟨rfl, rfl, rfl, Nat.le_refl _, fun _ _ => rfl⟩⟩
  rw [HN.out]
  have h := nm_str a H8.out.1 b H8.out.2
  rw [← h]
  rfl

section
variable {B p : Nat} {F : Nat → Prop} {su no : List (Bs × Bs)} {st : List (Stp Bs)}
theorem write_err (k : Nat) (nm b : Bs) (A : Option Addr) (n c : Nat) (w : World) (hd : Disk w B p F su no st) (hB : B ≤ w.heap.size) (hn : b.length = n) (hnc : n ≤ 2 ^ 62) (hr : Rd w A (bs b)) (he : errOf no st ⟨0, nm, [], b⟩ = k) (hk : k ≠ 0) :
    Calls Tryd.prog 17 #[.pointer (some ⟨p, 0, none⟩), .string (str nm), .slice A n c] w fun e w' => e = .returned (errV k) ∧ ∃ F', Turn F w F' w' ∧ Disk w' B p F' su no st := by
  refine (write_is nm b A n c w hd hB hn hnc hr).mono ?_
  rintro e w' ⟨rfl, F', ht, h⟩
  unfold noOf stOf at h
  rw [he, if_neg hk, if_neg hk] at h
  rw [he]
  exact ⟨rfl, F', ht, h⟩
theorem remove_err (k : Nat) (nm : Bs) (w : World) (hd : Disk w B p F su no st) (hB : B ≤ w.heap.size) (he : errOf no st ⟨2, nm, [], []⟩ = k) (hk : k ≠ 0) :
    Calls Tryd.prog 19 #[.pointer (some ⟨p, 0, none⟩), .string (str nm)] w fun e w' => e = .returned (errV k) ∧ ∃ F', Turn F w F' w' ∧ Disk w' B p F' su no st := by
  refine (remove_is nm w hd hB).mono ?_
  rintro e w' ⟨rfl, F', ht, h⟩
  unfold noOf stOf at h
  rw [he, if_neg hk, if_neg hk] at h
  rw [he]
  exact ⟨rfl, F', ht, h⟩
theorem remove_ok (nm : Bs) (w : World) (hd : Disk w B p F su no st) (hB : B ≤ w.heap.size) (he : errOf no st ⟨2, nm, [], []⟩ = 0) :
    Calls Tryd.prog 19 #[.pointer (some ⟨p, 0, none⟩), .string (str nm)] w fun e w' => e = .returned .nilIface ∧ ∃ F', Turn F w F' w' ∧ Disk w' B p F' su (del nm no) (st ++ [⟨2, nm, [], []⟩]) := by
  refine (remove_is nm w hd hB).mono ?_
  rintro e w' ⟨rfl, F', ht, h⟩
  unfold noOf stOf at h
  rw [if_pos he, if_pos he] at h
  rw [he]
  exact ⟨rfl, F', ht, h⟩
end
theorem one_byte (x : UInt8) (w : World) : Rd (w.alloc (.cells #[.int .u8 (x.toNat : Int)] 5)) (some ⟨w.heap.size, 0, none⟩) (bs [x]) := Rd.block (MapKept.heap_alloc w (.cells #[.int .u8 (x.toNat : Int)] 5)).1

set_option maxHeartbeats 8000000 in
set_option maxRecDepth 100000 in
theorem full_walk (n : Int) (W : World) (hg : ErrT W) : Calls Tryd.prog 4 #[.int .i64 n] W fun e w' => e = .returned (.bool true) ∧ Below W.heap.size W w' := by
  have hk0 := Int.emod_nonneg (IntKind.u64.wrap n) (show (64 : Int) ≠ 0 by decide)
  have hk1 := Int.emod_lt_of_pos (IntKind.u64.wrap n) (show (0 : Int) < 64 by decide)
  obtain ⟨k, hk⟩ : ∃ k : Nat, IntKind.u64.wrap n % 64 = (k : Int) := ⟨(IntKind.u64.wrap n % 64).toNat, by omega⟩
  have hk64 : k < 64 := by omega
  have ht : (IntKind.u64.wrap n).tmod 64 = (k : Int) := by rw [Int.tmod_eq_emod_of_nonneg (u64_nonneg n), hk]
  have HK := Lib.hid (And.intro hk64 hg)
  clear hk0 hk1 hk hg
  go_enter Tryd.func4, Tryd.ntmps4
  go_wp2_with fail
  refine (new_is W).mono ?_
  rintro e w1 ⟨p, F, rfl, hb, hd⟩
  have HE := Lib.hid (fun (wk : World) (Fk : Nat → Prop) (ht : Turn F w1 Fk wk) => (HK.out.2.below (turn_below hb rfl ht (fun i hi => (hd.lt i hi).1)) : ErrT wk))
  have HS := Lib.hid (fun (wk : World) (Fk : Nat → Prop) (ht : Turn F w1 Fk wk) => (Nat.le_trans hb.size ht.size : W.heap.size ≤ wk.heap.size))
  have H1 := Lib.hid (And.intro hb hd)
  clear hb hd
  go_wp2_with fail
  go_loopw [6] (fun v wr => ∃ (i : Nat) (F' : Nat → Prop), v = .int .i64 i ∧ i ≤ 64 ∧ Turn F w1 F' wr ∧ Disk wr W.heap.size p F' [] (noN i) (stN i)) (fun v _ => 64 - (intOf v).toNat)
  case atStart => exact ⟨0, F, rfl, Nat.zero_le _, Turn.refl _ _, H1.out.2⟩
  case round =>
    obtain ⟨i, F1, rfl, hi, ht1, hd1⟩ := hrel
    have HR := Lib.hid (And.intro ht1 hd1)
    clear ht1 hd1
    rcases Nat.lt_or_ge i 64 with hlt | hge
    · have hl0 : (i : Int) < 64 := by omega
      have hu := u8_of i
      generalize hx : UInt8.ofNat i = x at hu
      have HX := Lib.hid hx
      clear hx
      go_wp2_with fail
      refine (name_is i hlt wr).mono ?_
      rintro e w2 ⟨rfl, hb2⟩
      have H2 := Lib.hid hb2
      clear hb2
      go_wp2_with fail
      refine (write_ok (nmF i) [x] _ 1 1 _ (HR.out.2.below (H2.out.trans ((Below.refl w2.heap.size w2 |>.alloc (Nat.le_refl _) _).mono H2.out.size))) (Nat.le_trans H1.out.1.size (Nat.le_trans HR.out.1.size (Nat.le_trans H2.out.size (by rw [World.size_alloc]; omega)))) rfl (by omega) (one_byte x w2) (by have := err_first i hlt; rw [HX.out] at this; exact this)).mono ?_
      rintro e w3 ⟨rfl, F3, ht3, hd3⟩
      have H3 := Lib.hid (And.intro ((HR.out.1.trans (Turn.of_below F1 (H2.out.trans ((Below.refl w2.heap.size w2 |>.alloc (Nat.le_refl _) _).mono H2.out.size)))).trans ht3) hd3)
      clear ht3 hd3
      go_wp2_with fail
      go_roundw
      case rel =>
        refine ⟨i + 1, F3, by go_num, hlt, H3.out.1, ?_⟩
        rw [noN_succ, stN_succ, HX.out]
        exact H3.out.2
      case measure =>
        simp [intOf]
        omega
    · obtain rfl : i = 64 := by omega
      go_wp2_with fail
      refine (write_err 10 [109, 111, 114, 101] [] none 0 0 wr HR.out.2 (HS.out _ _ HR.out.1) rfl (by omega) Rd.nil err_more (by decide)).mono ?_
      rintro e w2 ⟨rfl, F2, ht2, hd2⟩
      have H2 := Lib.hid (And.intro (HR.out.1.trans ht2) hd2)
      clear ht2 hd2 HR
      go_wp2_with fail
      refine (num_errV 10 w2 (HE.out _ _ H2.out.1)).mono ?_
      rintro e w3 ⟨rfl, hb3⟩
      have H3 := Lib.hid (And.intro (H2.out.1.trans (Turn.of_below F2 hb3)) (H2.out.2.below hb3))
      clear hb3 H2
      go_wp2_with fail
      refine (name_is k hk64 w3).mono ?_
      rintro e w4 ⟨rfl, hb4⟩
      have H4 := Lib.hid (And.intro (H3.out.1.trans (Turn.of_below F2 hb4)) (H3.out.2.below hb4))
      clear hb4 H3
      go_wp2_with fail
      refine (write_ok (nmF k) [] none 0 0 w4 H4.out.2 (HS.out _ _ H4.out.1) rfl (by omega) Rd.nil (err_again k hk64)).mono ?_
      rintro e w5 ⟨rfl, F5, ht5, hd5⟩
      have H5 := Lib.hid (And.intro (H4.out.1.trans ht5) hd5)
      clear ht5 hd5 H4
      go_wp2_with fail
      refine (names_is w5 H5.out.2).mono ?_
      rintro e w6 ⟨v6, rfl, hb6, ho6⟩
      rw [len_again k hk64] at ho6
      obtain ⟨A6, c6, rfl, _, _, _, _, _⟩ := owns_form ho6
      have H6 := Lib.hid (And.intro (H5.out.1.trans (Turn.of_below F5 hb6)) (H5.out.2.below hb6))
      clear hb6 ho6 H5
      have hh0 := has_again k hk64
      have hl0 : (stN 64 ++ [(⟨0, nmF k, [], []⟩ : Stp Bs)]).length = 65 := by rw [List.length_append, stN_len]; rfl
      generalize put (nmF k) [] (noN 64) = no0 at H6 hh0
      generalize stN 64 ++ [(⟨0, nmF k, [], []⟩ : Stp Bs)] = st0 at H6 hl0
      have HH := Lib.hid (And.intro hh0 hl0)
      clear hh0 hl0
      go_wp2_with fail
      go_loopw [7] (fun v wr => ∃ (i : Nat) (F' : Nat → Prop) (no : List (Bs × Bs)) (st : List (Stp Bs)), v = .int .i64 i ∧ i ≤ 4096 ∧ Turn F w1 F' wr ∧ Disk wr W.heap.size p F' [] no st ∧ hasF (nmF k) no = true ∧ st.length = i) (fun v _ => 4096 - (intOf v).toNat)
      case atStart => exact ⟨65, F5, no0, st0, rfl, by omega, H6.out.1, H6.out.2, HH.out.1, HH.out.2⟩
      case round =>
        obtain ⟨i, F7, no, st, rfl, hi7, ht7, hd7, hh7, hl7⟩ := hrel
        have H7 := Lib.hid (And.intro ht7 (And.intro hd7 (And.intro hh7 hl7)))
        clear ht7 hd7 hh7 hl7
        rcases Nat.lt_or_ge i 4096 with hlt | hge7
        · have hl0 : (i : Int) < 4096 := by omega
          have hu := u8_of i
          generalize hx : UInt8.ofNat i = x at hu
          have HLT := Lib.hid hlt
          clear hx
          go_wp2_with fail
          refine (name_is k hk64 _).mono ?_
          rintro e w8 ⟨rfl, hb8⟩
          have H8 := Lib.hid hb8
          clear hb8
          go_wp2_with fail
          refine (write_ok (nmF k) [x] _ 1 1 _ (H7.out.2.1.below (H8.out.trans ((Below.refl w8.heap.size w8 |>.alloc (Nat.le_refl _) _).mono H8.out.size))) (Nat.le_trans (HS.out _ _ H7.out.1) (Nat.le_trans H8.out.size (by rw [World.size_alloc]; omega))) rfl (by omega) (one_byte x w8) (by
            have h1 := nmF_named k hk64
            have h2 := H7.out.2.2.1
            have h3 := H7.out.2.2.2
            have h4 := HLT.out
            simp [errOf, h1, h2]
            omega)).mono ?_
          rintro e w9 ⟨rfl, F9, ht9, hd9⟩
          have H9 := Lib.hid (And.intro ((H7.out.1.trans (Turn.of_below F7 (H8.out.trans ((Below.refl w8.heap.size w8 |>.alloc (Nat.le_refl _) _).mono H8.out.size)))).trans ht9) hd9)
          clear ht9 hd9
          go_wp2_with fail
          go_roundw
          case rel =>
            exact ⟨i + 1, F9, _, _, by go_num, hlt, H9.out.1, H9.out.2, hasF_put _ _ _, by rw [List.length_append, H7.out.2.2.2]; rfl⟩
          case measure =>
            simp [intOf]
            omega
        · obtain rfl : i = 4096 := by omega
          go_wp2_with fail
          refine (name_is k hk64 _).mono ?_
          rintro e x1 ⟨rfl, hb⟩
          have G1 := Lib.hid (And.intro (H7.out.1.trans (Turn.of_below F7 hb)) (H7.out.2.1.below hb))
          clear hb
          go_wp2_with fail
          refine (write_err 10 (nmF k) [] none 0 0 x1 G1.out.2 (HS.out _ _ G1.out.1) rfl (by omega) Rd.nil (by
            have h1 := nmF_named k hk64
            have h2 := H7.out.2.2.1
            have h3 := H7.out.2.2.2
            simp [errOf, h1, h2, h3]) (by decide)).mono ?_
          rintro e x2 ⟨rfl, G, ht2, hd2⟩
          have G2 := Lib.hid (And.intro (G1.out.1.trans ht2) hd2)
          clear ht2 hd2 G1
          go_wp2_with fail
          refine (num_errV 10 x2 (HE.out _ _ G2.out.1)).mono ?_
          rintro e x3 ⟨rfl, hb⟩
          have G3 := Lib.hid (And.intro (G2.out.1.trans (Turn.of_below G hb)) (G2.out.2.below hb))
          clear hb G2
          go_wp2_with fail
          refine (name_is k hk64 _).mono ?_
          rintro e x4 ⟨rfl, hb⟩
          have G4 := Lib.hid (And.intro (G3.out.1.trans (Turn.of_below G hb)) (G3.out.2.below hb))
          clear hb G3
          go_wp2_with fail
          refine (remove_err 10 (nmF k) x4 G4.out.2 (HS.out _ _ G4.out.1) (by
            have h1 := nmF_named k hk64
            have h2 := H7.out.2.2.1
            have h3 := H7.out.2.2.2
            simp [errOf, h1, h2, h3]) (by decide)).mono ?_
          rintro e x5 ⟨rfl, G', ht2, hd2⟩
          have G5 := Lib.hid (And.intro (G4.out.1.trans ht2) hd2)
          clear ht2 hd2 G4
          go_wp2_with fail
          refine (num_errV 10 x5 (HE.out _ _ G5.out.1)).mono ?_
          rintro e x6 ⟨rfl, hb⟩
          have G6 := Lib.hid (And.intro (G5.out.1.trans (Turn.of_below G' hb)) (G5.out.2.below hb))
          clear hb G5
          go_wp2_with fail
          refine (sync_ok x6 G6.out.2 (HS.out _ _ G6.out.1)).mono ?_
          rintro e x7 ⟨rfl, G'', ht2, hd2⟩
          have G7 := Lib.hid (And.intro (G6.out.1.trans ht2) hd2)
          clear ht2 hd2 G6
          go_wp2_with fail
          refine (name_is k hk64 _).mono ?_
          rintro e x8 ⟨rfl, hb⟩
          have G8 := Lib.hid (And.intro (G7.out.1.trans (Turn.of_below G'' hb)) (G7.out.2.below hb))
          clear hb G7
          go_wp2_with fail
          refine (remove_ok (nmF k) x8 G8.out.2 (HS.out _ _ G8.out.1) (by
            have h1 := nmF_named k hk64
            have h2 := H7.out.2.2.1
            simp [errOf, h1, h2])).mono ?_
          rintro e x9 ⟨rfl, G9f, ht2, hd2⟩
          have G9 := Lib.hid (And.intro (G8.out.1.trans ht2) hd2)
          clear ht2 hd2
          go_wp2_with fail
          refine (write_ok [109, 111, 114, 101] [] none 0 0 x9 G9.out.2 (HS.out _ _ G9.out.1) rfl (by omega) Rd.nil (by
            have h1 := len_del_has H7.out.2.2.1
            have h2 := H7.out.2.1.hist.le.2
            have h3 : named [109, 111, 114, 101] = true := by decide
            have h4 : ¬ 64 ≤ (del (nmF k) no).length := by omega
            simp [errOf, h3, h4])).mono ?_
          rintro e x10 ⟨rfl, G10f, ht2, hd2⟩
          have G10 := Lib.hid (And.intro (G9.out.1.trans ht2) hd2)
          clear ht2 hd2
          go_wp2_with fail
          refine (sure_is x10).mono ?_
          rintro e x11 ⟨rfl, hb⟩
          have G11 := Lib.hid hb
          clear hb
          go_wp2_with fail
          go_ret
          exact ⟨rfl, (turn_below H1.out.1 rfl G10.out.1 (fun i hi => (H1.out.2.lt i hi).1)).trans (G11.out.mono (HS.out _ _ G10.out.1))⟩
theorem full_any (n : Int) (W : World) (hg : ErrT W) (_ : -9223372036854775808 ≤ n ∧ n ≤ 9223372036854775807) :
    Calls Tryd.prog 4 #[.int .i64 n] W fun e w' => e = .returned (.bool true) ∧ Below W.heap.size W w' := full_walk n W hg
end Go.Proofs.YtljagggankmnkaaDoor

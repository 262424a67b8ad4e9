/- Layer 3's law package: sure. -/
import Derived.Test.YtljagggankmnkaaDoorFsG
namespace Go.Proofs.YtljagggankmnkaaDoor
open Go.RowKit Go.Maps

section
variable {B p : Nat} {F : Nat → Prop} {su no : List (Bs × Bs)} {st : List (Stp Bs)}
theorem write_ok (nm b : Bs) (A : Option Addr) (n c : Nat) (w : World) (hd : Disk w B p F su no st) (hB : B ≤ w.heap.size) (hn : b.length = n) (hnc : n ≤ 2 ^ 64) (hr : Rd w A (bs b)) (he : errOf no st ⟨0, nm, [], b⟩ = 0) :
    Calls Tryd.prog 17 #[.pointer (some ⟨p, 0, none⟩), .string (str nm), .slice A n c] w fun e w' => e = .returned .nilIface ∧ ∃ F', Turn F w F' w' ∧ Disk w' B p F' su (put nm b no) (st ++ [⟨0, nm, [], b⟩]) := by
  refine (write_is nm b A n c w hd hB hn hnc hr).mono ?_
  rintro e w' ⟨rfl, F', ht, h⟩
  rw [he]
  unfold noOf stOf at h
  rw [if_pos he, if_pos he] at h
  exact ⟨rfl, F', ht, h⟩
end
/-- A slice of bytes that was just made, turned to its own type. -/
theorem conv_fresh (C : Array Value) (n c : Nat) (w : World) : (convert 36 36 (.slice (some ⟨w.heap.size, 0, none⟩) n c)).run Tryd.prog (w.alloc (.cells C 5)) = .ok (.slice (some ⟨w.heap.size, 0, none⟩) n c) (w.alloc (.cells C 5 (C.size, C.size + 1))) := by
  have hsh : (w.alloc (.cells C 5)).shape? w.heap.size = some (5, C.size) := by
    unfold World.shape?
    rw [(MapKept.heap_alloc w _).1]
  have hfr : (w.alloc (.cells C 5)).freeze ⟨w.heap.size, C.size, none⟩ 1 = w.alloc (.cells C 5 (C.size, C.size + 1)) := by
    have hm : ∀ (a : Array Obj) (x : Obj) (f : Obj → Obj), (a.push x).modify a.size f = a.push (f x) := by
      intro a x f
      apply Array.ext
      · simp
      · intro i h1 h2
        simp only [Array.getElem_modify, Array.getElem_push]
        by_cases h : a.size = i
        · subst h
          simp
        · have hi : i < a.size := by simp at h1; omega
          simp [h, hi]
    unfold World.freeze
    rw [if_neg (by decide)]
    show ({ w.alloc (.cells C 5) with heap := (w.heap.push (.cells C 5)).modify w.heap.size _ } : World) = _
    rw [hm]
    rfl
  simp [convert, run_underlying Tryd.underlying36, run_underlying Tryd.underlying5, markStringish, hsh]
  exact hfr
theorem sync_ok {B p : Nat} {F : Nat → Prop} {su no : List (Bs × Bs)} {st : List (Stp Bs)} (w : World) (hd : Disk w B p F su no st) (hB : B ≤ w.heap.size) :
    Calls Tryd.prog 20 #[.pointer (some ⟨p, 0, none⟩)] w fun e w' => e = .returned .nilIface ∧ ∃ F', Turn F w F' w' ∧ Disk w' B p F' no no [] := sync_is w hd hB
theorem crash_nilI {B p : Nat} {F : Nat → Prop} {su no : List (Bs × Bs)} {st : List (Stp Bs)} (k q : Nat) (w : World) (hd : Disk w B p F su no st) (hB : B ≤ w.heap.size) (hk : k ≤ st.length) :
    Calls Tryd.prog 22 #[.pointer (some ⟨p, 0, none⟩), .int .i64 k, .int .i64 q] w fun e w' => e = .returned .nilIface ∧ ∃ F', Turn F w F' w' ∧ Disk w' B p F' (crashF su st k q) (crashF su st k q) [] := crash_ok k q w hd hB hk
/-- Read of a file that is there. -/
theorem read_ok {B p : Nat} {F : Nat → Prop} {su no : List (Bs × Bs)} {st : List (Stp Bs)} (nm l : Bs) (w : World) (hd : Disk w B p F su no st) (he : readErr no nm = 0) (hg : got nm no = some l) :
    Calls Tryd.prog 12 #[.pointer (some ⟨p, 0, none⟩), .string (str nm)] w fun e w' => ∃ A c, e = .returned (.tuple #[.slice A l.length c, .nilIface]) ∧ Below w.heap.size w w' ∧ Rd w' A (bs l) ∧ ∀ a, A = some a → w.heap.size ≤ a.block := by
  refine (read_is nm w hd).mono ?_
  rw [he, if_pos rfl, if_pos rfl, hg]
  rintro e w' ⟨v, rfl, hb, ho⟩
  obtain ⟨A, c, rfl, _, _, _, hr, ha⟩ := owns_form ho
  exact ⟨A, c, rfl, hb, hr, fun a e => (ha a e).1⟩
theorem turn_below {w w1 w2 : World} {B : Nat} {F F' : Nat → Prop} (hb : Below w.heap.size w w1) (hB : B = w.heap.size) (ht : Turn F w1 F' w2) (hF : ∀ i, F i → B ≤ i) : Below w.heap.size w w2 :=
  hb.trans (ht.below hb.size (fun i hi => by have := hF i hi; omega))

set_option maxHeartbeats 4000000 in
set_option maxRecDepth 100000 in
theorem sure_is (w : World) : Calls Tryd.prog 8 #[] w fun e w' => e = .returned (.bool true) ∧ Below w.heap.size w w' := by
  go_enter Tryd.func8, Tryd.ntmps8
  go_wp2_with fail
  refine (new_is w).mono ?_
  rintro e w1 ⟨p, F, rfl, hb, hd⟩
  have hd1 := hd.below ((Below.refl w1.heap.size w1).alloc (Nat.le_refl _) (.cells #[.int .u8 120] 5 (1, 2)))
  have hrd : Rd (w1.alloc (.cells #[.int .u8 120] 5 (1, 2))) (some ⟨w1.heap.size, 0, none⟩) (bs [120]) := Rd.block (MapKept.heap_alloc w1 (.cells #[.int .u8 120] 5 (1, 2))).1
  have hcv := conv_fresh #[.int .u8 120] 1 1 w1
  have H1 := Lib.hid (And.intro hb (And.intro hd (And.intro hd1 hrd)))
  clear hb hd hd1 hrd
  go_wp2_with fail
  refine (write_ok [97] [120] (some ⟨w1.heap.size, 0, none⟩) 1 1 _ H1.out.2.2.1 (Nat.le_trans H1.out.1.size (by rw [World.size_alloc]; omega)) rfl (by omega) H1.out.2.2.2 (by decide)).mono ?_
  rintro e w2 ⟨rfl, F2, ht2, hd2⟩
  have H2 := Lib.hid (And.intro ((Turn.alloc F w1 _).trans ht2) hd2)
  clear ht2 hd2
  go_wp2_with fail
  refine (sync_ok w2 H2.out.2 (Nat.le_trans H1.out.1.size H2.out.1.size)).mono ?_
  rintro e w3 ⟨rfl, F3, ht3, hd3⟩
  have H3 := Lib.hid (And.intro (H2.out.1.trans ht3) hd3)
  clear ht3 hd3
  go_wp2_with fail
  refine (write_ok [98] [] none 0 0 w3 H3.out.2 (Nat.le_trans H1.out.1.size H3.out.1.size) rfl (by omega) Rd.nil (by decide)).mono ?_
  rintro e w4 ⟨rfl, F4, ht4, hd4⟩
  have H4 := Lib.hid (And.intro (H3.out.1.trans ht4) hd4)
  clear ht4 hd4
  go_wp2_with fail
  refine (crash_nilI 0 0 w4 H4.out.2 (Nat.le_trans H1.out.1.size H4.out.1.size) (Nat.zero_le _)).mono ?_
  rintro e w5 ⟨rfl, F5, ht5, hd5⟩
  rw [crashF_none] at hd5
  have H5 := Lib.hid (And.intro (H4.out.1.trans ht5) hd5)
  clear ht5 hd5
  go_wp2_with fail
  refine (read_ok [97] [120] w5 H5.out.2 (by decide) (by decide)).mono ?_
  rintro e w6 ⟨A6, c6, rfl, hb6, hr6, _⟩
  have hrun := run_conv_str (P := Tryd.prog) Tryd.underlying36 Tryd.underlying5 Tryd.underlying9 (w := w6) (n := 1) (c := c6) (l := [120]) rfl hr6
  have hx := str_toList [120]
  have H6 := Lib.hid hb6
  clear hb6 hr6
  have hd6 := H5.out.2.below H6.out
  have HN := Lib.hid (names_is w6 hd6)
  clear hd6
  generalize str [120] = sx at hrun hx
  have HX := Lib.hid hx
  have hx' : (sx.toList == [120]) = true := by rw [hx]; rfl
  go_wp2_with fail
  refine HN.out.mono ?_
  rintro e w7 ⟨v7, rfl, hb7, ho7⟩
  obtain ⟨A7, c7, rfl, _, _, _, _, _⟩ := owns_form ho7
  have hl : (put [97] [120] ([] : List (Bs × Bs))).length = 1 := rfl
  rw [hl]
  have H7 := Lib.hid hb7
  clear hb7 ho7
  go_wp2_with fail
  go_ret
  exact ⟨rfl, (turn_below H1.out.1 rfl H5.out.1 (fun i hi => (H1.out.2.1.lt i hi).1)).trans ((H6.out.trans (H7.out.mono H6.out.size)).mono (Nat.le_trans H1.out.1.size H5.out.1.size))⟩
end Go.Proofs.YtljagggankmnkaaDoor

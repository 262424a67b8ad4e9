/- The reference's lists (layer 3): Try's walk. -/
import Derived.Test.YtljagggankmnkaaDoorRef3E
namespace Go.Proofs.YtljagggankmnkaaDoor
open Go.RowKit Go.Maps

abbrev DiskV (A1 : Option Addr) (n1 c1 : Nat) (A2 : Option Addr) (n2 c2 : Nat) (A3 : Option Addr) (n3 c3 : Nat) : Value := .agg #[.slice A1 n1 c1, .slice A2 n2 c2, .slice A3 n3 c3]
/-- What Try hands back: the same disk and an error's number, or the disk with the step done. -/
def Tried (w : World) (A1 : Option Addr) (n1 c1 : Nat) (A2 : Option Addr) (n2 c2 : Nat) (A3 : Option Addr) (n3 c3 : Nat) (no : List (Bs × Bs)) (st : List (Stp Bs)) (s : Stp Bs) (e : Ending) (w' : World) : Prop :=
  Below w.heap.size w w' ∧ ((∃ k : Nat, errOf no st s = k ∧ k ≠ 0 ∧ e = .returned (.tuple #[DiskV A1 n1 c1 A2 n2 c2 A3 n3 c3, .int .i64 k])) ∨
    (errOf no st s = 0 ∧ ∃ B1 d1 B3 d3, e = .returned (.tuple #[DiskV B1 (actF [] no s).length d1 A2 n2 c2 B3 (n3 + 1) d3, .int .i64 0]) ∧ RdF w' B1 (actF [] no s) ∧ RdS w' B3 (st ++ [s]) ∧ (∀ a, B1 = some a → w.heap.size ≤ a.block) ∧ ∀ a, B3 = some a → w.heap.size ≤ a.block))
theorem set3 {w : World} {g : Nat} {a b c x y z : Value} {t : TypeId} (h : w.heap[g]? = some (.cells #[a, b, c] t (0, 0))) : (((w.setCell ⟨g, 0, none⟩ x).setCell ⟨g, 1, none⟩ y).setCell ⟨g, 2, none⟩ z).heap[g]? = some (.cells #[x, y, z] t (0, 0)) :=
  heap_setCell_same _ g 2 _ t z (heap_setCell_same _ g 1 _ t y (heap_setCell_same w g 0 _ t x h))
theorem below_set3 {w W : World} {B g : Nat} {x y z : Value} (h : Below B w W) (hg : B ≤ g) : Below B w (((W.setCell ⟨g, 0, none⟩ x).setCell ⟨g, 1, none⟩ y).setCell ⟨g, 2, none⟩ z) :=
  ((h.setCell hg x).setCell hg y).setCell hg z
theorem doRef_z (k : Nat) (z : Int) (hz : (k : Int) = z) (nm to b : Bs) (A : Option Addr) (n c : Nat) (L : List (Bs × Bs)) (w : World) (hn : L.length = n) (hs : n ≤ 80000) (hr : RdF w A L) (hk : k = 1 → hasF nm L = true) :
    Calls Tryd.prog 37 #[.slice A n c, .agg #[.int .i64 z, .string (str nm), .string (str to), .string (str b)]] w (NewF w (actF [] L ⟨k, nm, to, b⟩)) := by
  subst hz
  exact doRef_is ⟨k, nm, to, b⟩ A n c L w hn hs hr hk
theorem keep3 {W : World} {g : Nat} {x y z : Value} {a : Addr} (h : a.block ≠ g) : (((W.setCell ⟨g, 0, none⟩ x).setCell ⟨g, 1, none⟩ y).setCell ⟨g, 2, none⟩ z).cell? a = W.cell? a :=
  World.cell?_of_block (((Below.heap_setCell _ _ _ _ h).trans (Below.heap_setCell _ _ _ _ h)).trans (Below.heap_setCell _ _ _ _ h))
theorem rd_set3 {W : World} {A : Option Addr} {xs : List Value} {g : Nat} {x y z : Value} (h : Rd W A xs) (hA : ∀ q, A = some q → q.block ≠ g) : Rd (((W.setCell ⟨g, 0, none⟩ x).setCell ⟨g, 1, none⟩ y).setCell ⟨g, 2, none⟩ z) A xs := ((h.setCell hA x).setCell hA y).setCell hA z
theorem set7 {W : World} {p : Nat} {x y z v0 v1 v2 u0 u1 u2 u3 : Value} (h : W.cell? ⟨p, 0, none⟩ = some v0 ∧ W.cell? ⟨p, 1, none⟩ = some v1 ∧ W.cell? ⟨p, 2, none⟩ = some v2 ∧ W.cell? ⟨p + 1, 0, none⟩ = some u0 ∧ W.cell? ⟨p + 1, 1, none⟩ = some u1 ∧ W.cell? ⟨p + 1, 2, none⟩ = some u2 ∧ W.cell? ⟨p + 1, 3, none⟩ = some u3) :
    (((W.setCell ⟨p + 1 + 1, 0, none⟩ x).setCell ⟨p + 1 + 1, 1, none⟩ y).setCell ⟨p + 1 + 1, 2, none⟩ z).cell? ⟨p, 0, none⟩ = some v0 ∧ (((W.setCell ⟨p + 1 + 1, 0, none⟩ x).setCell ⟨p + 1 + 1, 1, none⟩ y).setCell ⟨p + 1 + 1, 2, none⟩ z).cell? ⟨p, 1, none⟩ = some v1 ∧ (((W.setCell ⟨p + 1 + 1, 0, none⟩ x).setCell ⟨p + 1 + 1, 1, none⟩ y).setCell ⟨p + 1 + 1, 2, none⟩ z).cell? ⟨p, 2, none⟩ = some v2 ∧
    (((W.setCell ⟨p + 1 + 1, 0, none⟩ x).setCell ⟨p + 1 + 1, 1, none⟩ y).setCell ⟨p + 1 + 1, 2, none⟩ z).cell? ⟨p + 1, 0, none⟩ = some u0 ∧ (((W.setCell ⟨p + 1 + 1, 0, none⟩ x).setCell ⟨p + 1 + 1, 1, none⟩ y).setCell ⟨p + 1 + 1, 2, none⟩ z).cell? ⟨p + 1, 1, none⟩ = some u1 ∧ (((W.setCell ⟨p + 1 + 1, 0, none⟩ x).setCell ⟨p + 1 + 1, 1, none⟩ y).setCell ⟨p + 1 + 1, 2, none⟩ z).cell? ⟨p + 1, 2, none⟩ = some u2 ∧ (((W.setCell ⟨p + 1 + 1, 0, none⟩ x).setCell ⟨p + 1 + 1, 1, none⟩ y).setCell ⟨p + 1 + 1, 2, none⟩ z).cell? ⟨p + 1, 3, none⟩ = some u3 := by
  have e0 : p ≠ p + 1 + 1 := by omega
  have e1 : p + 1 ≠ p + 1 + 1 := by omega
  obtain ⟨h0, h1, h2, h3, h4, h5, h6⟩ := h
  exact ⟨(keep3 e0).trans h0, (keep3 e0).trans h1, (keep3 e0).trans h2, (keep3 e1).trans h3, (keep3 e1).trans h4, (keep3 e1).trans h5, (keep3 e1).trans h6⟩
theorem below_al {w w' : World} (h : Below w.heap.size w w') (o : Obj) : Below w.heap.size w (w'.alloc o) := h.alloc h.size o
theorem rd_step (W : World) (z : Int) (nm to b : ByteArray) : Rd (W.alloc (.cells #[.int .i64 z, .string nm, .string to, .string b] 65)) (some ⟨W.heap.size, 0, none⟩) [.int .i64 z, .string nm, .string to, .string b] := Rd.block (MapKept.heap_alloc W (.cells #[.int .i64 z, .string nm, .string to, .string b] 65)).1
theorem one_steps {st : List (Stp Bs)} : ∀ u ∈ st.flatMap stepCells, u.oneCell' = true := by
  intro u hu
  obtain ⟨s, _, hs⟩ := List.mem_flatMap.1 hu
  simp only [stepCells, List.mem_cons, List.not_mem_nil, or_false] at hs
  rcases hs with rfl | rfl | rfl | rfl <;> rfl
section
variable {no : List (Bs × Bs)} {st : List (Stp Bs)} {k : Nat} {nm to b : Bs}
theorem e_nm (h : named nm = false) : errOf no st ⟨k, nm, to, b⟩ = 11 := by simp [errOf, h]
theorem e_to (hk : k = 1) (h : named to = false) : errOf no st ⟨k, nm, to, b⟩ = 11 := by simp [errOf, h, hk]
theorem e_long (hk : k = 0) (hn : named nm = true) (h : 65536 < b.length) : errOf no st ⟨k, nm, to, b⟩ = 2 := by simp [errOf, h, hn, hk]
theorem e_full (hk : k = 0) (hn : named nm = true) (h : ¬ 65536 < b.length) (hf : hasF nm no = false) (hl : 64 ≤ no.length) : errOf no st ⟨k, nm, to, b⟩ = 10 := by
  subst hk
  unfold errOf
  rw [if_neg (by simp [hn]), if_pos rfl, if_neg h, if_pos ⟨hf, hl⟩]
theorem e_none (hk : k ≠ 0) (hn : named nm = true) (ht : k = 1 → named to = true) (hf : hasF nm no = false) : errOf no st ⟨k, nm, to, b⟩ = 8 := by
  unfold errOf
  rw [if_neg (by rintro (h | ⟨h1, h⟩); simp [hn] at h; simp [ht h1] at h), if_neg hk, if_pos hf]
theorem e_tail (hn : named nm = true) (ht : k = 1 → named to = true) (h0 : k = 0 → ¬ 65536 < b.length ∧ ¬ (hasF nm no = false ∧ 64 ≤ no.length)) (h1 : k ≠ 0 → hasF nm no = true) : errOf no st ⟨k, nm, to, b⟩ = if 4096 ≤ st.length then 10 else 0 := by
  unfold errOf
  rw [if_neg (by rintro (h | ⟨h1, h⟩); simp [hn] at h; simp [ht h1] at h)]
  by_cases hk : k = 0
  · rw [if_pos hk, if_neg (h0 hk).1, if_neg (h0 hk).2]
  · rw [if_neg hk, if_neg (by rw [h1 hk]; decide)]
end
set_option maxHeartbeats 4000000 in
set_option maxRecDepth 100000 in
theorem tryRef_is (s : Stp Bs) (A1 : Option Addr) (n1 c1 : Nat) (A2 : Option Addr) (n2 c2 : Nat) (A3 : Option Addr) (n3 c3 : Nat) (no : List (Bs × Bs)) (st : List (Stp Bs)) (w : World) (hn1 : no.length = n1) (hn3 : st.length = n3) (hr1 : RdF w A1 no) (hr3 : RdS w A3 st) (hl1 : n1 ≤ 64) (hl3 : n3 ≤ 4096)
    (hs : s.nm.length ≤ maxLen ∧ s.to.length ≤ maxLen ∧ s.b.length ≤ maxLen) :
    Calls Tryd.prog 24 #[.agg #[.slice A1 n1 c1, .slice A2 n2 c2, .slice A3 n3 c3], .agg #[.int .i64 s.k, .string (str s.nm), .string (str s.to), .string (str s.b)]] w (Tried w A1 n1 c1 A2 n2 c2 A3 n3 c3 no st s) := by
  obtain ⟨k, nm, to, b⟩ := s
  dsimp only at hs ⊢
  obtain ⟨z, hz⟩ : ∃ z : Int, (k : Int) = z := ⟨_, rfl⟩
  rw [hz]
  obtain ⟨w0, hw0⟩ : ∃ w0, w0 = ((w.alloc (.cells #[.slice A1 n1 c1, .slice A2 n2 c2, .slice A3 n3 c3] 28)).alloc (.cells #[.int .i64 z, .string (str nm), .string (str to), .string (str b)] 65)).alloc (.cells #[.slice none 0 0, .slice none 0 0, .slice none 0 0] 28) := ⟨_, rfl⟩
  have hbl : Below w.heap.size w w0 := by
    rw [hw0]
    exact (((Below.refl _ w).alloc (Nat.le_refl _) _).alloc (by rw [World.size_alloc]; omega) _).alloc (by rw [World.size_alloc, World.size_alloc]; omega) _
  have g0 : w0.heap[w.heap.size]? = some (.cells #[.slice A1 n1 c1, .slice A2 n2 c2, .slice A3 n3 c3] 28) := by
    rw [hw0, Below.heap_alloc _ _ _ (by rw [World.size_alloc, World.size_alloc]; omega)]
    exact heap_alloc2_old _ _ _
  have g1 : w0.heap[w.heap.size + 1]? = some (.cells #[.int .i64 z, .string (str nm), .string (str to), .string (str b)] 65) := by
    rw [hw0, Below.heap_alloc _ _ _ (by rw [World.size_alloc, World.size_alloc]; omega)]
    exact heap_alloc2_new _ _ _
  have g2 : w0.heap[w.heap.size + 1 + 1]? = some (.cells #[.slice none 0 0, .slice none 0 0, .slice none 0 0] 28) := by
    rw [hw0]
    have h := heap_alloc2_new (w.alloc (.cells #[.slice A1 n1 c1, .slice A2 n2 c2, .slice A3 n3 c3] 28)) (.cells #[.int .i64 z, .string (str nm), .string (str to), .string (str b)] 65) (.cells #[.slice none 0 0, .slice none 0 0, .slice none 0 0] 28)
    rw [World.size_alloc] at h
    exact h
  have hsz : w0.heap.size = w.heap.size + 3 := by rw [hw0]; simp
  have k1 := cell_blk g1 1 (v := .string (str nm)) rfl
  rw [hw0] at k1
  have HS := Lib.hid hs
  have HW := Lib.hid (And.intro hbl (And.intro (hr1.below (hbl.mono (Nat.le_refl _))) (And.intro (hr3.below hbl) hsz)))
  have HG := Lib.hid (And.intro g0 (And.intro g1 g2))
  have HN := Lib.hid (And.intro hn1 hn3)
  have H0 := Lib.hid hw0
  clear hs hbl hr1 hr3 hsz g0 g1 g2 hn1 hn3 hw0
  have HBL := Lib.hid (fun (W : World) (h : Below w0.heap.size w0 W) => (show W.heap[w.heap.size]? = some (.cells #[.slice A1 n1 c1, .slice A2 n2 c2, .slice A3 n3 c3] 28) ∧ W.heap[w.heap.size + 1]? = some (.cells #[.int .i64 z, .string (str nm), .string (str to), .string (str b)] 65) ∧ W.heap[w.heap.size + 1 + 1]? = some (.cells #[.slice none 0 0, .slice none 0 0, .slice none 0 0] 28) from
    ⟨(h.block _ (by have := HW.out.2.2.2; omega)).trans HG.out.1, (h.block _ (by have := HW.out.2.2.2; omega)).trans HG.out.2.1, (h.block _ (by have := HW.out.2.2.2; omega)).trans HG.out.2.2⟩))
  have HC := Lib.hid hz
  rcases (show (k = 0 ∧ 65536 < b.length) ∨ (k = 0 ∧ ¬ 65536 < b.length) ∨ k = 1 ∨ (k ≠ 0 ∧ k ≠ 1) by omega) with h0 | h0 | h0 | h0
  case' inl =>
    obtain rfl : z = 0 := by omega
    have q0 : (65536 : Int) < ((str b).size : Nat) := by show (65536 : Int) < (b.length : Nat); omega
  case' inr.inl =>
    obtain rfl : z = 0 := by omega
    have q0 : ¬ ((65536 : Int) < ((str b).size : Nat)) := by show ¬ ((65536 : Int) < (b.length : Nat)); omega
  case' inr.inr.inl =>
    obtain rfl : z = 1 := by omega
  case' inr.inr.inr =>
    have z0 : ¬ (z = 0) := by omega
    have z1 : ¬ (z = 1) := by omega
  all_goals
    have HK := Lib.hid h0
    clear h0 hz
    go_enter Tryd.func24, Tryd.ntmps24
    go_wp2_with fail
    refine (named3_is nm HS.out.1 _).mono ?_
    rintro e w1 ⟨rfl, hb1⟩
    rw [← H0.out] at hb1
    obtain ⟨g0, g1, g2⟩ := HBL.out _ hb1
    have a0 := cell_blk g0 0 (v := .slice A1 n1 c1) rfl
    have a1 := cell_blk g0 1 (v := .slice A2 n2 c2) rfl
    have a2 := cell_blk g0 2 (v := .slice A3 n3 c3) rfl
    have b0 := cell_blk g1 0 rfl
    have b1 := cell_blk g1 1 rfl
    have b2 := cell_blk g1 2 rfl
    have b3 := cell_blk g1 3 rfl
    have r0 := cell_blk g2 0 (v := .slice none 0 0) rfl
    have r1 := cell_blk g2 1 (v := .slice none 0 0) rfl
    have r2 := cell_blk g2 2 (v := .slice none 0 0) rfl
    have f0 := frz_blk g2 0
    have f1 := frz_blk g2 1
    have f2 := frz_blk g2 2
    have H1 := Lib.hid (And.intro hb1 (And.intro g0 (And.intro g1 g2)))
    clear hb1 g0 g1 g2 k1
    cases hnm : named nm
    · have HNM := Lib.hid hnm
      clear hnm
      go_wp2_with fail
      (try simp only [Exit.inBlock, Exit.then])
      refine bodyPost_ret (results_cell2 rfl _ _ (w.heap.size + 1 + 1) _ #[.slice A1 n1 c1, .slice A2 n2 c2, .slice A3 n3 c3] (0, 0) _ rfl (set3 H1.out.2.2.2) Tryd.underlying28 rfl (by kernel_rfl)) rfl ⟨below_set3 (HW.out.1.trans (H1.out.1.mono HW.out.1.size)) (by omega), .inl ⟨11, e_nm HNM.out, by decide, rfl⟩⟩
    · have HNM := Lib.hid hnm
      clear hnm
      go_wp2_with fail
      first
      | (refine (named3_is to HS.out.2.1 _).mono ?_
         rintro e w1 ⟨rfl, hb2⟩
         have hb1 := H1.out.1.trans (hb2.mono H1.out.1.size)
         clear hb2 H1 a0 a1 a2 b0 b1 b2 b3 r0 r1 r2 f0 f1 f2
         obtain ⟨g0, g1, g2⟩ := HBL.out _ hb1
         have a0 := cell_blk g0 0 (v := .slice A1 n1 c1) rfl
         have a1 := cell_blk g0 1 (v := .slice A2 n2 c2) rfl
         have a2 := cell_blk g0 2 (v := .slice A3 n3 c3) rfl
         have b0 := cell_blk g1 0 rfl
         have b1 := cell_blk g1 1 rfl
         have b2 := cell_blk g1 2 rfl
         have b3 := cell_blk g1 3 rfl
         have r0 := cell_blk g2 0 (v := .slice none 0 0) rfl
         have r1 := cell_blk g2 1 (v := .slice none 0 0) rfl
         have r2 := cell_blk g2 2 (v := .slice none 0 0) rfl
         have f0 := frz_blk g2 0
         have f1 := frz_blk g2 1
         have f2 := frz_blk g2 2
         have H1 := Lib.hid (And.intro hb1 (And.intro g0 (And.intro g1 g2)))
         clear hb1 g0 g1 g2
         cases hto : named to
         · have HNT := Lib.hid hto
           clear hto
           go_wp2_with fail
           ((try simp only [Exit.inBlock, Exit.then]); exact bodyPost_ret (results_cell2 rfl _ _ (w.heap.size + 1 + 1) _ #[.slice A1 n1 c1, .slice A2 n2 c2, .slice A3 n3 c3] (0, 0) _ rfl (set3 H1.out.2.2.2) Tryd.underlying28 rfl (by kernel_rfl)) rfl ⟨below_set3 (HW.out.1.trans (H1.out.1.mono HW.out.1.size)) (by omega), .inl ⟨11, e_to (by have := HK.out; omega) HNT.out, by decide, rfl⟩⟩)
         have HT := Lib.hid (show k = 1 → named to = true from fun _ => hto)
         clear hto
         go_wp2_with fail)
      | ((try simp only [Exit.inBlock, Exit.then]); exact bodyPost_ret (results_cell2 rfl _ _ (w.heap.size + 1 + 1) _ #[.slice A1 n1 c1, .slice A2 n2 c2, .slice A3 n3 c3] (0, 0) _ rfl (set3 H1.out.2.2.2) Tryd.underlying28 rfl (by kernel_rfl)) rfl ⟨below_set3 (HW.out.1.trans (H1.out.1.mono HW.out.1.size)) (by omega), .inl ⟨2, e_long (by have := HK.out; omega) HNM.out (by have := HK.out; omega), by decide, rfl⟩⟩)
      | (have HT := Lib.hid (show k = 1 → named to = true from fun h => by have := HK.out; omega))
      all_goals
        rcases (show 4096 ≤ n3 ∨ ¬ 4096 ≤ n3 by omega) with q3 | q3
        case' inl =>
          have q4 : (4096 : Int) ≤ n3 := by omega
        case' inr =>
          have q4 : ¬ ((4096 : Int) ≤ n3) := by omega
        all_goals
          have H3 := Lib.hid q3
          clear q3
          refine (find_is nm A1 n1 c1 no _ HN.out.1 (by omega) (HW.out.2.1.below H1.out.1)).mono ?_
          rintro e w4 ⟨hw, h⟩
          subst hw
          rcases h with ⟨rfl, hf⟩ | ⟨i, hil, rfl, hnm4, hgot, hf⟩
          · have HF := Lib.hid hf
            clear hf
            rcases (show 64 ≤ n1 ∨ ¬ 64 ≤ n1 by omega) with q5 | q5
            · have q6 : (64 : Int) ≤ n1 := by omega
              go_wp2_with fail
              first
              | ((try simp only [Exit.inBlock, Exit.then]); exact bodyPost_ret (results_cell2 rfl _ _ (w.heap.size + 1 + 1) _ #[.slice A1 n1 c1, .slice A2 n2 c2, .slice A3 n3 c3] (0, 0) _ rfl (set3 H1.out.2.2.2) Tryd.underlying28 rfl (by kernel_rfl)) rfl ⟨below_set3 (HW.out.1.trans (H1.out.1.mono HW.out.1.size)) (by omega), .inl ⟨10, e_full (by have := HK.out; omega) HNM.out (by have := HK.out; omega) HF.out (by have := HN.out.1; omega), by decide, rfl⟩⟩)
              | ((try simp only [Exit.inBlock, Exit.then]); exact bodyPost_ret (results_cell2 rfl _ _ (w.heap.size + 1 + 1) _ #[.slice A1 n1 c1, .slice A2 n2 c2, .slice A3 n3 c3] (0, 0) _ rfl (set3 H1.out.2.2.2) Tryd.underlying28 rfl (by kernel_rfl)) rfl ⟨below_set3 (HW.out.1.trans (H1.out.1.mono HW.out.1.size)) (by omega), .inl ⟨8, e_none (by have := HK.out; omega) HNM.out HT.out HF.out, by decide, rfl⟩⟩)
            · have q6 : ¬ ((64 : Int) ≤ n1) := by omega
              go_wp2_with fail
              first
              | ((try simp only [Exit.inBlock, Exit.then]); exact bodyPost_ret (results_cell2 rfl _ _ (w.heap.size + 1 + 1) _ #[.slice A1 n1 c1, .slice A2 n2 c2, .slice A3 n3 c3] (0, 0) _ rfl (set3 H1.out.2.2.2) Tryd.underlying28 rfl (by kernel_rfl)) rfl ⟨below_set3 (HW.out.1.trans (H1.out.1.mono HW.out.1.size)) (by omega), .inl ⟨8, e_none (by have := HK.out; omega) HNM.out HT.out HF.out, by decide, rfl⟩⟩)
              | ((try simp only [Exit.inBlock, Exit.then]); exact bodyPost_ret (results_cell2 rfl _ _ (w.heap.size + 1 + 1) _ #[.slice A1 n1 c1, .slice A2 n2 c2, .slice A3 n3 c3] (0, 0) _ rfl (set3 H1.out.2.2.2) Tryd.underlying28 rfl (by kernel_rfl)) rfl ⟨below_set3 (HW.out.1.trans (H1.out.1.mono HW.out.1.size)) (by omega), .inl ⟨10, by rw [e_tail HNM.out HT.out (fun _ => ⟨by have := HK.out; omega, by have := HN.out.1; omega⟩) (fun h => by have := HK.out; omega), HN.out.2, if_pos H3.out], by decide, rfl⟩⟩)
              | skip
              all_goals
                have HPRE := Lib.hid (show errOf no st ⟨k, nm, to, b⟩ = 0 by rw [e_tail HNM.out HT.out (fun _ => ⟨by have := HK.out; omega, by have := HN.out.1; omega⟩) (fun h => by have := HK.out; omega), HN.out.2, if_neg H3.out])
                have HD := Lib.hid (show k = 1 → hasF nm no = true from fun h => by have := HK.out; omega)
                have hC : (k : Int) = 0 := HC.out
                have hbI : Below w1.heap.size w1 w1.drew := ⟨rfl, rfl, rfl, Nat.le_refl _, fun _ _ => rfl⟩
                have HRR := Lib.hid (fun (W : World) (h : Below w1.heap.size w1 W) => (And.intro ((HW.out.2.1.below H1.out.1).below h) ((HW.out.2.2.1.below H1.out.1).below h) : RdF W A1 no ∧ RdS W A3 st))
                have hS0 : ∀ W : World, Below w1.heap.size w1 W → W.cell? ⟨w.heap.size, 0, none⟩ = some (.slice A1 n1 c1) ∧ W.cell? ⟨w.heap.size, 1, none⟩ = some (.slice A2 n2 c2) ∧ W.cell? ⟨w.heap.size, 2, none⟩ = some (.slice A3 n3 c3) ∧ W.cell? ⟨w.heap.size + 1, 0, none⟩ = some (.int .i64 0) ∧ W.cell? ⟨w.heap.size + 1, 1, none⟩ = some (.string (str nm)) ∧ W.cell? ⟨w.heap.size + 1, 2, none⟩ = some (.string (str to)) ∧ W.cell? ⟨w.heap.size + 1, 3, none⟩ = some (.string (str b)) := fun W h =>
                  ⟨(h.cell (World.block_lt_of_cell? _ _ a0)).trans a0, (h.cell (World.block_lt_of_cell? _ _ a1)).trans a1, (h.cell (World.block_lt_of_cell? _ _ a2)).trans a2, (h.cell (World.block_lt_of_cell? _ _ b0)).trans b0, (h.cell (World.block_lt_of_cell? _ _ b1)).trans b1, (h.cell (World.block_lt_of_cell? _ _ b2)).trans b2, (h.cell (World.block_lt_of_cell? _ _ b3)).trans b3⟩
                have HSS := Lib.hid hS0
                have HR2 := Lib.hid (fun (W : World) (h : Below w1.heap.size w1 W) => (HBL.out W (H1.out.1.trans (h.mono H1.out.1.size))))
                have HLEN := Lib.hid (show n3 + 1 ≤ 5000 from by omega)
                have HZ := Lib.hid hC
                clear hS0 a0 a1 a2 b0 b1 b2 b3 r0 r1 r2 f0 f1 f2 hC
                go_region_held3 (fun W => W.cell? ⟨w.heap.size, 0, none⟩ = some (.slice A1 n1 c1) ∧ W.cell? ⟨w.heap.size, 1, none⟩ = some (.slice A2 n2 c2) ∧ W.cell? ⟨w.heap.size, 2, none⟩ = some (.slice A3 n3 c3) ∧ W.cell? ⟨w.heap.size + 1, 0, none⟩ = some (.int .i64 0) ∧ W.cell? ⟨w.heap.size + 1, 1, none⟩ = some (.string (str nm)) ∧ W.cell? ⟨w.heap.size + 1, 2, none⟩ = some (.string (str to)) ∧ W.cell? ⟨w.heap.size + 1, 3, none⟩ = some (.string (str b)))
                  (first
                    | exact HSS.out _ (by assumption)
                    | exact HSS.out _ (below_al (by assumption) _)
                    | exact set7 (HSS.out _ hbE))
                  (first
                    | (go_at_call 37
                       refine (doRef_z k 0 HZ.out nm to b A1 n1 c1 no _ HN.out.1 (by omega) (by first | exact (HRR.out _ hbI).1 | exact (HRR.out _ (below_al hbI _)).1) HD.out).mono ?_
                       rintro e wD ⟨AD, cD, rfl, hb0, hrD, haD⟩
                       have hbD : Below w1.heap.size w1 wD := by first | exact (below_al hbI _).trans (hb0.mono (below_al hbI _).size) | exact hbI.trans (hb0.mono hbI.size)
                       have hA1 : ∀ a, AD = some a → w1.heap.size ≤ a.block := by
                         first
                         | exact fun a e => Nat.le_trans (below_al hbI _).size (haD a e)
                         | exact fun a e => Nat.le_trans hbI.size (haD a e)
                       have HDD := Lib.hid (And.intro hrD (And.intro hA1 hbD))
                       clear hA1
                       try have HRb := Lib.hid (show Rd wD (some ⟨w1.heap.size, 0, none⟩) [.int .i64 0, .string (str nm), .string (str to), .string (str b)] from Rd.below (rd_step w1.drew _ _ _ _) hb0)
                       clear hb0 hrD haD)
                    | (refine step_appK (by rfl) (.tmp 62) (.tmp 64) _ (by rfl) Tryd.underlying26 infoStepR rfl (by omega) w1.heap.size (.slice none 0 0) 0 [] (by rfl) (World.ownsRow_nil _ _ _ _) A3 n3 c3 (st.flatMap stepCells) (by rfl) (by rw [scat_len, HN.out.2])
                         (by first | exact (HRR.out _ hbD).2 | exact (HRR.out _ (below_al hbD _)).2) one_steps (by have := HLEN.out; unfold maxLen; omega) (by have := HLEN.out; omega) (by first | exact hbD.size | exact (below_al hbD _).size) ?_
                       intro vN wN hoN hgN haN
                       first
                       | have hbN0 : Below wD.heap.size wD wN := (Below.refl _ _).grown hgN (Nat.le_refl _) (fun k hk => by simp [Value.ownBlock] at hk)
                       | have hbN0 : Below wD.heap.size wD wN := (below_al (Below.refl _ _) _).grown hgN (below_al (Below.refl _ _) _).size (fun k hk => by simp [Value.ownBlock] at hk)
                       have hbN : Below w1.heap.size w1 wN := hbD.trans (hbN0.mono hbD.size)
                       have HNN := Lib.hid (And.intro hoN (And.intro (HDD.out.1.below hbN0) (show ∀ i, vN.ownBlock = some i → wD.heap.size ≤ i from fun i hi => by
                         rcases haN with h | h
                         · rw [h] at hi; cases hi
                         · rw [h] at hi
                           injection hi with hi
                           rw [← hi]
                           first | exact Nat.le_refl _ | exact (below_al (Below.refl _ _) _).size)))
                       first
                       | have HRc := Lib.hid (show Rd wN (some ⟨w1.heap.size, 0, none⟩) [.int .i64 0, .string (str nm), .string (str to), .string (str b)] from HRb.out.below hbN0)
                       | have HRc := Lib.hid (show Rd wN (some ⟨wD.heap.size, 0, none⟩) [.int .i64 0, .string (str nm), .string (str to), .string (str b)] from Rd.below (rd_step wD _ _ _ _) ((Below.refl _ _).grown hgN (Nat.le_refl _) (fun k hk => by simp [Value.ownBlock] at hk)))
                       | skip
                       have HB0 := Lib.hid hbN0
                       clear hoN hgN haN hbN0)
                    | (refine step_appK (by rfl) (.tmp 65) (.tmp 67) _ (by rfl) Tryd.underlying26 infoStepR rfl (by omega) w1.heap.size vN (0 + n3) ([] ++ st.flatMap stepCells) (by rfl) (by first | exact HNN.out.1 | exact HNN.out.1.alloc _) (some ⟨_, 0, none⟩) 1 1 [.int .i64 0, .string (str nm), .string (str to), .string (str b)] (by rfl) rfl
                         (by first | exact HRc.out | exact rd_step _ _ _ _ _) (by intro u hu; simp only [List.mem_cons, List.not_mem_nil, or_false] at hu; rcases hu with rfl | rfl | rfl | rfl <;> rfl) (by have := HLEN.out; unfold maxLen; omega) (by have := HLEN.out; omega) (by first | exact hbN.size | exact (below_al hbN _).size) ?_
                       intro vE wE hoE hgE haE
                       have hbE : Below w1.heap.size w1 wE := by
                         first
                         | exact hbN.grown hgE hbN.size (fun k hk => (HNN.out.1.lt k hk).1)
                         | exact (below_al hbN _).grown hgE (below_al hbN _).size (fun k hk => (HNN.out.1.lt k hk).1)
                       have hrE : RdF wE AD (actF [] no ⟨k, nm, to, b⟩) := Rd.keep HDD.out.1 fun q e hq => by
                         first
                         | exact (hgE.block q.block (Nat.lt_of_lt_of_le hq HB0.out.size) (fun e' => by have := HNN.out.2.2 q.block e'.symm; omega)).trans (HB0.out.block _ hq)
                         | exact (hgE.block q.block (Nat.lt_of_lt_of_le hq (below_al HB0.out _).size) (fun e' => by have := HNN.out.2.2 q.block e'.symm; omega)).trans ((below_al HB0.out _).block _ hq)
                       obtain ⟨BE, cE, rfl, _, _, _, hrS, haS⟩ := owns_formk hoE
                       obtain ⟨_, _, gE⟩ := HR2.out wE hbE
                       have r0 := cell_blk gE 0 (v := .slice none 0 0) rfl
                       have r1 := cell_blk gE 1 (v := .slice none 0 0) rfl
                       have r2 := cell_blk gE 2 (v := .slice none 0 0) rfl
                       have f0 := frz_blk gE 0
                       have f1 := frz_blk gE 1
                       have f2 := frz_blk gE 2
                       have HEE := Lib.hid (And.intro gE (And.intro hrE (And.intro hrS haS)))
                       clear hoE hgE haE hrE hrS haS gE))
                all_goals
                  have HE2 := Lib.hid hbE
                  clear r0 r1 r2 f0 f1 f2 hbE hbN hbD hbI
                  go_wp2_with fail
                  (try simp only [Exit.inBlock, Exit.then])
                  refine bodyPost_ret (results_cell2 rfl _ _ (w.heap.size + 1 + 1) _ #[.slice AD (actF [] no ⟨k, nm, to, b⟩).length cD, .slice A2 n2 c2, .slice BE (n3 + 1) cE] (0, 0) _ rfl (set3 HEE.out.1) Tryd.underlying28 rfl (by kernel_rfl)) rfl ?_
                  refine ⟨below_set3 (HW.out.1.trans ((H1.out.1.trans (HE2.out.mono H1.out.1.size)).mono HW.out.1.size)) (by omega), .inr ⟨HPRE.out, AD, cD, BE, cE, rfl, rd_set3 HEE.out.2.1 (fun q e => by have := HDD.out.2.1 q e; have := H1.out.1.size; have := HW.out.2.2.2; omega), rd_set3 (by rw [List.flatMap_append]; simpa [stepCells, HZ.out] using HEE.out.2.2.1) (fun q e => by have := (HEE.out.2.2.2 q e).1; have := H1.out.1.size; have := HW.out.2.2.2; omega), fun a e => Nat.le_trans HW.out.1.size (Nat.le_trans H1.out.1.size (HDD.out.2.1 a e)), fun a e => Nat.le_trans HW.out.1.size (Nat.le_trans H1.out.1.size (HEE.out.2.2.2 a e).1)⟩⟩
          · have HF := Lib.hid hf
            have q7 : ¬ ((i : Int) < 0) := by omega
            clear hf hnm4 hgot hil
            go_wp2_with fail
            first
            | ((try simp only [Exit.inBlock, Exit.then]); exact bodyPost_ret (results_cell2 rfl _ _ (w.heap.size + 1 + 1) _ #[.slice A1 n1 c1, .slice A2 n2 c2, .slice A3 n3 c3] (0, 0) _ rfl (set3 H1.out.2.2.2) Tryd.underlying28 rfl (by kernel_rfl)) rfl ⟨below_set3 (HW.out.1.trans (H1.out.1.mono HW.out.1.size)) (by omega), .inl ⟨10, by rw [e_tail HNM.out HT.out (fun h => ⟨by have := HK.out; omega, by rw [HF.out]; simp⟩) (fun _ => HF.out), HN.out.2, if_pos H3.out], by decide, rfl⟩⟩)
            | skip
            all_goals
              have HPRE := Lib.hid (show errOf no st ⟨k, nm, to, b⟩ = 0 by rw [e_tail HNM.out HT.out (fun h => ⟨by have := HK.out; omega, by rw [HF.out]; simp⟩) (fun _ => HF.out), HN.out.2, if_neg H3.out])
              have HD := Lib.hid (show k = 1 → hasF nm no = true from fun _ => HF.out)
              first
              | (have hC : (k : Int) = 0 := HC.out
                 have hbI : Below w1.heap.size w1 w1.drew := ⟨rfl, rfl, rfl, Nat.le_refl _, fun _ _ => rfl⟩
                 have HRR := Lib.hid (fun (W : World) (h : Below w1.heap.size w1 W) => (And.intro ((HW.out.2.1.below H1.out.1).below h) ((HW.out.2.2.1.below H1.out.1).below h) : RdF W A1 no ∧ RdS W A3 st))
                 have hS0 : ∀ W : World, Below w1.heap.size w1 W → W.cell? ⟨w.heap.size, 0, none⟩ = some (.slice A1 n1 c1) ∧ W.cell? ⟨w.heap.size, 1, none⟩ = some (.slice A2 n2 c2) ∧ W.cell? ⟨w.heap.size, 2, none⟩ = some (.slice A3 n3 c3) ∧ W.cell? ⟨w.heap.size + 1, 0, none⟩ = some (.int .i64 0) ∧ W.cell? ⟨w.heap.size + 1, 1, none⟩ = some (.string (str nm)) ∧ W.cell? ⟨w.heap.size + 1, 2, none⟩ = some (.string (str to)) ∧ W.cell? ⟨w.heap.size + 1, 3, none⟩ = some (.string (str b)) := fun W h =>
                   ⟨(h.cell (World.block_lt_of_cell? _ _ a0)).trans a0, (h.cell (World.block_lt_of_cell? _ _ a1)).trans a1, (h.cell (World.block_lt_of_cell? _ _ a2)).trans a2, (h.cell (World.block_lt_of_cell? _ _ b0)).trans b0, (h.cell (World.block_lt_of_cell? _ _ b1)).trans b1, (h.cell (World.block_lt_of_cell? _ _ b2)).trans b2, (h.cell (World.block_lt_of_cell? _ _ b3)).trans b3⟩
                 have HSS := Lib.hid hS0
                 have HR2 := Lib.hid (fun (W : World) (h : Below w1.heap.size w1 W) => (HBL.out W (H1.out.1.trans (h.mono H1.out.1.size))))
                 have HLEN := Lib.hid (show n3 + 1 ≤ 5000 from by omega)
                 have HZ := Lib.hid hC
                 clear hS0 a0 a1 a2 b0 b1 b2 b3 r0 r1 r2 f0 f1 f2 hC
                 go_region_held3 (fun W => W.cell? ⟨w.heap.size, 0, none⟩ = some (.slice A1 n1 c1) ∧ W.cell? ⟨w.heap.size, 1, none⟩ = some (.slice A2 n2 c2) ∧ W.cell? ⟨w.heap.size, 2, none⟩ = some (.slice A3 n3 c3) ∧ W.cell? ⟨w.heap.size + 1, 0, none⟩ = some (.int .i64 0) ∧ W.cell? ⟨w.heap.size + 1, 1, none⟩ = some (.string (str nm)) ∧ W.cell? ⟨w.heap.size + 1, 2, none⟩ = some (.string (str to)) ∧ W.cell? ⟨w.heap.size + 1, 3, none⟩ = some (.string (str b)))
                   (first
                     | exact HSS.out _ (by assumption)
                     | exact HSS.out _ (below_al (by assumption) _)
                     | exact set7 (HSS.out _ hbE))
                   (first
                     | (go_at_call 37
                        refine (doRef_z k 0 HZ.out nm to b A1 n1 c1 no _ HN.out.1 (by omega) (by first | exact (HRR.out _ hbI).1 | exact (HRR.out _ (below_al hbI _)).1) HD.out).mono ?_
                        rintro e wD ⟨AD, cD, rfl, hb0, hrD, haD⟩
                        have hbD : Below w1.heap.size w1 wD := by first | exact (below_al hbI _).trans (hb0.mono (below_al hbI _).size) | exact hbI.trans (hb0.mono hbI.size)
                        have hA1 : ∀ a, AD = some a → w1.heap.size ≤ a.block := by
                          first
                          | exact fun a e => Nat.le_trans (below_al hbI _).size (haD a e)
                          | exact fun a e => Nat.le_trans hbI.size (haD a e)
                        have HDD := Lib.hid (And.intro hrD (And.intro hA1 hbD))
                        clear hA1
                        try have HRb := Lib.hid (show Rd wD (some ⟨w1.heap.size, 0, none⟩) [.int .i64 0, .string (str nm), .string (str to), .string (str b)] from Rd.below (rd_step w1.drew _ _ _ _) hb0)
                        clear hb0 hrD haD)
                     | (refine step_appK (by rfl) (.tmp 62) (.tmp 64) _ (by rfl) Tryd.underlying26 infoStepR rfl (by omega) w1.heap.size (.slice none 0 0) 0 [] (by rfl) (World.ownsRow_nil _ _ _ _) A3 n3 c3 (st.flatMap stepCells) (by rfl) (by rw [scat_len, HN.out.2])
                          (by first | exact (HRR.out _ hbD).2 | exact (HRR.out _ (below_al hbD _)).2) one_steps (by have := HLEN.out; unfold maxLen; omega) (by have := HLEN.out; omega) (by first | exact hbD.size | exact (below_al hbD _).size) ?_
                        intro vN wN hoN hgN haN
                        first
                        | have hbN0 : Below wD.heap.size wD wN := (Below.refl _ _).grown hgN (Nat.le_refl _) (fun k hk => by simp [Value.ownBlock] at hk)
                        | have hbN0 : Below wD.heap.size wD wN := (below_al (Below.refl _ _) _).grown hgN (below_al (Below.refl _ _) _).size (fun k hk => by simp [Value.ownBlock] at hk)
                        have hbN : Below w1.heap.size w1 wN := hbD.trans (hbN0.mono hbD.size)
                        have HNN := Lib.hid (And.intro hoN (And.intro (HDD.out.1.below hbN0) (show ∀ i, vN.ownBlock = some i → wD.heap.size ≤ i from fun i hi => by
                          rcases haN with h | h
                          · rw [h] at hi; cases hi
                          · rw [h] at hi
                            injection hi with hi
                            rw [← hi]
                            first | exact Nat.le_refl _ | exact (below_al (Below.refl _ _) _).size)))
                        first
                        | have HRc := Lib.hid (show Rd wN (some ⟨w1.heap.size, 0, none⟩) [.int .i64 0, .string (str nm), .string (str to), .string (str b)] from HRb.out.below hbN0)
                        | have HRc := Lib.hid (show Rd wN (some ⟨wD.heap.size, 0, none⟩) [.int .i64 0, .string (str nm), .string (str to), .string (str b)] from Rd.below (rd_step wD _ _ _ _) ((Below.refl _ _).grown hgN (Nat.le_refl _) (fun k hk => by simp [Value.ownBlock] at hk)))
                        | skip
                        have HB0 := Lib.hid hbN0
                        clear hoN hgN haN hbN0)
                     | (refine step_appK (by rfl) (.tmp 65) (.tmp 67) _ (by rfl) Tryd.underlying26 infoStepR rfl (by omega) w1.heap.size vN (0 + n3) ([] ++ st.flatMap stepCells) (by rfl) (by first | exact HNN.out.1 | exact HNN.out.1.alloc _) (some ⟨_, 0, none⟩) 1 1 [.int .i64 0, .string (str nm), .string (str to), .string (str b)] (by rfl) rfl
                          (by first | exact HRc.out | exact rd_step _ _ _ _ _) (by intro u hu; simp only [List.mem_cons, List.not_mem_nil, or_false] at hu; rcases hu with rfl | rfl | rfl | rfl <;> rfl) (by have := HLEN.out; unfold maxLen; omega) (by have := HLEN.out; omega) (by first | exact hbN.size | exact (below_al hbN _).size) ?_
                        intro vE wE hoE hgE haE
                        have hbE : Below w1.heap.size w1 wE := by
                          first
                          | exact hbN.grown hgE hbN.size (fun k hk => (HNN.out.1.lt k hk).1)
                          | exact (below_al hbN _).grown hgE (below_al hbN _).size (fun k hk => (HNN.out.1.lt k hk).1)
                        have hrE : RdF wE AD (actF [] no ⟨k, nm, to, b⟩) := Rd.keep HDD.out.1 fun q e hq => by
                          first
                          | exact (hgE.block q.block (Nat.lt_of_lt_of_le hq HB0.out.size) (fun e' => by have := HNN.out.2.2 q.block e'.symm; omega)).trans (HB0.out.block _ hq)
                          | exact (hgE.block q.block (Nat.lt_of_lt_of_le hq (below_al HB0.out _).size) (fun e' => by have := HNN.out.2.2 q.block e'.symm; omega)).trans ((below_al HB0.out _).block _ hq)
                        obtain ⟨BE, cE, rfl, _, _, _, hrS, haS⟩ := owns_formk hoE
                        obtain ⟨_, _, gE⟩ := HR2.out wE hbE
                        have r0 := cell_blk gE 0 (v := .slice none 0 0) rfl
                        have r1 := cell_blk gE 1 (v := .slice none 0 0) rfl
                        have r2 := cell_blk gE 2 (v := .slice none 0 0) rfl
                        have f0 := frz_blk gE 0
                        have f1 := frz_blk gE 1
                        have f2 := frz_blk gE 2
                        have HEE := Lib.hid (And.intro gE (And.intro hrE (And.intro hrS haS)))
                        clear hoE hgE haE hrE hrS haS gE))
                 all_goals
                   have HE2 := Lib.hid hbE
                   clear r0 r1 r2 f0 f1 f2 hbE hbN hbD hbI
                   go_wp2_with fail
                   (try simp only [Exit.inBlock, Exit.then])
                   refine bodyPost_ret (results_cell2 rfl _ _ (w.heap.size + 1 + 1) _ #[.slice AD (actF [] no ⟨k, nm, to, b⟩).length cD, .slice A2 n2 c2, .slice BE (n3 + 1) cE] (0, 0) _ rfl (set3 HEE.out.1) Tryd.underlying28 rfl (by kernel_rfl)) rfl ?_
                   refine ⟨below_set3 (HW.out.1.trans ((H1.out.1.trans (HE2.out.mono H1.out.1.size)).mono HW.out.1.size)) (by omega), .inr ⟨HPRE.out, AD, cD, BE, cE, rfl, rd_set3 HEE.out.2.1 (fun q e => by have := HDD.out.2.1 q e; have := H1.out.1.size; have := HW.out.2.2.2; omega), rd_set3 (by rw [List.flatMap_append]; simpa [stepCells, HZ.out] using HEE.out.2.2.1) (fun q e => by have := (HEE.out.2.2.2 q e).1; have := H1.out.1.size; have := HW.out.2.2.2; omega), fun a e => Nat.le_trans HW.out.1.size (Nat.le_trans H1.out.1.size (HDD.out.2.1 a e)), fun a e => Nat.le_trans HW.out.1.size (Nat.le_trans H1.out.1.size (HEE.out.2.2.2 a e).1)⟩⟩)
              | (have hC : (k : Int) = 1 := HC.out
                 have hbI : Below w1.heap.size w1 w1.drew := ⟨rfl, rfl, rfl, Nat.le_refl _, fun _ _ => rfl⟩
                 have HRR := Lib.hid (fun (W : World) (h : Below w1.heap.size w1 W) => (And.intro ((HW.out.2.1.below H1.out.1).below h) ((HW.out.2.2.1.below H1.out.1).below h) : RdF W A1 no ∧ RdS W A3 st))
                 have hS0 : ∀ W : World, Below w1.heap.size w1 W → W.cell? ⟨w.heap.size, 0, none⟩ = some (.slice A1 n1 c1) ∧ W.cell? ⟨w.heap.size, 1, none⟩ = some (.slice A2 n2 c2) ∧ W.cell? ⟨w.heap.size, 2, none⟩ = some (.slice A3 n3 c3) ∧ W.cell? ⟨w.heap.size + 1, 0, none⟩ = some (.int .i64 1) ∧ W.cell? ⟨w.heap.size + 1, 1, none⟩ = some (.string (str nm)) ∧ W.cell? ⟨w.heap.size + 1, 2, none⟩ = some (.string (str to)) ∧ W.cell? ⟨w.heap.size + 1, 3, none⟩ = some (.string (str b)) := fun W h =>
                   ⟨(h.cell (World.block_lt_of_cell? _ _ a0)).trans a0, (h.cell (World.block_lt_of_cell? _ _ a1)).trans a1, (h.cell (World.block_lt_of_cell? _ _ a2)).trans a2, (h.cell (World.block_lt_of_cell? _ _ b0)).trans b0, (h.cell (World.block_lt_of_cell? _ _ b1)).trans b1, (h.cell (World.block_lt_of_cell? _ _ b2)).trans b2, (h.cell (World.block_lt_of_cell? _ _ b3)).trans b3⟩
                 have HSS := Lib.hid hS0
                 have HR2 := Lib.hid (fun (W : World) (h : Below w1.heap.size w1 W) => (HBL.out W (H1.out.1.trans (h.mono H1.out.1.size))))
                 have HLEN := Lib.hid (show n3 + 1 ≤ 5000 from by omega)
                 have HZ := Lib.hid hC
                 clear hS0 a0 a1 a2 b0 b1 b2 b3 r0 r1 r2 f0 f1 f2 hC
                 go_region_held3 (fun W => W.cell? ⟨w.heap.size, 0, none⟩ = some (.slice A1 n1 c1) ∧ W.cell? ⟨w.heap.size, 1, none⟩ = some (.slice A2 n2 c2) ∧ W.cell? ⟨w.heap.size, 2, none⟩ = some (.slice A3 n3 c3) ∧ W.cell? ⟨w.heap.size + 1, 0, none⟩ = some (.int .i64 1) ∧ W.cell? ⟨w.heap.size + 1, 1, none⟩ = some (.string (str nm)) ∧ W.cell? ⟨w.heap.size + 1, 2, none⟩ = some (.string (str to)) ∧ W.cell? ⟨w.heap.size + 1, 3, none⟩ = some (.string (str b)))
                   (first
                     | exact HSS.out _ (by assumption)
                     | exact HSS.out _ (below_al (by assumption) _)
                     | exact set7 (HSS.out _ hbE))
                   (first
                     | (go_at_call 37
                        refine (doRef_z k 1 HZ.out nm to b A1 n1 c1 no _ HN.out.1 (by omega) (by first | exact (HRR.out _ hbI).1 | exact (HRR.out _ (below_al hbI _)).1) HD.out).mono ?_
                        rintro e wD ⟨AD, cD, rfl, hb0, hrD, haD⟩
                        have hbD : Below w1.heap.size w1 wD := by first | exact (below_al hbI _).trans (hb0.mono (below_al hbI _).size) | exact hbI.trans (hb0.mono hbI.size)
                        have hA1 : ∀ a, AD = some a → w1.heap.size ≤ a.block := by
                          first
                          | exact fun a e => Nat.le_trans (below_al hbI _).size (haD a e)
                          | exact fun a e => Nat.le_trans hbI.size (haD a e)
                        have HDD := Lib.hid (And.intro hrD (And.intro hA1 hbD))
                        clear hA1
                        try have HRb := Lib.hid (show Rd wD (some ⟨w1.heap.size, 0, none⟩) [.int .i64 1, .string (str nm), .string (str to), .string (str b)] from Rd.below (rd_step w1.drew _ _ _ _) hb0)
                        clear hb0 hrD haD)
                     | (refine step_appK (by rfl) (.tmp 62) (.tmp 64) _ (by rfl) Tryd.underlying26 infoStepR rfl (by omega) w1.heap.size (.slice none 0 0) 0 [] (by rfl) (World.ownsRow_nil _ _ _ _) A3 n3 c3 (st.flatMap stepCells) (by rfl) (by rw [scat_len, HN.out.2])
                          (by first | exact (HRR.out _ hbD).2 | exact (HRR.out _ (below_al hbD _)).2) one_steps (by have := HLEN.out; unfold maxLen; omega) (by have := HLEN.out; omega) (by first | exact hbD.size | exact (below_al hbD _).size) ?_
                        intro vN wN hoN hgN haN
                        first
                        | have hbN0 : Below wD.heap.size wD wN := (Below.refl _ _).grown hgN (Nat.le_refl _) (fun k hk => by simp [Value.ownBlock] at hk)
                        | have hbN0 : Below wD.heap.size wD wN := (below_al (Below.refl _ _) _).grown hgN (below_al (Below.refl _ _) _).size (fun k hk => by simp [Value.ownBlock] at hk)
                        have hbN : Below w1.heap.size w1 wN := hbD.trans (hbN0.mono hbD.size)
                        have HNN := Lib.hid (And.intro hoN (And.intro (HDD.out.1.below hbN0) (show ∀ i, vN.ownBlock = some i → wD.heap.size ≤ i from fun i hi => by
                          rcases haN with h | h
                          · rw [h] at hi; cases hi
                          · rw [h] at hi
                            injection hi with hi
                            rw [← hi]
                            first | exact Nat.le_refl _ | exact (below_al (Below.refl _ _) _).size)))
                        first
                        | have HRc := Lib.hid (show Rd wN (some ⟨w1.heap.size, 0, none⟩) [.int .i64 1, .string (str nm), .string (str to), .string (str b)] from HRb.out.below hbN0)
                        | have HRc := Lib.hid (show Rd wN (some ⟨wD.heap.size, 0, none⟩) [.int .i64 1, .string (str nm), .string (str to), .string (str b)] from Rd.below (rd_step wD _ _ _ _) ((Below.refl _ _).grown hgN (Nat.le_refl _) (fun k hk => by simp [Value.ownBlock] at hk)))
                        | skip
                        have HB0 := Lib.hid hbN0
                        clear hoN hgN haN hbN0)
                     | (refine step_appK (by rfl) (.tmp 65) (.tmp 67) _ (by rfl) Tryd.underlying26 infoStepR rfl (by omega) w1.heap.size vN (0 + n3) ([] ++ st.flatMap stepCells) (by rfl) (by first | exact HNN.out.1 | exact HNN.out.1.alloc _) (some ⟨_, 0, none⟩) 1 1 [.int .i64 1, .string (str nm), .string (str to), .string (str b)] (by rfl) rfl
                          (by first | exact HRc.out | exact rd_step _ _ _ _ _) (by intro u hu; simp only [List.mem_cons, List.not_mem_nil, or_false] at hu; rcases hu with rfl | rfl | rfl | rfl <;> rfl) (by have := HLEN.out; unfold maxLen; omega) (by have := HLEN.out; omega) (by first | exact hbN.size | exact (below_al hbN _).size) ?_
                        intro vE wE hoE hgE haE
                        have hbE : Below w1.heap.size w1 wE := by
                          first
                          | exact hbN.grown hgE hbN.size (fun k hk => (HNN.out.1.lt k hk).1)
                          | exact (below_al hbN _).grown hgE (below_al hbN _).size (fun k hk => (HNN.out.1.lt k hk).1)
                        have hrE : RdF wE AD (actF [] no ⟨k, nm, to, b⟩) := Rd.keep HDD.out.1 fun q e hq => by
                          first
                          | exact (hgE.block q.block (Nat.lt_of_lt_of_le hq HB0.out.size) (fun e' => by have := HNN.out.2.2 q.block e'.symm; omega)).trans (HB0.out.block _ hq)
                          | exact (hgE.block q.block (Nat.lt_of_lt_of_le hq (below_al HB0.out _).size) (fun e' => by have := HNN.out.2.2 q.block e'.symm; omega)).trans ((below_al HB0.out _).block _ hq)
                        obtain ⟨BE, cE, rfl, _, _, _, hrS, haS⟩ := owns_formk hoE
                        obtain ⟨_, _, gE⟩ := HR2.out wE hbE
                        have r0 := cell_blk gE 0 (v := .slice none 0 0) rfl
                        have r1 := cell_blk gE 1 (v := .slice none 0 0) rfl
                        have r2 := cell_blk gE 2 (v := .slice none 0 0) rfl
                        have f0 := frz_blk gE 0
                        have f1 := frz_blk gE 1
                        have f2 := frz_blk gE 2
                        have HEE := Lib.hid (And.intro gE (And.intro hrE (And.intro hrS haS)))
                        clear hoE hgE haE hrE hrS haS gE))
                 all_goals
                   have HE2 := Lib.hid hbE
                   clear r0 r1 r2 f0 f1 f2 hbE hbN hbD hbI
                   go_wp2_with fail
                   (try simp only [Exit.inBlock, Exit.then])
                   refine bodyPost_ret (results_cell2 rfl _ _ (w.heap.size + 1 + 1) _ #[.slice AD (actF [] no ⟨k, nm, to, b⟩).length cD, .slice A2 n2 c2, .slice BE (n3 + 1) cE] (0, 0) _ rfl (set3 HEE.out.1) Tryd.underlying28 rfl (by kernel_rfl)) rfl ?_
                   refine ⟨below_set3 (HW.out.1.trans ((H1.out.1.trans (HE2.out.mono H1.out.1.size)).mono HW.out.1.size)) (by omega), .inr ⟨HPRE.out, AD, cD, BE, cE, rfl, rd_set3 HEE.out.2.1 (fun q e => by have := HDD.out.2.1 q e; have := H1.out.1.size; have := HW.out.2.2.2; omega), rd_set3 (by rw [List.flatMap_append]; simpa [stepCells, HZ.out] using HEE.out.2.2.1) (fun q e => by have := (HEE.out.2.2.2 q e).1; have := H1.out.1.size; have := HW.out.2.2.2; omega), fun a e => Nat.le_trans HW.out.1.size (Nat.le_trans H1.out.1.size (HDD.out.2.1 a e)), fun a e => Nat.le_trans HW.out.1.size (Nat.le_trans H1.out.1.size (HEE.out.2.2.2 a e).1)⟩⟩)
              | (have hC : (k : Int) = z := HC.out
                 have hbI : Below w1.heap.size w1 w1.drew := ⟨rfl, rfl, rfl, Nat.le_refl _, fun _ _ => rfl⟩
                 have HRR := Lib.hid (fun (W : World) (h : Below w1.heap.size w1 W) => (And.intro ((HW.out.2.1.below H1.out.1).below h) ((HW.out.2.2.1.below H1.out.1).below h) : RdF W A1 no ∧ RdS W A3 st))
                 have hS0 : ∀ W : World, Below w1.heap.size w1 W → W.cell? ⟨w.heap.size, 0, none⟩ = some (.slice A1 n1 c1) ∧ W.cell? ⟨w.heap.size, 1, none⟩ = some (.slice A2 n2 c2) ∧ W.cell? ⟨w.heap.size, 2, none⟩ = some (.slice A3 n3 c3) ∧ W.cell? ⟨w.heap.size + 1, 0, none⟩ = some (.int .i64 z) ∧ W.cell? ⟨w.heap.size + 1, 1, none⟩ = some (.string (str nm)) ∧ W.cell? ⟨w.heap.size + 1, 2, none⟩ = some (.string (str to)) ∧ W.cell? ⟨w.heap.size + 1, 3, none⟩ = some (.string (str b)) := fun W h =>
                   ⟨(h.cell (World.block_lt_of_cell? _ _ a0)).trans a0, (h.cell (World.block_lt_of_cell? _ _ a1)).trans a1, (h.cell (World.block_lt_of_cell? _ _ a2)).trans a2, (h.cell (World.block_lt_of_cell? _ _ b0)).trans b0, (h.cell (World.block_lt_of_cell? _ _ b1)).trans b1, (h.cell (World.block_lt_of_cell? _ _ b2)).trans b2, (h.cell (World.block_lt_of_cell? _ _ b3)).trans b3⟩
                 have HSS := Lib.hid hS0
                 have HR2 := Lib.hid (fun (W : World) (h : Below w1.heap.size w1 W) => (HBL.out W (H1.out.1.trans (h.mono H1.out.1.size))))
                 have HLEN := Lib.hid (show n3 + 1 ≤ 5000 from by omega)
                 have HZ := Lib.hid hC
                 clear hS0 a0 a1 a2 b0 b1 b2 b3 r0 r1 r2 f0 f1 f2 hC
                 go_region_held3 (fun W => W.cell? ⟨w.heap.size, 0, none⟩ = some (.slice A1 n1 c1) ∧ W.cell? ⟨w.heap.size, 1, none⟩ = some (.slice A2 n2 c2) ∧ W.cell? ⟨w.heap.size, 2, none⟩ = some (.slice A3 n3 c3) ∧ W.cell? ⟨w.heap.size + 1, 0, none⟩ = some (.int .i64 z) ∧ W.cell? ⟨w.heap.size + 1, 1, none⟩ = some (.string (str nm)) ∧ W.cell? ⟨w.heap.size + 1, 2, none⟩ = some (.string (str to)) ∧ W.cell? ⟨w.heap.size + 1, 3, none⟩ = some (.string (str b)))
                   (first
                     | exact HSS.out _ (by assumption)
                     | exact HSS.out _ (below_al (by assumption) _)
                     | exact set7 (HSS.out _ hbE))
                   (first
                     | (go_at_call 37
                        refine (doRef_z k z HZ.out nm to b A1 n1 c1 no _ HN.out.1 (by omega) (by first | exact (HRR.out _ hbI).1 | exact (HRR.out _ (below_al hbI _)).1) HD.out).mono ?_
                        rintro e wD ⟨AD, cD, rfl, hb0, hrD, haD⟩
                        have hbD : Below w1.heap.size w1 wD := by first | exact (below_al hbI _).trans (hb0.mono (below_al hbI _).size) | exact hbI.trans (hb0.mono hbI.size)
                        have hA1 : ∀ a, AD = some a → w1.heap.size ≤ a.block := by
                          first
                          | exact fun a e => Nat.le_trans (below_al hbI _).size (haD a e)
                          | exact fun a e => Nat.le_trans hbI.size (haD a e)
                        have HDD := Lib.hid (And.intro hrD (And.intro hA1 hbD))
                        clear hA1
                        try have HRb := Lib.hid (show Rd wD (some ⟨w1.heap.size, 0, none⟩) [.int .i64 z, .string (str nm), .string (str to), .string (str b)] from Rd.below (rd_step w1.drew _ _ _ _) hb0)
                        clear hb0 hrD haD)
                     | (refine step_appK (by rfl) (.tmp 62) (.tmp 64) _ (by rfl) Tryd.underlying26 infoStepR rfl (by omega) w1.heap.size (.slice none 0 0) 0 [] (by rfl) (World.ownsRow_nil _ _ _ _) A3 n3 c3 (st.flatMap stepCells) (by rfl) (by rw [scat_len, HN.out.2])
                          (by first | exact (HRR.out _ hbD).2 | exact (HRR.out _ (below_al hbD _)).2) one_steps (by have := HLEN.out; unfold maxLen; omega) (by have := HLEN.out; omega) (by first | exact hbD.size | exact (below_al hbD _).size) ?_
                        intro vN wN hoN hgN haN
                        first
                        | have hbN0 : Below wD.heap.size wD wN := (Below.refl _ _).grown hgN (Nat.le_refl _) (fun k hk => by simp [Value.ownBlock] at hk)
                        | have hbN0 : Below wD.heap.size wD wN := (below_al (Below.refl _ _) _).grown hgN (below_al (Below.refl _ _) _).size (fun k hk => by simp [Value.ownBlock] at hk)
                        have hbN : Below w1.heap.size w1 wN := hbD.trans (hbN0.mono hbD.size)
                        have HNN := Lib.hid (And.intro hoN (And.intro (HDD.out.1.below hbN0) (show ∀ i, vN.ownBlock = some i → wD.heap.size ≤ i from fun i hi => by
                          rcases haN with h | h
                          · rw [h] at hi; cases hi
                          · rw [h] at hi
                            injection hi with hi
                            rw [← hi]
                            first | exact Nat.le_refl _ | exact (below_al (Below.refl _ _) _).size)))
                        first
                        | have HRc := Lib.hid (show Rd wN (some ⟨w1.heap.size, 0, none⟩) [.int .i64 z, .string (str nm), .string (str to), .string (str b)] from HRb.out.below hbN0)
                        | have HRc := Lib.hid (show Rd wN (some ⟨wD.heap.size, 0, none⟩) [.int .i64 z, .string (str nm), .string (str to), .string (str b)] from Rd.below (rd_step wD _ _ _ _) ((Below.refl _ _).grown hgN (Nat.le_refl _) (fun k hk => by simp [Value.ownBlock] at hk)))
                        | skip
                        have HB0 := Lib.hid hbN0
                        clear hoN hgN haN hbN0)
                     | (refine step_appK (by rfl) (.tmp 65) (.tmp 67) _ (by rfl) Tryd.underlying26 infoStepR rfl (by omega) w1.heap.size vN (0 + n3) ([] ++ st.flatMap stepCells) (by rfl) (by first | exact HNN.out.1 | exact HNN.out.1.alloc _) (some ⟨_, 0, none⟩) 1 1 [.int .i64 z, .string (str nm), .string (str to), .string (str b)] (by rfl) rfl
                          (by first | exact HRc.out | exact rd_step _ _ _ _ _) (by intro u hu; simp only [List.mem_cons, List.not_mem_nil, or_false] at hu; rcases hu with rfl | rfl | rfl | rfl <;> rfl) (by have := HLEN.out; unfold maxLen; omega) (by have := HLEN.out; omega) (by first | exact hbN.size | exact (below_al hbN _).size) ?_
                        intro vE wE hoE hgE haE
                        have hbE : Below w1.heap.size w1 wE := by
                          first
                          | exact hbN.grown hgE hbN.size (fun k hk => (HNN.out.1.lt k hk).1)
                          | exact (below_al hbN _).grown hgE (below_al hbN _).size (fun k hk => (HNN.out.1.lt k hk).1)
                        have hrE : RdF wE AD (actF [] no ⟨k, nm, to, b⟩) := Rd.keep HDD.out.1 fun q e hq => by
                          first
                          | exact (hgE.block q.block (Nat.lt_of_lt_of_le hq HB0.out.size) (fun e' => by have := HNN.out.2.2 q.block e'.symm; omega)).trans (HB0.out.block _ hq)
                          | exact (hgE.block q.block (Nat.lt_of_lt_of_le hq (below_al HB0.out _).size) (fun e' => by have := HNN.out.2.2 q.block e'.symm; omega)).trans ((below_al HB0.out _).block _ hq)
                        obtain ⟨BE, cE, rfl, _, _, _, hrS, haS⟩ := owns_formk hoE
                        obtain ⟨_, _, gE⟩ := HR2.out wE hbE
                        have r0 := cell_blk gE 0 (v := .slice none 0 0) rfl
                        have r1 := cell_blk gE 1 (v := .slice none 0 0) rfl
                        have r2 := cell_blk gE 2 (v := .slice none 0 0) rfl
                        have f0 := frz_blk gE 0
                        have f1 := frz_blk gE 1
                        have f2 := frz_blk gE 2
                        have HEE := Lib.hid (And.intro gE (And.intro hrE (And.intro hrS haS)))
                        clear hoE hgE haE hrE hrS haS gE))
                 all_goals
                   have HE2 := Lib.hid hbE
                   clear r0 r1 r2 f0 f1 f2 hbE hbN hbD hbI
                   go_wp2_with fail
                   (try simp only [Exit.inBlock, Exit.then])
                   refine bodyPost_ret (results_cell2 rfl _ _ (w.heap.size + 1 + 1) _ #[.slice AD (actF [] no ⟨k, nm, to, b⟩).length cD, .slice A2 n2 c2, .slice BE (n3 + 1) cE] (0, 0) _ rfl (set3 HEE.out.1) Tryd.underlying28 rfl (by kernel_rfl)) rfl ?_
                   refine ⟨below_set3 (HW.out.1.trans ((H1.out.1.trans (HE2.out.mono H1.out.1.size)).mono HW.out.1.size)) (by omega), .inr ⟨HPRE.out, AD, cD, BE, cE, rfl, rd_set3 HEE.out.2.1 (fun q e => by have := HDD.out.2.1 q e; have := H1.out.1.size; have := HW.out.2.2.2; omega), rd_set3 (by rw [List.flatMap_append]; simpa [stepCells, HZ.out] using HEE.out.2.2.1) (fun q e => by have := (HEE.out.2.2.2 q e).1; have := H1.out.1.size; have := HW.out.2.2.2; omega), fun a e => Nat.le_trans HW.out.1.size (Nat.le_trans H1.out.1.size (HDD.out.2.1 a e)), fun a e => Nat.le_trans HW.out.1.size (Nat.le_trans H1.out.1.size (HEE.out.2.2.2 a e).1)⟩⟩)
end Go.Proofs.YtljagggankmnkaaDoor

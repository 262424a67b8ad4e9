/- Layer 13's law package: sure. -/
import Derived.Test.YtkfnbapnkmlopaaDoorGpHu
namespace Go.Proofs.YtkfnbapnkmlopaaDoor
open Go.RowKit

theorem rowS_one {w : World} {b : Nat} {s : Tx} (h : w.heap[b]? = some (.cells #[.string (str s)] 9 (0, 0))) : RowS w (.slice (some ⟨b, 0, none⟩) 1 1) [s] :=
  ⟨_, _, rfl, Nat.le_refl _, by unfold maxLen; omega, Rd.block h⟩
theorem rowS_nil (w : World) : RowS w (.slice none 0 0) [] := ⟨none, 0, rfl, Nat.le_refl _, Nat.zero_le _, Rd.nil⟩
theorem rowN_one {w : World} {b i : Nat} (h : w.heap[b]? = some (.cells #[.int .i64 (i : Nat)] 3 (0, 0))) : RowN w (.slice (some ⟨b, 0, none⟩) 1 1) [i] :=
  ⟨_, _, rfl, Nat.le_refl _, by unfold maxLen; omega, Rd.block h⟩
theorem rowN_two {w : World} {b i j : Nat} (h : w.heap[b]? = some (.cells #[.int .i64 (i : Nat), .int .i64 (j : Nat)] 3 (0, 0))) : RowN w (.slice (some ⟨b, 0, none⟩) 2 2) [i, j] :=
  ⟨_, _, rfl, Nat.le_refl _, by unfold maxLen; omega, Rd.block h⟩
theorem su_sm : SmG suG suX := by
  have h1 : ∀ a ∈ suG, a.1.length ≤ 100 ∧ (∀ s ∈ a.2.1, s.length ≤ 100) ∧ ∀ s ∈ a.2.2, s.length ≤ 100 := by decide
  have h2 : ∀ b ∈ suX, b.1.length ≤ 100 ∧ ∀ s ∈ b.2, s.length ≤ 100 := by decide
  exact ⟨fun a ha => ⟨smN_of (h1 a ha).1, fun s hs => smN_of ((h1 a ha).2.1 s hs), fun s hs => smN_of ((h1 a ha).2.2 s hs)⟩, fun b hb => ⟨smN_of (h2 b hb).1, fun s hs => smN_of ((h2 b hb).2 s hs)⟩⟩
set_option maxHeartbeats 2000000 in
set_option maxRecDepth 100000 in
theorem sure_any13 (hP : PgX) (w : World) (hT : Tz w) : Calls Tryd.prog 8 #[] w fun e w' => e = .returned (.bool true) ∧ Below w.heap.size w w' := by
  obtain ⟨g, hg⟩ : ∃ y, w.heap.size = y := ⟨_, rfl⟩
  obtain ⟨w1, hw1⟩ : ∃ y, w.alloc (.cells #[.string { data := #[120] }] 9) = y := ⟨_, rfl⟩
  have s1 : w1.heap.size = g + 1 := by rw [← hw1, World.size_alloc, hg]
  obtain ⟨w2, hw2⟩ : ∃ y, w1.alloc (.cells #[.string { data := #[97] }] 9) = y := ⟨_, rfl⟩
  have s2 : w2.heap.size = g + 2 := by rw [← hw2, World.size_alloc, s1]
  obtain ⟨w3, hw3⟩ : ∃ y, w2.alloc (.cells #[.string { data := #[97] }, .slice (some ⟨g, 0, none⟩) 1 1, .slice none 0 0, .string { data := #[98] }, .slice none 0 0, .slice (some ⟨g + 1, 0, none⟩) 1 1] 45) = y := ⟨_, rfl⟩
  have s3 : w3.heap.size = g + 3 := by rw [← hw3, World.size_alloc, s2]
  obtain ⟨w4, hw4⟩ : ∃ y, w3.alloc (.cells #[.string { data := #[98] }] 9) = y := ⟨_, rfl⟩
  have s4 : w4.heap.size = g + 4 := by rw [← hw4, World.size_alloc, s3]
  obtain ⟨w5, hw5⟩ : ∃ y, w4.alloc (.cells #[.string { data := #[120] }, .slice none 0 0, .string { data := #[121] }, .slice (some ⟨g + 3, 0, none⟩) 1 1] 47) = y := ⟨_, rfl⟩
  have b1 : Below w.heap.size w w1 := by rw [← hw1]; exact (Below.refl _ _).alloc (Nat.le_refl _) _
  have b2 : Below w1.heap.size w1 w2 := by rw [← hw2]; exact (Below.refl _ _).alloc (Nat.le_refl _) _
  have b3 : Below w2.heap.size w2 w3 := by rw [← hw3]; exact (Below.refl _ _).alloc (Nat.le_refl _) _
  have b4 : Below w3.heap.size w3 w4 := by rw [← hw4]; exact (Below.refl _ _).alloc (Nat.le_refl _) _
  have b5 : Below w4.heap.size w4 w5 := by rw [← hw5]; exact (Below.refl _ _).alloc (Nat.le_refl _) _
  have m1 := (MapKept.heap_alloc w (.cells #[.string { data := #[120] }] 9)).1
  have m2 := (MapKept.heap_alloc w1 (.cells #[.string { data := #[97] }] 9)).1
  have m3 := (MapKept.heap_alloc w2 (.cells #[.string { data := #[97] }, .slice (some ⟨g, 0, none⟩) 1 1, .slice none 0 0, .string { data := #[98] }, .slice none 0 0, .slice (some ⟨g + 1, 0, none⟩) 1 1] 45)).1
  have m4 := (MapKept.heap_alloc w3 (.cells #[.string { data := #[98] }] 9)).1
  have m5 := (MapKept.heap_alloc w4 (.cells #[.string { data := #[120] }, .slice none 0 0, .string { data := #[121] }, .slice (some ⟨g + 3, 0, none⟩) 1 1] 47)).1
  rw [hw1, hg] at m1
  rw [hw2, s1] at m2
  rw [hw3, s2] at m3
  rw [hw4, s3] at m4
  rw [hw5, s4] at m5
  have b35 := b4.trans (b5.mono b4.size)
  have b25 := b3.trans (b35.mono b3.size)
  have b15 := b2.trans (b25.mono b2.size)
  have b05 := b1.trans (b15.mono b1.size)
  have hRG : RowG w5 (.slice (some ⟨g + 2, 0, none⟩) 2 2) suG :=
    ⟨_, _, [(([97], [[120]], []), .slice (some ⟨g, 0, none⟩) 1 1, .slice none 0 0), (([98], [], [[97]]), .slice none 0 0, .slice (some ⟨g + 1, 0, none⟩) 1 1)], rfl, rfl, Nat.le_refl _, by unfold maxLen; omega, (Rd.block m3).below b35, fun p hp => by
      simp only [List.mem_cons, List.not_mem_nil, or_false] at hp
      rcases hp with rfl | rfl
      · exact ⟨(rowS_one (s := [120]) m1).below b15, rowS_nil _⟩
      · exact ⟨rowS_nil _, (rowS_one (s := [97]) m2).below b25⟩⟩
  have hRX : RowX w5 (.slice (some ⟨g + 4, 0, none⟩) 2 2) suX :=
    ⟨_, _, [(([120], []), .slice none 0 0), (([121], [[98]]), .slice (some ⟨g + 3, 0, none⟩) 1 1)], rfl, rfl, Nat.le_refl _, by unfold maxLen; omega, Rd.block m5, fun p hp => by
      simp only [List.mem_cons, List.not_mem_nil, or_false] at hp
      rcases hp with rfl | rfl
      · exact rowS_nil _
      · exact (rowS_one (s := [98]) m4).below b5⟩
  have hEx := hP.ex _ _ suG suX w5 (hT.below b05) su_sm hRG hRX
  rw [su_ckg] at hEx
  dsimp only at hEx
  rw [if_pos rfl, su_exg, errE_zero] at hEx
  have HE := Lib.hid hEx
  have HB := Lib.hid b05
  clear hEx hRG hRX b1 b2 b3 b4 b5 m1 m2 m3 m4 m5 b35 b25 b15 b05 hP hT
  go_enter Tryd.func8, Tryd.ntmps8
  go_wp2_with fail
  with_reducible refine HE.out.mono ?_
  rintro e V ⟨lv, rfl, hrl, hbV⟩
  clear hw1 hw2 hw3 hw4 hw5 s1 s2 s3 s4 hg
  obtain ⟨h, hh⟩ : ∃ y, V.heap.size = y := ⟨_, rfl⟩
  obtain ⟨v1, hv1⟩ : ∃ y, V.alloc (.cells #[.int .i64 0] 3) = y := ⟨_, rfl⟩
  have s1 : v1.heap.size = h + 1 := by rw [← hv1, World.size_alloc, hh]
  obtain ⟨v2, hv2⟩ : ∃ y, v1.alloc (.cells #[.int .i64 0, .int .i64 1] 3) = y := ⟨_, rfl⟩
  have s2 : v2.heap.size = h + 2 := by rw [← hv2, World.size_alloc, s1]
  obtain ⟨v3, hv3⟩ : ∃ y, v2.alloc (.cells #[.slice (some ⟨h, 0, none⟩) 1 1, .slice (some ⟨h + 1, 0, none⟩) 2 2] 48) = y := ⟨_, rfl⟩
  have b1 : Below V.heap.size V v1 := by rw [← hv1]; exact (Below.refl _ _).alloc (Nat.le_refl _) _
  have b2 : Below v1.heap.size v1 v2 := by rw [← hv2]; exact (Below.refl _ _).alloc (Nat.le_refl _) _
  have b3 : Below v2.heap.size v2 v3 := by rw [← hv3]; exact (Below.refl _ _).alloc (Nat.le_refl _) _
  have m1 := (MapKept.heap_alloc V (.cells #[.int .i64 0] 3)).1
  have m2 := (MapKept.heap_alloc v1 (.cells #[.int .i64 0, .int .i64 1] 3)).1
  have m3 := (MapKept.heap_alloc v2 (.cells #[.slice (some ⟨h, 0, none⟩) 1 1, .slice (some ⟨h + 1, 0, none⟩) 2 2] 48)).1
  rw [hv1, hh] at m1
  rw [hv2, s1] at m2
  rw [hv3, s2] at m3
  have b13 := b2.trans (b3.mono b2.size)
  have b03 := b1.trans (b13.mono b1.size)
  have hRL : RowLL v3 (.slice (some ⟨h + 2, 0, none⟩) 2 2) [[0], [0, 1]] :=
    ⟨_, _, [.slice (some ⟨h, 0, none⟩) 1 1, .slice (some ⟨h + 1, 0, none⟩) 2 2], rfl, Nat.le_refl _, by unfold maxLen; omega, Rd.block m3, rfl, fun i u hu => by
      match i with
      | 0 =>
        have e : Value.slice (some ⟨h, 0, none⟩) 1 1 = u := Option.some.inj hu
        rw [← e]
        exact (rowN_one (i := 0) m1).below b13
      | 1 =>
        have e : Value.slice (some ⟨h + 1, 0, none⟩) 2 2 = u := Option.some.inj hu
        rw [← e]
        exact (rowN_two (i := 0) (j := 1) m2).below b3
      | i + 2 => simp at hu⟩
  have hLi := lists_any lv _ _ _ v3 (hrl.below b03) hRL
  rw [decide_eq_true rfl] at hLi
  have HL := Lib.hid hLi
  have HB2 := Lib.hid (HB.out.trans ((hbV.trans (b03.mono hbV.size)).mono HB.out.size))
  clear hLi hRL hrl hbV b1 b2 b3 m1 m2 m3 b13 b03
  go_wp2_with fail
  with_reducible refine HL.out.mono ?_
  rintro e V9 ⟨rfl, hb9⟩
  have HB3 := Lib.hid (HB2.out.trans (hb9.mono HB2.out.size))
  clear hb9
  go_wp2_with fail
  go_ret
  exact ⟨rfl, HB3.out⟩
end Go.Proofs.YtkfnbapnkmlopaaDoor

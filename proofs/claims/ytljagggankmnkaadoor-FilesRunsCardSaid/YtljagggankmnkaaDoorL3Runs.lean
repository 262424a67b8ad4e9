/- Layer 3's law FilesRuns: its walk. -/
import Derived.Test.YtljagggankmnkaaDoorL3PairA
import Derived.StillTailTactics
import Derived.Deep.RegionHeld3
namespace Go.Proofs.YtljagggankmnkaaDoor
open Go.RowKit Go.Maps

set_option maxHeartbeats 4000000 in
set_option maxRecDepth 100000 in
theorem runs_walk (A : Option Addr) (c : Nat) (L : List Act3) (n : Nat) (W : World) (hg : ErrT W) (hn : L.length = n) (hr : RdA W A L) (hk : ∀ a ∈ L, ActOk a) :
    Calls Tryd.prog 3 #[.slice A n c] W fun e w' => e = .returned (.bool true) ∧ Below W.heap.size W w' := by
  have HA := Lib.hid (And.intro hn (And.intro hr (And.intro hk hg)))
  clear hn hr hk hg
  go_enter Tryd.func3, Tryd.ntmps3
  go_wp2_with fail
  refine (new_is W).mono ?_
  rintro e w1 ⟨p, F, rfl, hb, hd⟩
  have HP0 := Lib.hid (pair_new hb hd)
  clear hb hd
  go_wp2_with fail
  go_loopw [5] (fun v wr => ∃ i : Nat, v = .int .i64 i ∧ i ≤ 60 ∧ PairE W p w1.heap.size wr) (fun v _ => 60 - (intOf v).toNat)
  case atStart => exact ⟨0, rfl, Nat.zero_le _, _, _, _, _, _, _, _, _, _, _, _, _, _, HP0.out⟩
  case round =>
    obtain ⟨i, rfl, hi, F1, su, no, st, A1, n1, c1, A2, n2, c2, A3, n3, c3, hp⟩ := hrel
    obtain ⟨g, hgw⟩ : ∃ g, w1.heap.size = g := ⟨_, rfl⟩
    have HGW := Lib.hid hgw
    rw [hgw] at hp
    rw [hgw]
    have HP := Lib.hid hp
    by_cases hgo : i < n ∧ i < 60
    · have j0 : (0 : Int) ≤ i := by omega
      have j1 : (i : Int) < n := by omega
      have j2 : (i : Int) < 60 := by omega
      have hil : i < L.length := by rw [HA.out.1]; exact hgo.1
      obtain ⟨ad, X, rfl, hX, hXl, hcs⟩ := HA.out.2.1.six' i hil
      have hok := HA.out.2.2.1 _ (List.getElem_mem hil)
      generalize L[i] = act at hcs hok
      obtain ⟨kind, nm, to, b, steps, part⟩ := act
      dsimp only at hcs
      have HCS := Lib.hid hcs
      have HOK := Lib.hid hok
      have HTRY := Lib.hid (show ∀ w', Below wr.heap.size wr w' → Calls Tryd.prog 9 #[.pointer (some ⟨p, 0, none⟩), .agg #[.slice A1 n1 c1, .slice A2 n2 c2, .slice A3 n3 c3], .agg #[.int .i64 kind, .string (str nm), .string (str to), .string (str b), .int .i64 steps, .int .i64 part]] w' (Tried3 W.heap.size p F1 w') from fun w' h =>
        try_is ⟨kind, nm, to, b, steps, part⟩ w' (hp.more h).disk (hp.more h).below.size (hp.more h).ref ((hp.more h).err HA.out.2.2.2) hok)
      have HSS := Lib.hid (show ∀ w', Kept F1 wr w' → w'.cell? ⟨g, 0, none⟩ = some (.slice A1 n1 c1) ∧ w'.cell? ⟨g, 1, none⟩ = some (.slice A2 n2 c2) ∧ w'.cell? ⟨g, 2, none⟩ = some (.slice A3 n3 c3) ∧ w'.cell? X = some (.int .i64 kind) ∧ w'.cell? { block := X.block, off := X.off + 1 } = some (.string (str nm)) ∧ w'.cell? { block := X.block, off := X.off + 2 } = some (.string (str to)) ∧ w'.cell? { block := X.block, off := X.off + 3 } = some (.string (str b)) ∧ w'.cell? { block := X.block, off := X.off + 4 } = some (.int .i64 steps) ∧ w'.cell? { block := X.block, off := X.off + 5 } = some (.int .i64 part) from fun w' h => by
        have hgc := (h.2 g hp.lt hp.out).trans hp.cell
        obtain ⟨u0, u1, u2, u3, u4, u5⟩ := hcs wr hp.below
        have hX2 : w'.heap[X.block]? = wr.heap[X.block]? := h.2 _ (Nat.lt_of_lt_of_le hXl hp.below.size) (fun hf => by have := (hp.disk.lt _ hf).1; omega)
        exact ⟨cell_blk hgc 0 rfl, cell_blk hgc 1 rfl, cell_blk hgc 2 rfl, (World.cell?_of_block (a := X) hX2).trans u0, (World.cell?_of_block (a := ⟨X.block, X.off + 1, none⟩) hX2).trans u1, (World.cell?_of_block (a := ⟨X.block, X.off + 2, none⟩) hX2).trans u2, (World.cell?_of_block (a := ⟨X.block, X.off + 3, none⟩) hX2).trans u3, (World.cell?_of_block (a := ⟨X.block, X.off + 4, none⟩) hX2).trans u4, (World.cell?_of_block (a := ⟨X.block, X.off + 5, none⟩) hX2).trans u5⟩)
      obtain ⟨k0, k1, k2, k3, k4, k5⟩ := hcs wr hp.below
      have a0 := cell_blk hp.cell 0 (v := .slice A1 n1 c1) rfl
      have a1 := cell_blk hp.cell 1 (v := .slice A2 n2 c2) rfl
      have a2 := cell_blk hp.cell 2 (v := .slice A3 n3 c3) rfl
      clear hp hok hcs
      rcases (show ¬ 3000 < b.length ∨ (3000 < b.length ∧ b.length ≤ 65536) ∨ (3000 < b.length ∧ ¬ b.length ≤ 65536) by omega) with h | h | h
      case' inl =>
        have q0 : ¬ ((3000 : Int) < ((str b).size : Nat)) := by show ¬ ((3000 : Int) < (b.length : Nat)); omega
      case' inr.inl =>
        have q0 : (3000 : Int) < ((str b).size : Nat) := by show (3000 : Int) < (b.length : Nat); omega
        have q1 : ((str b).size : Nat) ≤ (65536 : Int) := by show ((b.length : Nat) : Int) ≤ 65536; omega
      case' inr.inr =>
        have q0 : (3000 : Int) < ((str b).size : Nat) := by show (3000 : Int) < (b.length : Nat); omega
        have q1 : ¬ ((str b).size : Nat) ≤ (65536 : Int) := by show ¬ (((b.length : Nat) : Int) ≤ 65536); omega
      all_goals
        clear h
        go_wp2_with fail
        first
        | (refine (sure_is _).mono ?_
           rintro e w5 ⟨rfl, hb5⟩
           have HQ := Lib.hid hb5
           clear hb5
           go_wp2_with fail
           go_ret
           exact ⟨rfl, HP.out.below.trans (HQ.out.mono HP.out.below.size)⟩)
        | skip
      all_goals
        clear k0 k1 k2 k3 k4 k5 a0 a1 a2
        have hb0 : Below wr.heap.size wr wr.drew := ⟨rfl, rfl, rfl, Nat.le_refl _, fun _ _ => rfl⟩
        have hbA : Below wr.heap.size wr (wr.alloc (ref3 none 0 0 none 0 0 none 0 0)).drew := ((Below.refl _ wr).alloc (Nat.le_refl _) (ref3 none 0 0 none 0 0 none 0 0)).drew
        have hkA : Kept F1 wr (wr.alloc (ref3 none 0 0 none 0 0 none 0 0)).drew := ⟨hbA.size, fun i hi _ => hbA.block i hi⟩
        have hk0 : Kept F1 wr wr.drew := ⟨Nat.le_refl _, fun _ _ _ => rfl⟩
        go_region_held3 (fun w' => w'.cell? ⟨g, 0, none⟩ = some (.slice A1 n1 c1) ∧ w'.cell? ⟨g, 1, none⟩ = some (.slice A2 n2 c2) ∧ w'.cell? ⟨g, 2, none⟩ = some (.slice A3 n3 c3) ∧ w'.cell? X = some (.int .i64 kind) ∧ w'.cell? { block := X.block, off := X.off + 1 } = some (.string (str nm)) ∧ w'.cell? { block := X.block, off := X.off + 2 } = some (.string (str to)) ∧ w'.cell? { block := X.block, off := X.off + 3 } = some (.string (str b)) ∧ w'.cell? { block := X.block, off := X.off + 4 } = some (.int .i64 steps) ∧ w'.cell? { block := X.block, off := X.off + 5 } = some (.int .i64 part))
          (first
            | exact HSS.out _ (by assumption)
            | exact HSS.out _ (Kept.alloc (by assumption) _)
            | exact HSS.out _ (Kept.set3 (by assumption) (Nat.le_refl _) _ _ _)
            | exact HSS.out _ (Kept.set3 (by assumption) (by have := hk2.1; omega) _ _ _)
            | exact HSS.out _ (Kept.set3 (Kept.alloc (by assumption) _) (by have := hk2.1; omega) _ _ _))
          (first
            | (go_at_call 9
               first
               | (with_reducible refine (HTRY.out _ hb0).mono ?_
                  rintro e w2 ⟨D', F2, su2, no2, st2, rfl, ht2, hd2, hr2⟩
                  obtain ⟨B1, m1, b1, B2, m2, b2, B3, m3, b3, rfl⟩ := ref_form hr2
                  have hk2 := Kept.of hb0 ht2
                  have HM := Lib.hid (mid_a HP.out hb0 ht2 hd2 hr2)
                  clear ht2 hd2 hr2)
               | (with_reducible refine (HTRY.out _ hbA).mono ?_
                  rintro e w2 ⟨D', F2, su2, no2, st2, rfl, ht2, hd2, hr2⟩
                  obtain ⟨B1, m1, b1, B2, m2, b2, B3, m3, b3, rfl⟩ := ref_form hr2
                  have hk2 := Kept.of hbA ht2
                  have hm := mid_b (w3 := wr.drew) (x := ref3 none 0 0 none 0 0 none 0 0) rfl HP.out hb0 rfl ht2 hd2 hr2
                  have HM := Lib.hid hm.1
                  have y0 := cell_blk hm.2 0 (v := .slice none 0 0) rfl
                  have y1 := cell_blk hm.2 1 (v := .slice none 0 0) rfl
                  have y2 := cell_blk hm.2 2 (v := .slice none 0 0) rfl
                  have x0 := frz_blk hm.2 0
                  have x1 := frz_blk hm.2 1
                  have x2 := frz_blk hm.2 2
                  clear ht2 hd2 hr2 hm)))
        all_goals
          try clear y0 y1 y2 x0 x1 x2
          first
          | (obtain ⟨y, wE, hy, hwE, hmE⟩ : ∃ y wE, w2.heap.size = y ∧ w2.alloc (ref3 B1 m1 b1 B2 m2 b2 B3 m3 b3) = wE ∧ Mid W p g y F2 su2 no2 st2 A1 n1 c1 A2 n2 c2 A3 n3 c3 B1 m1 b1 B2 m2 b2 B3 m3 b3 wE := ⟨_, _, rfl, rfl, HM.out⟩
             rw [hwE, hy])
          | (obtain ⟨y, wE, hy, hwE, hmE⟩ : ∃ y wE, wr.heap.size = y ∧ (((w2.setCell ⟨wr.heap.size, 0, none⟩ (.slice B1 m1 b1)).setCell ⟨wr.heap.size, 1, none⟩ (.slice B2 m2 b2)).setCell ⟨wr.heap.size, 2, none⟩ (.slice B3 m3 b3)) = wE ∧ Mid W p g y F2 su2 no2 st2 A1 n1 c1 A2 n2 c2 A3 n3 c3 B1 m1 b1 B2 m2 b2 B3 m3 b3 wE := ⟨_, _, rfl, rfl, HM.out⟩
             rw [hwE, hy])
          have HWE := Lib.hid (And.intro hy hwE)
          clear hy hwE hk0 hkA hk2 hb0 hbA HTRY
          have r0 := cell_blk hmE.cell 0 (v := .slice A1 n1 c1) rfl
          have r1 := cell_blk hmE.cell 1 (v := .slice A2 n2 c2) rfl
          have r2 := cell_blk hmE.cell 2 (v := .slice A3 n3 c3) rfl
          have f0 := frz_blk hmE.cell 0
          have f1 := frz_blk hmE.cell 1
          have f2 := frz_blk hmE.cell 2
          have y0 := cell_blk hmE.new 0 (v := .slice B1 m1 b1) rfl
          have y1 := cell_blk hmE.new 1 (v := .slice B2 m2 b2) rfl
          have y2 := cell_blk hmE.new 2 (v := .slice B3 m3 b3) rfl
          have hp5 := hmE.pair
          obtain ⟨w5, hw5⟩ : ∃ w5, (((wE.setCell ⟨g, 0, none⟩ (.slice B1 m1 b1)).setCell ⟨g, 1, none⟩ (.slice B2 m2 b2)).setCell ⟨g, 2, none⟩ (.slice B3 m3 b3)) = w5 := ⟨_, rfl⟩
          rw [hw5] at hp5
          have HW5 := Lib.hid hw5
          have HP5 := Lib.hid hp5
          clear hw5 hp5 hmE
          go_wp2_with fail
          rw [HW5.out]
          clear r0 r1 r2 f0 f1 f2 y0 y1 y2
          obtain ⟨l1, l3, lr⟩ := HP5.out.parts
          have HSAME := Lib.hid (show ∀ w', Below w5.heap.size w5 w' → Calls Tryd.prog 10 #[.pointer (some ⟨p, 0, none⟩), .slice B1 m1 b1] w' (fun e w'' => e = .returned (.bool true) ∧ Below w'.heap.size w' w'') from fun w' h => same_is B1 m1 b1 w' (HP5.out.more h).disk l1 (HP5.out.more h).parts.2.2)
          have HPEND := Lib.hid (show ∀ w', Below w5.heap.size w5 w' → Calls Tryd.prog 11 #[.pointer (some ⟨p, 0, none⟩)] w' (fun e w'' => e = .returned (.int .i64 m3) ∧ w' = w'') from fun w' h => l3 ▸ pending_is w' (HP5.out.more h).disk)
          have HSS := Lib.hid (show ∀ w', Below w5.heap.size w5 w' → w'.cell? ⟨g, 0, none⟩ = some (.slice B1 m1 b1) ∧ w'.cell? ⟨g, 2, none⟩ = some (.slice B3 m3 b3) from fun w' h => ⟨cell_blk (HP5.out.more h).cell 0 rfl, cell_blk (HP5.out.more h).cell 2 rfl⟩)
          have hb0 : Below w5.heap.size w5 w5.drew := ⟨rfl, rfl, rfl, Nat.le_refl _, fun _ _ => rfl⟩
          have HL := Lib.hid (And.intro l1 lr)
          clear l1 l3 lr
          go_region_held3 (fun w' => w'.cell? ⟨g, 0, none⟩ = some (.slice B1 m1 b1) ∧ w'.cell? ⟨g, 2, none⟩ = some (.slice B3 m3 b3))
            (first | exact HSS.out _ (by assumption))
            (first
              | (go_at_call 10
                 refine (HSAME.out _ hb0).mono ?_
                 rintro e w6 ⟨rfl, hb6⟩
                 have hb1 := hb0.trans (hb6.mono hb0.size)
                 clear hb6)
              | (go_at_call 11
                 refine (HPEND.out _ hb1).mono ?_
                 rintro e w7 ⟨rfl, rfl⟩))
          obtain ⟨er, her⟩ : ∃ er, readErr no2 to = er := ⟨_, rfl⟩
          have HREAD := Lib.hid (show Calls Tryd.prog 12 #[.pointer (some ⟨p, 0, none⟩), .string (str to)] w6 (fun e w' => (∃ v, e = .returned (.tuple #[v, errV er])) ∧ Below w6.heap.size w6 w') from (read_is to w6 (HP5.out.more hb1).disk).mono (by
            rintro e w' ⟨v, rfl, hb, _⟩
            exact ⟨⟨v, by rw [her]⟩, hb⟩))
          have HCX := Lib.hid (show ∀ w', Below w5.heap.size w5 w' → w'.cell? { block := X.block, off := X.off + 2 } = some (.string (str to)) from fun w' h => (HCS.out w' (HP5.out.more h).below).2.2.1)
          have HNUM := Lib.hid (show ∀ w', Below w5.heap.size w5 w' → Calls Tryd.prog 15 #[errV er] w' (fun e w'' => e = .returned (.int .i64 er) ∧ Below w'.heap.size w' w'') from fun w' h => num_errV er w' ((HP5.out.more h).err HA.out.2.2.2 _ _ (Turn.refl _ _)))
          have HFIND := Lib.hid (show ∀ w', Below w5.heap.size w5 w' → Calls Tryd.prog 14 #[.slice B1 m1 b1, .string (str to)] w' _ from fun w' h => find_is to B1 m1 b1 no2 w' HL.out.1 (by have h1 := HP5.out.disk.hist.le.2; have h2 := HL.out.1; omega) (HP5.out.more h).parts.2.2)
          have HNMD := Lib.hid (named3_is to HOK.out.2.2.1)
          have hw6 : Below w5.heap.size w5 w6 := hb1
          rcases (show (named to = false ∧ er = 11) ∨ (named to = true ∧ hasF to no2 = false ∧ er = 8) ∨ (named to = true ∧ hasF to no2 = true ∧ er = 0) from by
            rw [← her]
            unfold readErr
            cases named to <;> cases hasF to no2 <;> simp) with ⟨h1, rfl⟩ | ⟨h1, h2, rfl⟩ | ⟨h1, h2, rfl⟩
          case' inl => have h2 := h1
          all_goals
            have HNM := Lib.hid (show ∀ w', Calls Tryd.prog 13 #[.string (str to)] w' (fun e w'' => e = .returned (.bool _) ∧ Below w'.heap.size w' w'') from h1 ▸ HNMD.out)
            have H2 := Lib.hid h2
            clear h1 her HNMD hb0
            have k2 := HCX.out _ hb1
            go_wp2_with fail
            refine HREAD.out.mono ?_
            rintro e w7 ⟨⟨v7, rfl⟩, hb7⟩
            have hb8 := hw6.trans (hb7.mono hw6.size)
            clear k2 hb7 HREAD
            have k2 := HCX.out _ hb8
            go_wp2_with fail
            refine (HNM.out w7).mono ?_
            rintro e w8 ⟨rfl, hb9⟩
            have hb10 := hb8.trans (hb9.mono hb8.size)
            clear k2 hb9 hb8
            have hb11 : Below w5.heap.size w5 w8.drew := hb10.drew
            go_wp2_with fail
            first
            | (refine (HNUM.out _ hb10).mono ?_
               rintro e w9 ⟨rfl, hb12⟩
               have HZ := Lib.hid (hb10.trans (hb12.mono hb10.size))
               clear hb12
               go_wp2_with fail
               exact ⟨⟨i + 1, by go_num, by omega, _, _, _, _, _, _, _, _, _, _, _, _, _, HP5.out.more HZ.out⟩, by simp [intOf]; omega⟩)
            | (have k2 := HCX.out _ hb11
               have g0 := (HSS.out _ hb11).1
               go_still_tail 7, (by kernel_rfl)
               change wpList _ _ _ _ _ w8.drew
               go_wp2_with fail
               refine (HFIND.out _ hb11).mono ?_
               clear k2 g0
               rintro e w9 ⟨rfl, ⟨rfl, hf⟩ | ⟨i9, hi9, rfl, _, _, hf⟩⟩
               all_goals
                 have HZ0 := H2.out
                 rw [hf] at HZ0
                 first
                 | (exfalso; cases HZ0; done)
                 | (clear HZ0
                    try (have q9 : ¬ ((i9 : Int) < 0) := by omega)
                    go_wp2_with fail
                    refine (HNUM.out _ hb11).mono ?_
                    rintro e w10 ⟨rfl, hb12⟩
                    have HZ := Lib.hid (hb11.trans (hb12.mono hb11.size))
                    clear hb12
                    go_wp2_with fail
                    exact ⟨⟨i + 1, by go_num, by omega, _, _, _, _, _, _, _, _, _, _, _, _, _, HP5.out.more HZ.out⟩, by simp [intOf]; omega⟩))
    · rcases (show ¬ i < n ∨ (i < n ∧ ¬ i < 60) by omega) with h | ⟨h, h'⟩
      case' inl =>
        have j1 : ¬ ((i : Int) < n) := by omega
      case' inr =>
        have j1 : (i : Int) < n := by omega
        have j2 : ¬ ((i : Int) < 60) := by omega
      all_goals
        clear hp hgo
        go_wp2_with fail
        refine (sure_is _).mono ?_
        rintro e w5 ⟨rfl, hb5⟩
        have HQ := Lib.hid hb5
        clear hb5
        go_wp2_with fail
        go_ret
        exact ⟨rfl, HP.out.below.trans (HQ.out.mono HP.out.below.size)⟩
theorem runs_any (A : Option Addr) (c : Nat) (L : List Act3) (W : World) (hg : ErrT W) (hr : RdA W A L) (hk : ∀ a ∈ L, ActOk a) :
    Calls Tryd.prog 3 #[.slice A L.length c] W fun e w' => e = .returned (.bool true) ∧ Below W.heap.size W w' := runs_walk A c L L.length W hg rfl hr hk
end Go.Proofs.YtljagggankmnkaaDoor

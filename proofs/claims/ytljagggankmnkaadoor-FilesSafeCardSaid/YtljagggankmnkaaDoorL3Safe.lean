/- Layer 3's law FilesSafe: its walk. -/
import Derived.Test.YtljagggankmnkaaDoorL3SafeA
import Derived.StillTailTactics
import Derived.Deep.RegionHeld3
namespace Go.Proofs.YtljagggankmnkaaDoor
open Go.RowKit Go.Maps

abbrev sureN : Bs := [115, 117, 114, 101]
/-- The disk alone, and the file that was made sure. -/
def SafeE (W : World) (p : Nat) (sb : Bs) (w : World) : Prop := ∃ F su no st, Below W.heap.size W w ∧ Disk w W.heap.size p F su no st ∧ Safe sureN sb su no st
set_option maxHeartbeats 4000000 in
set_option maxRecDepth 100000 in
theorem safe_walk (A1 : Option Addr) (c1 : Nat) (L1 : List Act3) (n1 : Nat) (A2 : Option Addr) (c2 : Nat) (L2 : List Act3) (n2 : Nat) (sb : Bs) (W : World) (hg : ErrT W) (hn1 : L1.length = n1) (hr1 : RdA W A1 L1) (hk1 : ∀ a ∈ L1, ActOk a) (hn2 : L2.length = n2) (hr2 : RdA W A2 L2) (hk2 : ∀ a ∈ L2, ActOk a) (hsb : sb.length ≤ maxLen) :
    Calls Tryd.prog 6 #[.slice A1 n1 c1, .slice A2 n2 c2, .string (str sb)] W fun e w' => e = .returned (.bool true) ∧ Below W.heap.size W w' := by
  have H1 := Lib.hid (And.intro hn1 (And.intro hr1 (And.intro hk1 hg)))
  have H2 := Lib.hid (And.intro hn2 (And.intro hr2 hk2))
  clear hn1 hr1 hk1 hg hn2 hr2 hk2
  by_cases hlong : 3000 < sb.length
  · have q0 : (3000 : Int) < ((str sb).size : Nat) := by show (3000 : Int) < (sb.length : Nat); omega
    clear hsb hlong
    go_enter Tryd.func6, Tryd.ntmps6
    go_wp2_with fail
    refine (sure_is _).mono ?_
    rintro e w5 ⟨rfl, hb5⟩
    have HQ := Lib.hid hb5
    clear hb5
    go_wp2_with fail
    go_ret
    exact ⟨rfl, HQ.out⟩
  · have q0 : ¬ ((3000 : Int) < ((str sb).size : Nat)) := by show ¬ ((3000 : Int) < (sb.length : Nat)); omega
    have HSB := Lib.hid hlong
    clear hsb hlong
    go_enter Tryd.func6, Tryd.ntmps6
    go_wp2_with fail
    refine (new_is W).mono ?_
    rintro e w1 ⟨p, F, rfl, hb, hd⟩
    have HP0 := Lib.hid (pair_new hb hd)
    clear hb hd
    go_wp2_with fail
    go_loopw [9] (fun v wr => ∃ i : Nat, v = .int .i64 i ∧ i ≤ 40 ∧ PairE W p w1.heap.size wr) (fun v _ => 40 - (intOf v).toNat)
    case atStart => exact ⟨0, rfl, Nat.zero_le _, _, _, _, _, _, _, _, _, _, _, _, _, _, HP0.out⟩
    case round =>
      obtain ⟨i, rfl, hi, F1, su, no, st, B1, m1, d1, B2, m2, d2, B3, m3, d3, hp⟩ := hrel
      obtain ⟨g, hgw⟩ : ∃ g, w1.heap.size = g := ⟨_, rfl⟩
      have HGW := Lib.hid hgw
      rw [hgw] at hp
      rw [hgw]
      have HP := Lib.hid hp
      by_cases hgo : i < n1 ∧ i < 40
      · have j0 : (0 : Int) ≤ i := by omega
        have j1 : (i : Int) < n1 := by omega
        have j2 : (i : Int) < 40 := by omega
        have hil : i < L1.length := by rw [H1.out.1]; exact hgo.1
        obtain ⟨ad, X, rfl, hX, hXl, hcs⟩ := H1.out.2.1.six' i hil
        have hok := H1.out.2.2.1 _ (List.getElem_mem hil)
        generalize L1[i] = act at hcs hok
        obtain ⟨kind, nm, to, b, steps, part⟩ := act
        dsimp only at hcs
        have hpd := hp.more (show Below wr.heap.size wr wr.drew from ⟨rfl, rfl, rfl, Nat.le_refl _, fun _ _ => rfl⟩)
        have HTRY := Lib.hid (show Calls Tryd.prog 9 #[.pointer (some ⟨p, 0, none⟩), .agg #[.slice B1 m1 d1, .slice B2 m2 d2, .slice B3 m3 d3], .agg #[.int .i64 kind, .string (str nm), .string (str to), .string (str b), .int .i64 steps, .int .i64 part]] wr.drew (Tried3 W.heap.size p F1 wr.drew) from
          try_is ⟨kind, nm, to, b, steps, part⟩ wr.drew hpd.disk hpd.below.size hpd.ref (hpd.err H1.out.2.2.2) hok)
        obtain ⟨k0, k1, k2, k3, k4, k5⟩ := hcs wr hp.below
        have a0 := cell_blk hp.cell 0 (v := .slice B1 m1 d1) rfl
        have a1 := cell_blk hp.cell 1 (v := .slice B2 m2 d2) rfl
        have a2 := cell_blk hp.cell 2 (v := .slice B3 m3 d3) rfl
        have HPD := Lib.hid hpd
        clear hp hok hcs hpd
        by_cases h : 3000 < b.length
        case' pos =>
          have q1 : (3000 : Int) < ((str b).size : Nat) := by show (3000 : Int) < (b.length : Nat); omega
        case' neg =>
          have q1 : ¬ ((3000 : Int) < ((str b).size : Nat)) := by show ¬ ((3000 : Int) < (b.length : Nat)); omega
        all_goals
          clear h
          go_wp2_with fail
          first
          | (refine (sure_is _).mono ?_
             rintro e w5 ⟨rfl, hb5⟩
             have HQ := Lib.hid hb5
             clear hb5
             go_wp2_with fail
             go_ret
             exact ⟨rfl, HP.out.below.trans (HQ.out.mono HP.out.below.size)⟩)
          | (have d0 : wr.drew.cell? X = _ := k0
             have d1 : wr.drew.cell? { block := X.block, off := X.off + 1 } = _ := k1
             have d2 : wr.drew.cell? { block := X.block, off := X.off + 2 } = _ := k2
             have d3 : wr.drew.cell? { block := X.block, off := X.off + 3 } = _ := k3
             have d4 : wr.drew.cell? { block := X.block, off := X.off + 4 } = _ := k4
             have d5 : wr.drew.cell? { block := X.block, off := X.off + 5 } = _ := k5
             have e0 : wr.drew.cell? ⟨g, 0, none⟩ = _ := a0
             have e1 : wr.drew.cell? ⟨g, 1, none⟩ = _ := a1
             have e2 : wr.drew.cell? ⟨g, 2, none⟩ = _ := a2
             go_region_with (first
               | (go_at_call 9
                  refine HTRY.out.mono ?_
                  rintro e w2 ⟨D', F2, su2, no2, st2, rfl, ht2, hd2, hr2⟩
                  clear d0 d1 d2 d3 d4 d5 e0 e1 e2 k0 k1 k2 k3 k4 k5 a0 a1 a2 HTRY
                  obtain ⟨C1, l1, o1, C2, l2, o2, C3, l3, o3, rfl⟩ := ref_form hr2
                  have hc := HPD.out.cells ht2 (Below.refl _ _)
                  have r0 := cell_blk hc 0 (v := .slice B1 m1 _) rfl
                  have r1 := cell_blk hc 1 (v := .slice B2 m2 _) rfl
                  have r2 := cell_blk hc 2 (v := .slice B3 m3 _) rfl
                  have f0 := frz_blk hc 0
                  have f1 := frz_blk hc 1
                  have f2 := frz_blk hc 2
                  have HN := Lib.hid (HPD.out.next ht2 hd2 hr2 (Below.refl _ _))
                  clear ht2 hd2 hr2 hc))
             all_goals
               go_wp2_with fail
               exact ⟨⟨i + 1, by go_num, by omega, _, _, _, _, _, _, _, _, _, _, _, _, _, HN.out⟩, by simp [intOf]; omega⟩)
      · obtain ⟨cc, wb, hconv, hbb, hrb⟩ := bytes_of sb wr
        obtain ⟨ln, hln⟩ : ∃ ln, sb.length = ln := ⟨_, rfl⟩
        rw [hln] at hconv
        obtain ⟨er, her⟩ : ∃ er, errOf no st ⟨0, sureN, [], sb⟩ = er := ⟨_, rfl⟩
        have HWR := Lib.hid (show Calls Tryd.prog 17 #[.pointer (some ⟨p, 0, none⟩), .string (str sureN), .slice (some ⟨wr.heap.size, 0, none⟩) ln cc] wb (fun e w' => e = .returned (errV er) ∧ Below W.heap.size W w' ∧ (er = 0 → ∃ F' st', Disk w' W.heap.size p F' su (put sureN sb no) st')) from
          (write_is sureN sb _ ln cc wb (hp.disk.below hbb) (Nat.le_trans hp.below.size hbb.size) hln (by have := HSB.out; omega) hrb).mono (by
            rintro e w' ⟨rfl, F', ht', hd'⟩
            refine ⟨by rw [her], (hp.below.trans (hbb.mono hp.below.size)).trans (ht'.below (Nat.le_trans hp.below.size hbb.size) (fun i hi => (hp.disk.lt i hi).1)), fun h0 => ?_⟩
            have hno : noOf no st ⟨0, sureN, [], sb⟩ = put sureN sb no := by
              unfold noOf
              rw [if_pos (by rw [her, h0])]
              rfl
            rw [hno] at hd'
            exact ⟨F', _, hd'⟩))
        rcases (show ¬ i < n1 ∨ (i < n1 ∧ ¬ i < 40) by omega) with h | ⟨h, h'⟩
        case' inl =>
          have j1 : ¬ ((i : Int) < n1) := by omega
        case' inr =>
          have j1 : (i : Int) < n1 := by omega
          have j2 : ¬ ((i : Int) < 40) := by omega
        all_goals
          clear hp hgo h hrb hbb her
          go_wp2_with fail
          refine HWR.out.mono ?_
          rintro e w3 ⟨rfl, hb3, hd3⟩
          have H3 := Lib.hid (And.intro hb3 hd3)
          clear hb3 hd3 hconv HWR
          rcases Nat.eq_zero_or_pos er with rfl | hpos
          · rw [errV0]
            obtain ⟨F3, st3, hd3⟩ := H3.out.2 rfl
            have HD3 := Lib.hid hd3
            clear hd3
            go_wp2_with fail
            refine (sync_ok w3 HD3.out H3.out.1.size).mono ?_
            rintro e w4 ⟨rfl, F4, ht4, hd4⟩
            have HS4 := Lib.hid (show SafeE W p sb w4 from ⟨F4, _, _, _, H3.out.1.trans (ht4.below H3.out.1.size (fun i hi => (HD3.out.lt i hi).1)), hd4, got_put_self no, got_put_self no, fun s hs => by cases hs⟩)
            clear ht4 hd4
            go_wp2_with fail
            go_loopw [10] (fun v wr => ∃ i : Nat, v = .int .i64 i ∧ i ≤ 40 ∧ SafeE W p sb wr) (fun v _ => 40 - (intOf v).toNat)
            case atStart => exact ⟨0, rfl, Nat.zero_le _, HS4.out⟩
            case round =>
              obtain ⟨j, rfl, hj, F5, su5, no5, st5, hb5, hd5, hs5⟩ := hrel
              have H5 := Lib.hid (And.intro hb5 (And.intro hd5 hs5))
              by_cases hgo2 : j < n2 ∧ j < 40
              · have i0 : (0 : Int) ≤ j := by omega
                have i1 : (j : Int) < n2 := by omega
                have i2 : (j : Int) < 40 := by omega
                have hjl : j < L2.length := by rw [H2.out.1]; exact hgo2.1
                obtain ⟨ad, X, rfl, hX, hXl, hcs⟩ := H2.out.2.1.six' j hjl
                have hok := H2.out.2.2 _ (List.getElem_mem hjl)
                generalize L2[j] = act at hcs hok
                obtain ⟨kind, nm, to, b, steps, part⟩ := act
                dsimp only at hcs
                obtain ⟨k0, k1, k2, k3, k4, k5⟩ := hcs wr hb5
                have hkk := kOf_lt kind
                have ht : (IntKind.u64.wrap kind).tmod 6 = (kOf kind : Int) := by rw [Int.tmod_eq_emod_of_nonneg (u64_nonneg kind), kOf_eq]
                generalize kOf kind = kk at hkk ht
                have u0 : (0 : Int) ≤ kk := by omega
                have u1 : (kk : Int) < 6 := by omega
                obtain ⟨k, hk⟩ : ∃ k, wr.heap.size = k := ⟨_, rfl⟩
                obtain ⟨wk, hwk⟩ : ∃ wk, wr.alloc (act6 kind nm to b steps part) = wk := ⟨_, rfl⟩
                have hbk : Below wr.heap.size wr wk := by rw [← hwk]; exact (Below.refl _ _).alloc (Nat.le_refl _) _
                have hgk : wk.heap[k]? = some (act6 kind nm to b steps part) := by rw [← hwk, ← hk]; exact (MapKept.heap_alloc wr _).1
                have hgk0 : (wr.alloc (act6 kind nm to b steps part)).heap[wr.heap.size]? = some (act6 kind nm to b steps part) := (MapKept.heap_alloc wr _).1
                have z0 := cell_blk hgk0 0 (v := .int .i64 kind) rfl
                have z1 := cell_blk hgk0 1 (v := .string (str nm)) rfl
                have z2 := cell_blk hgk0 2 (v := .string (str to)) rfl
                have z3 := cell_blk hgk0 3 (v := .string (str b)) rfl
                have z4 := cell_blk hgk0 4 (v := .int .i64 steps) rfl
                have z5 := cell_blk hgk0 5 (v := .int .i64 part) rfl
                have HK := Lib.hid (And.intro hbk (And.intro hgk (And.intro hk hwk)))
                have HB := Lib.hid hok.2.2.2.1
                clear hb5 hd5 hs5 hok hcs hbk hgk hgk0 hk hwk hXl
                rcases (show 3000 < b.length ∨ (¬ 3000 < b.length ∧ nm = sureN) ∨ (¬ 3000 < b.length ∧ nm ≠ sureN ∧ to = sureN) ∨ (¬ 3000 < b.length ∧ nm ≠ sureN ∧ to ≠ sureN ∧ kk ≠ 5) ∨ (¬ 3000 < b.length ∧ nm ≠ sureN ∧ to ≠ sureN ∧ kk = 5) by
                  by_cases h1 : 3000 < b.length
                  · exact .inl h1
                  · by_cases h2 : nm = sureN
                    · exact .inr (.inl ⟨h1, h2⟩)
                    · by_cases h3 : to = sureN
                      · exact .inr (.inr (.inl ⟨h1, h2, h3⟩))
                      · by_cases h4 : kk = 5
                        · exact .inr (.inr (.inr (.inr ⟨h1, h2, h3, h4⟩)))
                        · exact .inr (.inr (.inr (.inl ⟨h1, h2, h3, h4⟩)))) with h | ⟨h, h1⟩ | ⟨h, h1, h2⟩ | ⟨h, h1, h2, h3⟩ | ⟨h, h1, h2, h3⟩
                case' inl =>
                  have q1 : (3000 : Int) < ((str b).size : Nat) := by show (3000 : Int) < (b.length : Nat); omega
                case' inr.inl =>
                  have q1 : ¬ ((3000 : Int) < ((str b).size : Nat)) := by show ¬ ((3000 : Int) < (b.length : Nat)); omega
                  have q2 : ((str nm).toList == [115, 117, 114, 101]) = true := by rw [str_toList, h1]; rfl
                  clear h1
                case' inr.inr.inl =>
                  have q1 : ¬ ((3000 : Int) < ((str b).size : Nat)) := by show ¬ ((3000 : Int) < (b.length : Nat)); omega
                  have q2 : ((str nm).toList == [115, 117, 114, 101]) = false := by rw [str_toList]; simpa using h1
                  have q3 : ((str to).toList == [115, 117, 114, 101]) = true := by rw [str_toList, h2]; rfl
                  clear h1 h2
                case' inr.inr.inr.inl =>
                  have q1 : ¬ ((3000 : Int) < ((str b).size : Nat)) := by show ¬ ((3000 : Int) < (b.length : Nat)); omega
                  have q2 : ((str nm).toList == [115, 117, 114, 101]) = false := by rw [str_toList]; simpa using h1
                  have q3 : ((str to).toList == [115, 117, 114, 101]) = false := by rw [str_toList]; simpa using h2
                  have q4 : ((kk : Int) == 5) = false := by simp; omega
                  have HDO := Lib.hid (do3_safe kind nm to b steps part wk (H5.out.2.1.below HK.out.1) (Nat.le_trans H5.out.1.size HK.out.1.size) (by omega) H5.out.2.2 h1 h2)
                  clear h1 h2 h3
                case' inr.inr.inr.inr =>
                  have q1 : ¬ ((3000 : Int) < ((str b).size : Nat)) := by show ¬ ((3000 : Int) < (b.length : Nat)); omega
                  have q2 : ((str nm).toList == [115, 117, 114, 101]) = false := by rw [str_toList]; simpa using h1
                  have q3 : ((str to).toList == [115, 117, 114, 101]) = false := by rw [str_toList]; simpa using h2
                  subst h3
                  clear h1 h2
                all_goals
                  clear h hgo2 hkk
                  go_wp2_with fail
                  first
                  | exact ⟨⟨j + 1, by go_num, by omega, _, _, _, _, H5.out⟩, by simp [intOf]; omega⟩
                  | (rw [HK.out.2.2.2]
                     refine HDO.out.mono ?_
                     clear z0 z1 z2 z3 z4 z5
                     rintro e w6 ⟨rfl, F6, su6, no6, st6, ht6, hd6, hs6⟩
                     have H6 := Lib.hid (show SafeE W p sb w6 from ⟨F6, su6, no6, st6, (H5.out.1.trans (HK.out.1.mono H5.out.1.size)).trans (ht6.below (Nat.le_trans H5.out.1.size HK.out.1.size) (fun i hi => (H5.out.2.1.lt i hi).1)), hd6, hs6⟩)
                     clear ht6 hd6 hs6
                     go_wp2_with fail
                     exact ⟨⟨j + 1, by go_num, by omega, H6.out⟩, by simp [intOf]; omega⟩)
                  | (rw [HK.out.2.2.2, HK.out.2.2.1]
                     clear z0 z1 z2 z3 z4 z5 k0 k1 k2 k3 k4 k5
                     obtain ⟨m, hm⟩ : ∃ m, st5.length = m := ⟨_, rfl⟩
                     have hbd : Below wr.heap.size wr wk.drew := HK.out.1.drew
                     have HPEND := Lib.hid (show Calls Tryd.prog 11 #[.pointer (some ⟨p, 0, none⟩)] wk.drew (fun e w' => e = .returned (.int .i64 m) ∧ wk.drew = w') from hm ▸ pending_is wk.drew (H5.out.2.1.below hbd))
                     have hm1 : (m : Int) ≤ 4096 := by have := H5.out.2.1.few; omega
                     have hm0 : (0 : Int) ≤ m := by omega
                     have hmz : ¬ ((m : Int) + 1 = 0) := by omega
                     obtain ⟨ks, hks, hksm⟩ : ∃ ks : Nat, (IntKind.u64.wrap steps).tmod ((m : Int) + 1) = ks ∧ (ks : Int) ≤ m := by
                       have h1 := Int.emod_nonneg (IntKind.u64.wrap steps) (show (m : Int) + 1 ≠ 0 by omega)
                       have h2 := Int.emod_lt_of_pos (IntKind.u64.wrap steps) (show (0 : Int) < (m : Int) + 1 by omega)
                       exact ⟨(IntKind.u64.wrap steps % ((m : Int) + 1)).toNat, by rw [Int.tmod_eq_emod_of_nonneg (u64_nonneg steps)]; omega, by omega⟩
                     obtain ⟨qs, hqs, hqs5⟩ : ∃ qs : Nat, (IntKind.u64.wrap part).tmod 5 = qs ∧ (qs : Int) < 5 := by
                       have h1 := Int.emod_nonneg (IntKind.u64.wrap part) (show (5 : Int) ≠ 0 by decide)
                       have h2 := Int.emod_lt_of_pos (IntKind.u64.wrap part) (show (0 : Int) < 5 by decide)
                       exact ⟨(IntKind.u64.wrap part % 5).toNat, by rw [Int.tmod_eq_emod_of_nonneg (u64_nonneg part)]; omega, by omega⟩
                     have hks0 : (0 : Int) ≤ ks := by omega
                     have hqs0 : (0 : Int) ≤ qs := by omega
                     have hgd : wk.drew.heap[k]? = some (act6 kind nm to b steps part) := HK.out.2.1
                     obtain ⟨wA, hwA⟩ : ∃ wA, (wk.setCell ⟨k, 4, none⟩ (.int .i64 ks)).drew = wA := ⟨_, rfl⟩
                     have hgA : wA.heap[k]? = some (act6 kind nm to b ks part) := by rw [← hwA]; exact heap_setCell_same wk k 4 _ _ _ HK.out.2.1
                     have hgB : (wA.setCell ⟨k, 5, none⟩ (.int .i64 qs)).heap[k]? = some (act6 kind nm to b ks qs) := heap_setCell_same _ k 5 _ _ _ hgA
                     have e4 := cell_blk hgd 4 (v := .int .i64 steps) rfl
                     have x4 := frz_blk hgd 4
                     have e5 := cell_blk hgA 5 (v := .int .i64 part) rfl
                     have x5 := frz_blk hgA 5
                     have s4 := cell_blk hgB 4 (v := .int .i64 ks) rfl
                     have s5 := cell_blk hgB 5 (v := .int .i64 qs) rfl
                     have hbB : Below wr.heap.size wr (wA.setCell ⟨k, 5, none⟩ (.int .i64 qs)) := by
                       rw [← hwA]
                       exact ((HK.out.1.setCell (by rw [HK.out.2.2.1]; exact Nat.le_refl _) _).drew).setCell (by rw [HK.out.2.2.1]; exact Nat.le_refl _) _
                     have HWA := Lib.hid hwA
                     have HKSW := Lib.hid (IntWalk.i64_in (ks : Int) (by omega))
                     have HCR := Lib.hid (crash_nilI ks qs _ (H5.out.2.1.below hbB) (Nat.le_trans H5.out.1.size hbB.size) (by omega))
                     have HBB := Lib.hid hbB
                     have hw1 : IntKind.i64.wrap ((m : Int) + 1) = (m : Int) + 1 := IntWalk.i64_in _ (by omega)
                     have hw2 : IntKind.u64.wrap ((m : Int) + 1) = (m : Int) + 1 := IntWalk.u64_in _ (by omega)
                     have hmz' : ((m : Int) + 1 == 0) = false := by simpa using hmz
                     clear hgd hgA hgB hbB hbd hm hwA
                     go_region_with (first
                       | (go_at_call 11
                          refine HPEND.out.mono ?_
                          rintro e w7 ⟨rfl, rfl⟩))
                     all_goals
                       rw [HKSW.out, HWA.out]
                       go_wp2_with fail
                       refine HCR.out.mono ?_
                       rintro e w6 ⟨rfl, F6, ht6, hd6⟩
                       have H6 := Lib.hid (show SafeE W p sb w6 from ⟨F6, _, _, _, (H5.out.1.trans (HBB.out.mono H5.out.1.size)).trans (ht6.below (Nat.le_trans H5.out.1.size HBB.out.size) (fun i hi => (H5.out.2.1.lt i hi).1)), hd6, H5.out.2.2.crash ks qs⟩)
                       clear ht6 hd6
                       go_wp2_with fail
                       exact ⟨⟨j + 1, by go_num, by omega, H6.out⟩, by simp [intOf]; omega⟩)
              · rcases (show ¬ j < n2 ∨ (j < n2 ∧ ¬ j < 40) by omega) with h | ⟨h, h'⟩
                case' inl =>
                  have i1 : ¬ ((j : Int) < n2) := by omega
                case' inr =>
                  have i1 : (j : Int) < n2 := by omega
                  have i2 : ¬ ((j : Int) < 40) := by omega
                all_goals
                  clear hb5 hd5 hs5 hgo2 h
                  go_wp2_with fail
                  refine (read_ok sureN sb wr H5.out.2.1 (H5.out.2.2.read (by decide)) H5.out.2.2.no).mono ?_
                  rintro e w8 ⟨A8, c8, rfl, hb8, hr8, _⟩
                  rw [hln]
                  have hcv := run_conv_str (P := Tryd.prog) Tryd.underlying36 Tryd.underlying5 Tryd.underlying9 (w := w8) (n := ln) (c := c8) (l := sb) hln hr8
                  have hx : ((str sb).toList == (str sb).toList) = true := beq_self_eq_true _
                  have H8 := Lib.hid (H5.out.1.trans (hb8.mono H5.out.1.size))
                  clear hb8 hr8
                  go_wp2_with fail
                  refine (sure_is _).mono ?_
                  rintro e w9 ⟨rfl, hb9⟩
                  have HQ := Lib.hid hb9
                  clear hb9
                  go_wp2_with fail
                  go_ret
                  exact ⟨rfl, H8.out.trans (HQ.out.mono H8.out.size)⟩
          · rw [errV_pos er hpos]
            go_wp2_with fail
            refine (sure_is _).mono ?_
            rintro e w5 ⟨rfl, hb5⟩
            have HQ := Lib.hid hb5
            clear hb5
            go_wp2_with fail
            go_ret
            exact ⟨rfl, H3.out.1.trans (HQ.out.mono H3.out.1.size)⟩
theorem safe_any (A1 : Option Addr) (c1 : Nat) (L1 : List Act3) (A2 : Option Addr) (c2 : Nat) (L2 : List Act3) (s : ByteArray) (W : World) (hg : ErrT W) (hr1 : RdA W A1 L1) (hk1 : ∀ a ∈ L1, ActOk a) (hr2 : RdA W A2 L2) (hk2 : ∀ a ∈ L2, ActOk a) (hs : s.size ≤ maxLen) :
    Calls Tryd.prog 6 #[.slice A1 L1.length c1, .slice A2 L2.length c2, .string s] W fun e w' => e = .returned (.bool true) ∧ Below W.heap.size W w' := by
  have h := safe_walk A1 c1 L1 L1.length A2 c2 L2 L2.length s.data.toList W hg rfl hr1 hk1 rfl hr2 hk2 hs
  rw [str_of] at h
  exact h
end Go.Proofs.YtljagggankmnkaaDoor

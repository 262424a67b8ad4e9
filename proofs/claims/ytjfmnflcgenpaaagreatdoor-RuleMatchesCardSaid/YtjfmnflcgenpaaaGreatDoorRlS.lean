/- Contract: the document's Match of Nth. -/
import Derived.Test.YtjfmnflcgenpaaaGreatDoorRlR
namespace Go.Proofs.YtjfmnflcgenpaaaGreatDoor
open Go.RowKit


set_option maxRecDepth 100000 in
set_option maxHeartbeats 1000000 in
theorem refMatch2n (mo N wk : Int) (y : Int) (m : Nat) (d a : Int) (w : World) (hi : Is y m d) (hn : nr y m d = a) (ha1 : -70368744177664 ≤ a) (ha2 : a ≤ 70368744177664) (hm : ¬ (mo = 0 ∨ mo = m)) :
    Calls Tryz.prog 12 #[rv ⟨2, mo, N, wk, 0, 0, 0, 0, 0, 0⟩, .int .i64 a] w fun e w' => e = .returned (.bool false) ∧ Below w.heap.size w w' := by
  have hb0 := (Below.refl w.heap.size w).alloc (Nat.le_refl _) (.cells #[.int .i64 2, .int .i64 mo, .int .i64 N, .int .i64 wk, .int .i64 0, .int .i64 0, .int .i64 0, .int .i64 0, .int .i64 0, .int .i64 0] 25)
  have G0 := Lib.hid (heap_alloc_new w (.cells #[.int .i64 2, .int .i64 mo, .int .i64 N, .int .i64 wk, .int .i64 0, .int .i64 0, .int .i64 0, .int .i64 0, .int .i64 0, .int .i64 0] 25))
  have HB0 := Lib.hid hb0
  have HO := Lib.hid (fun W => refOf_any y m d a W hi hn ha1 ha2)
  have c1 : (mo != 0) = true := by simp; omega
  have c2 : (mo != m) = true := by simp; omega
  clear hm
  unfold dt at HO
  unfold rv
  simp only
  clear hb0 hi hn
  go_enter Tryz.func12, Tryz.ntmps12
  go_wp2_with fail
  refine (HO.out _).mono ?_
  rintro e w1 ⟨rfl, hb1⟩
  have hb2 := HB0.out.trans (hb1.mono HB0.out.size)
  have hg1 := (hb1.block w.heap.size (by simp)).trans G0.out
  have hlt1 := (Array.getElem?_eq_some_iff.1 hg1).1
  have hb3 := hb2.alloc hb2.size (.cells #[.int .i64 y, .int .i64 m, .int .i64 d] 23)
  have hgr := (Below.heap_alloc w1 (.cells #[.int .i64 y, .int .i64 m, .int .i64 d] 23) w.heap.size hlt1).trans hg1
  have hgd := heap_alloc_new w1 (.cells #[.int .i64 y, .int .i64 m, .int .i64 d] 23)
  obtain ⟨w2, hw2⟩ : ∃ w2, w1.alloc (.cells #[.int .i64 y, .int .i64 m, .int .i64 d] 23) = w2 := ⟨_, rfl⟩
  have HBE := Lib.hid hb3
  have hgr2 := hgr
  have hgd2 := hgd
  rw [hw2] at hb3 hgr2 hgd2
  have HB2 := Lib.hid hb3
  have HW2 := Lib.hid hw2
  have GR := Lib.hid hgr2
  have GD := Lib.hid hgd2
  have K0 := cell_blk hgr 0 (v := .int .i64 2) rfl
  have K1 := cell_blk hgr 1 (v := .int .i64 mo) rfl
  have X1 := cell_blk hgd 1 (v := .int .i64 m) rfl
  clear hb1 hb2 hg1 hlt1 hb3 hgr hgd hgr2 hgd2 hw2 HW2 GR GD HB2
  go_wp2_with fail
  go_ret
  exact ⟨rfl, HBE.out⟩

set_option maxRecDepth 100000 in
set_option maxHeartbeats 4000000 in
theorem refMatch2y (mo N wk : Int) (y : Int) (m : Nat) (d a : Int) (n : Nat) (w : World) (hi : Is y m d) (hn : nr y m d = a) (ha1 : -70368744177664 ≤ a) (ha2 : a ≤ 70368744177664) (hm : mo = 0 ∨ mo = m) (hl : mlen y m = n) (hN1 : -31 ≤ N) (hN2 : N ≤ 31) (c : Nat) (hcc : c < 7) (hw : wd (a - d + 1 + c) = wk) :
    Calls Tryz.prog 12 #[rv ⟨2, mo, N, wk, 0, 0, 0, 0, 0, 0⟩, .int .i64 a] w fun e w' => e = .returned (.bool (pick (a - d + 1 + c) 7 (cn7 c n) N a)) ∧ Below w.heap.size w w' := by
  have hb0 := (Below.refl w.heap.size w).alloc (Nat.le_refl _) (.cells #[.int .i64 2, .int .i64 mo, .int .i64 N, .int .i64 wk, .int .i64 0, .int .i64 0, .int .i64 0, .int .i64 0, .int .i64 0, .int .i64 0] 25)
  have G0 := Lib.hid (heap_alloc_new w (.cells #[.int .i64 2, .int .i64 mo, .int .i64 N, .int .i64 wk, .int .i64 0, .int .i64 0, .int .i64 0, .int .i64 0, .int .i64 0, .int .i64 0] 25))
  have HB0 := Lib.hid hb0
  have HO := Lib.hid (fun W => refOf_any y m d a W hi hn ha1 ha2)
  have hd1 := hi.d1
  have hd2 := hi.dl
  have hm1 := hi.m1
  have hm2 := hi.m12
  have hml := mlen_le (y := y) hm1 hm2
  have HL := Lib.hid (fun W => refLength_any y m W hm1 hm2)
  rw [hl] at hd2 hml HL
  have hn31 : n ≤ 31 := by omega
  have hd31 : d ≤ 31 := by omega
  obtain ⟨res, hres⟩ : ∃ r, pick (a - d + 1 + c) 7 (cn7 c n) N a = r := ⟨_, rfl⟩
  rw [hres]
  have HR : Hid (decide (0 ≤ atR N (cn7 c n) ∧ atR N (cn7 c n) < ((cn7 c n) : Nat) ∧ (a - d + 1 + c) + 7 * atR N (cn7 c n) = a) = res) := hres
  have c1 : (mo != 0) = false ∨ ((mo != 0) = true ∧ (mo != m) = false) := by
    rcases hm with h | h
    · left; simp [h]
    · right; simp; omega

  have HCW := Lib.hid (And.intro hcc hw)
  have HWd := Lib.hid (fun (i : Int) W (h1 : 0 ≤ i) (h2 : i ≤ 31) => refWeekday_any (a - d + 1 + i) W (by omega) (by omega))
  have hcn : cn7 c n ≤ 31 := by unfold cn7; omega
  clear hcc hw

  clear hm hl hml hres hm2 hd2
  unfold dt at HO
  unfold rv
  simp only
  clear hb0 hi hn
  go_enter Tryz.func12, Tryz.ntmps12
  go_wp2_with fail
  refine (HO.out _).mono ?_
  rintro e w1 ⟨rfl, hb1⟩
  have hb2 := HB0.out.trans (hb1.mono HB0.out.size)
  have hg1 := (hb1.block w.heap.size (by simp)).trans G0.out
  have hlt1 := (Array.getElem?_eq_some_iff.1 hg1).1
  have hb3 := hb2.alloc hb2.size (.cells #[.int .i64 y, .int .i64 m, .int .i64 d] 23)
  have hgr := (Below.heap_alloc w1 (.cells #[.int .i64 y, .int .i64 m, .int .i64 d] 23) w.heap.size hlt1).trans hg1
  have hgd := heap_alloc_new w1 (.cells #[.int .i64 y, .int .i64 m, .int .i64 d] 23)
  obtain ⟨w2, hw2⟩ : ∃ w2, w1.alloc (.cells #[.int .i64 y, .int .i64 m, .int .i64 d] 23) = w2 := ⟨_, rfl⟩
  have HBE := Lib.hid hb3
  have hgr2 := hgr
  have hgd2 := hgd
  rw [hw2] at hb3 hgr2 hgd2
  have HB2 := Lib.hid hb3
  have HW2 := Lib.hid hw2
  have GR := Lib.hid hgr2
  have GD := Lib.hid hgd2
  have hlr := (Array.getElem?_eq_some_iff.1 hgr2).1
  have hld := (Array.getElem?_eq_some_iff.1 hgd2).1
  have HSR := Lib.hid (show ∀ W, Below w2.heap.size w2 W → W.heap[w.heap.size]? = some (.cells #[.int .i64 2, .int .i64 mo, .int .i64 N, .int .i64 wk, .int .i64 0, .int .i64 0, .int .i64 0, .int .i64 0, .int .i64 0, .int .i64 0] 25 (0, 0)) from fun W hb => (hb.block _ hlr).trans GR.out)
  have HSD := Lib.hid (show ∀ W, Below w2.heap.size w2 W → W.heap[w1.heap.size]? = some (.cells #[.int .i64 y, .int .i64 m, .int .i64 d] 23 (0, 0)) from fun W hb => (hb.block _ hld).trans GD.out)
  have K0 := cell_blk hgr 0 (v := .int .i64 2) rfl
  have K1 := cell_blk hgr 1 (v := .int .i64 mo) rfl
  have X1 := cell_blk hgd 1 (v := .int .i64 m) rfl
  have X2 := cell_blk hgd 2 (v := .int .i64 d) rfl
  have HD := Lib.hid (And.intro hd1 hm1)
  clear hb1 hb2 hg1 hlt1 hb3 hgr hgd hgr2 hgd2 hw2 hlr hld GR GD HB0 G0 HO hm1
  rcases c1 with c1 | ⟨c1, c2⟩
  case' inl => go_wp2_with fail
  case' inr => go_wp2_with fail
  all_goals
    rw [HW2.out]
    clear K0 K1 X1 X2 HW2 c1
    go_loopw [7, 8] (fun l v wr => ∃ i : Nat, v = .int .i64 i ∧ i ≤ n ∧ Below w2.heap.size w2 wr ∧ wr.ownsRow w2.heap.size 3 1 l (cn7 c i) (intL (apr (a - d + 1 + c) 7 (cn7 c i)))) (fun _ v _ => n - (intOf v).toNat)
    case atStart =>

      have e0 : cn7 c 0 = 0 := by have := HCW.out.1; unfold cn7; omega
      exact ⟨0, rfl, Nat.zero_le _, Below.refl _ _, by rw [e0]; exact World.ownsRow_nil _ _ _ _⟩

    case round =>
      obtain ⟨i, rfl, hi, hb, hown⟩ := hrel
      have HBi := Lib.hid hb
      have HOi := Lib.hid hown
      have X0 := cell_blk (HSD.out _ hb) 0 (v := .int .i64 y) rfl
      have X1 := cell_blk (HSD.out _ hb) 1 (v := .int .i64 m) rfl
      clear hb
      by_cases hin : i < n
      · clear hown
        go_wp2_with fail
        refine (HL.out _).mono ?_
        rintro e w4 ⟨rfl, hb4⟩
        have hb5 := HBi.out.trans (hb4.mono HBi.out.size)
        have hown4 := owns_below HOi.out hb4
        have HB4 := Lib.hid hb5
        have HO4 := Lib.hid hown4
        have K0 := cell_blk (HSR.out _ hb5) 0 (v := .int .i64 2) rfl

        have hlt4 := (Array.getElem?_eq_some_iff.1 (HSR.out _ hb5)).1
        have HKK := Lib.hid (show ∀ W, Below w4.heap.size w4 W → W.cell? ⟨w.heap.size, 0, none⟩ = some (.int .i64 2) ∧ W.cell? ⟨w.heap.size, 3, none⟩ = some (.int .i64 wk) from fun W hW => ⟨cell_blk ((hW.block _ hlt4).trans (HSR.out _ hb5)) 0 rfl, cell_blk ((hW.block _ hlt4).trans (HSR.out _ hb5)) 3 rfl⟩)
        have HWi := Lib.hid (fun W => HWd.out i W (by omega) (by omega))
        have hbd := below_dr w4
        have HHit := Lib.hid (wd_hit c i (a - d + 1) wk HCW.out.1 HCW.out.2)
        have HC7 := Lib.hid HCW.out.1
        have hcb : cn7 c i ≤ 31 := by unfold cn7; omega
        generalize wd (a - d + 1 + i) = q at *
        clear hb4 hb5 hown4 X0 X1 hlt4
        by_cases hh : i % 7 = c
        case' pos =>
          have hq : (q == wk) = true := by have := HHit.out.2 hh; simpa using this
          obtain ⟨hs1, hs2⟩ := cn7_hit HC7.out hh
          have HS := Lib.hid (And.intro hs1 hs2)
          have hwr : IntKind.i64.wrap (a - d + 1 + (i : Int)) = a - d + 1 + i := IntWalk.i64_in _ (by omega)
          clear hh hs1 hs2 HHit
          go_wp2_with fail
          go_region_held3 (fun W => W.cell? ⟨w.heap.size, 0, none⟩ = some (.int .i64 2) ∧ W.cell? ⟨w.heap.size, 3, none⟩ = some (.int .i64 wk)) (exact HKK.out _ (by assumption))
            (first
              | (go_at_call 28
                 refine (HWi.out _).mono ?_
                 rintro e w6 ⟨rfl, hb6⟩
                 have hb6' : Below w4.heap.size w4 w6 := hbd.trans (hb6.mono hbd.size)
                 clear hb6))
          have HB6 := Lib.hid (HB4.out.trans (hb6'.mono HB4.out.size))
          have HO6 := Lib.hid (owns_below HO4.out hb6')
          have hz6 := HB6.out.size
          clear hb6' hbd hq hwr
          go_wp2_with (first
            | (at_builtin
               refine wpList_app rfl (.tmp 71) (.tmp 75) _ rfl elInt w2.heap.size _ (cn7 c i) (intL (apr (a - d + 1 + c) 7 (cn7 c i))) rfl (HO6.out.alloc _) _ 1 1 (intL [a - d + 1 + i]) rfl rfl ?rd (intL_one _) (by unfold maxLen; omega) (by omega) (by simp; omega) ?_
               case rd => exact Rd.block (cs := #[.int .i64 (a - d + 1 + i)]) (heap_alloc_new _ _)
               intro v5 w5 hown5 hg5 hat5
               have HO5 := Lib.hid hown5
               have HB5 := Lib.hid ((HB6.out.alloc HB6.out.size (.cells #[.int .i64 (a - d + 1 + i)] 3)).grown hg5 (by simp; omega) (fun j hj => owns_block HO6.out j hj))
               clear hown5 hg5 hat5))
          go_roundw
          case rel =>
            refine ⟨i + 1, by go_num, hin, HB5.out, ?_⟩
            have := HO5.out
            rw [HS.out.1, apr_succ, intL_append, show a - d + 1 + (c : Int) + 7 * (cn7 c i : Nat) = a - d + 1 + i by have := HS.out.2; omega]
            exact this
          case measure => simp [intOf]; omega
        case' neg =>
          have hq : (q == wk) = false := by rw [beq_eq_false_iff_ne]; exact fun e => hh (HHit.out.1 e)
          have HS := Lib.hid (cn7_miss HC7.out hh)
          have hwr : IntKind.i64.wrap (a - d + 1 + (i : Int)) = a - d + 1 + i := IntWalk.i64_in _ (by omega)
          clear hh HHit
          go_wp2_with fail
          go_region_held3 (fun W => W.cell? ⟨w.heap.size, 0, none⟩ = some (.int .i64 2) ∧ W.cell? ⟨w.heap.size, 3, none⟩ = some (.int .i64 wk)) (exact HKK.out _ (by assumption))
            (first
              | (go_at_call 28
                 refine (HWi.out _).mono ?_
                 rintro e w6 ⟨rfl, hb6⟩
                 have hb6' : Below w4.heap.size w4 w6 := hbd.trans (hb6.mono hbd.size)
                 clear hb6))
          have HB6 := Lib.hid (HB4.out.trans (hb6'.mono HB4.out.size))
          have HO6 := Lib.hid (owns_below HO4.out hb6')
          clear hb6' hbd hq hwr
          go_wp2_with fail
          go_roundw
          case rel => exact ⟨i + 1, by go_num, hin, HB6.out, by rw [HS.out]; exact HO6.out⟩
          case measure => simp [intOf]; omega

      · obtain rfl : i = n := by omega
        obtain ⟨A, cp, rfl, hcp1, hcp2, hcp3, hrd, hlo⟩ := owns_form hown
        have HRd := Lib.hid hrd
        clear hown hcp3 hrd hlo hcp2
        go_wp2_with fail
        refine (HL.out _).mono ?_
        rintro e w4 ⟨rfl, hb4⟩
        have hb5 := HBi.out.trans (hb4.mono HBi.out.size)
        have HB4 := Lib.hid hb5
        have HR4 := Lib.hid (HRd.out.below hb4)
        have K2 := cell_blk (HSR.out _ hb5) 2 (v := .int .i64 N) rfl
        clear hb4 hb5 X0 X1
        have HK := Lib.hid (show ∀ k : Nat, (cn7 c i) = k → k ≤ 31 → 0 = 0 from fun _ _ _ => rfl)
        obtain ⟨k, hk⟩ : ∃ k, (cn7 c i) = k := ⟨_, rfl⟩
        have hk31 : k ≤ 31 := by omega
        rw [hk] at HR HR4 hcp1 ⊢
        have hlen := apr_length (a - d + 1 + c) 7 k
        have hget := apr_get (a - d + 1 + c) 7 k
        clear hk HK
        generalize apr (a - d + 1 + c) 7 k = L at *
        unfold atR at HR
        by_cases hneg : N < 0
        · rw [if_pos hneg] at HR
          rcases (show (k : Int) + N < 0 ∨ 0 ≤ (k : Int) + N by omega) with h | h
          · have d1 : decide (0 ≤ (k : Int) + N) = false := decide_eq_false (by omega)
            go_wp2_with fail
            go_ret
            exact ⟨ret_bool (by rw [← HR.out]; exact (decide_eq_false (by omega)).symm), HB2.out.trans (HB4.out.mono HB2.out.size)⟩
          · obtain ⟨j, hj⟩ : ∃ j : Nat, (k : Int) + N = j := ⟨((k : Int) + N).toNat, by omega⟩
            have hjk : j < k := by omega
            obtain ⟨ad, rfl, hcell⟩ := HR4.out (by rw [intL_length, hlen]; omega)
            have hc0 := hcell j (.int .i64 ((a - d + 1 + c) + 7 * (j : Int))) (by unfold intL; rw [List.getElem?_map, hget j hjk]; rfl)
            rw [hj] at HR
            have HH := Lib.hid (And.intro hjk h)
            clear hcell h
            go_wp2_with fail
            go_ret
            refine ⟨ret_bool ?_, HB2.out.trans (HB4.out.mono HB2.out.size)⟩
            rw [← HR.out, Bool.eq_iff_iff]
            simp
            have := HH.out.1
            omega
        · rw [if_neg hneg] at HR
          rcases (show N - 1 < 0 ∨ (0 ≤ N - 1 ∧ (k : Int) ≤ N - 1) ∨ (0 ≤ N - 1 ∧ N - 1 < (k : Int)) by omega) with h | ⟨h, h'⟩ | ⟨h, h'⟩
          · have d1 : decide (0 ≤ N - 1) = false := decide_eq_false (by omega)
            go_wp2_with fail
            go_ret
            exact ⟨ret_bool (by rw [← HR.out]; exact (decide_eq_false (by omega)).symm), HB2.out.trans (HB4.out.mono HB2.out.size)⟩
          · have d1 : decide (0 ≤ N - 1) = true := decide_eq_true (by omega)
            have d2 : decide (N - 1 < (k : Int)) = false := decide_eq_false (by omega)
            go_wp2_with fail
            go_ret
            exact ⟨ret_bool (by rw [← HR.out]; exact (decide_eq_false (by omega)).symm), HB2.out.trans (HB4.out.mono HB2.out.size)⟩
          · obtain ⟨j, hj⟩ : ∃ j : Nat, N - 1 = j := ⟨(N - 1).toNat, by omega⟩
            have hjk : j < k := by omega
            obtain ⟨ad, rfl, hcell⟩ := HR4.out (by rw [intL_length, hlen]; omega)
            have hc0 := hcell j (.int .i64 ((a - d + 1 + c) + 7 * (j : Int))) (by unfold intL; rw [List.getElem?_map, hget j hjk]; rfl)
            rw [hj] at HR
            have HH := Lib.hid (And.intro hjk h)
            clear hcell h h'
            go_wp2_with fail
            go_ret
            refine ⟨ret_bool ?_, HB2.out.trans (HB4.out.mono HB2.out.size)⟩
            rw [← HR.out, Bool.eq_iff_iff]
            simp
            have := HH.out.1
            omega

end Go.Proofs.YtjfmnflcgenpaaaGreatDoor

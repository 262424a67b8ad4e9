/- Contract: clock's Parse. -/
import Derived.Test.YtgfibckahnjclaaDoorCkE
import Derived.Test.YtgfibckahnjclaaDoorCkF
import Derived.Test.YtgfibckahnjclaaDoorL5Num
namespace Go.Proofs.YtgfibckahnjclaaDoor
open Go.RowKit

/-- The library's greatest length is some int. -/
def Mx (w : World) : Prop := ∃ m, w.cell? ⟨3, 0, none⟩ = some (.int .i64 m)
theorem Mx.below {w w' : World} (h : Mx w) (hb : Below w.heap.size w w') : Mx w' := by
  obtain ⟨m, hm⟩ := h
  exact ⟨m, (World.cell?_of_block (a := ⟨3, 0, none⟩) (hb.block _ (World.block_lt_of_cell? w _ hm))).trans hm⟩
theorem Mx.shaped {w : World} (h : w.ShapedOpen Tryd.prog) : Mx w := Tryd.splitL.s1_3 w h
/-- A text cut at its colons. -/
theorem split_colon (s : ByteArray) (w : World) (hs : s.size < 4294967281) (hm : Mx w) :
    Calls Tryd.prog 36 #[.string s, .string { data := #[58] }] w fun e w' => ∃ ps : List ByteArray, ps.map (·.data.toList) = cutAt 58 s.data.toList ∧
      e = .returned (.slice (some ⟨w.heap.size, 0, none⟩) ps.length ps.length) ∧ w' = w.alloc (.cells (ps.map Value.string).toArray 9) := by
  obtain ⟨m, hm⟩ := hm
  have h1 : 1 ≤ ({ data := #[58] } : ByteArray).size := by decide
  refine (show Calls Tryd.prog 36 #[.string s, .string { data := #[58] }] w _ from Any.strings_Split { Tryd.splitL with } Tryd.splitL.i9 s { data := #[58] } m w hs hm h1).mono ?_
  rintro e w' ⟨rfl, rfl⟩
  refine ⟨Lib.splitB { data := #[58] } 0 (Lib.countB s { data := #[58] }) s, ?_, ?_, rfl⟩
  · rw [Lib.splitB_data]
    exact split_cut 58 s.data.toList
  · rw [Lib.splitB_all _ h1 0 _ s rfl]
def bdK : Nat → Nat
  | 0 => 0
  | k + 1 => bdK k * 60 + 99
theorem bdK_le (k : Nat) (h : k ≤ 9) : bdK k ≤ 20000000000000000 := by
  have : ∀ i : Fin 10, bdK i ≤ 20000000000000000 := by decide
  exact this ⟨k, by omega⟩
/-- What comes of the pieces. -/
def fin (R : Option Nat) : Int × Int :=
  match R with
  | none => (0, 3)
  | some n => if 86400 < n then (0, 3) else (n, 0)
def Told (R : Option Nat) (w : World) (e : Ending) (w' : World) : Prop := e = .returned (.tuple #[.int .i64 (fin R).1, errE (fin R).2]) ∧ Below w.heap.size w w'
theorem told_none {w w' : World} (h : Below w.heap.size w w') : Told none w (.returned (.tuple #[.int .i64 0, errK 3])) w' := ⟨by unfold fin; rw [errE_three], h⟩
theorem told_much {w w' : World} {n : Nat} (hn : 86400 < n) (h : Below w.heap.size w w') : Told (some n) w (.returned (.tuple #[.int .i64 0, errK 3])) w' := ⟨by unfold fin; simp only [if_pos hn]; rw [errE_three], h⟩
theorem told_some {w w' : World} {n : Nat} (hn : ¬ 86400 < n) (h : Below w.heap.size w w') : Told (some n) w (.returned (.tuple #[.int .i64 n, .nilIface])) w' := ⟨by unfold fin; simp only [if_neg hn]; rw [errE_zero], h⟩
theorem piece_len : ∀ (l p : List UInt8), p ∈ cutAt 58 l → p.length ≤ l.length
  | [], p, h => by simp [cutAt] at h; simp [h]
  | b :: l, p, h => by
    by_cases hb : b = 58
    · subst hb
      rw [cutAt_self] at h
      rcases List.mem_cons.1 h with rfl | h
      · simp
      · have := piece_len l p h
        simp; omega
    · obtain ⟨q, qs, h1, h2⟩ := cutAt_cons 58 b l hb
      rw [h2] at h
      rcases List.mem_cons.1 h with rfl | h
      · have := piece_len l q (by rw [h1]; simp)
        simp; omega
      · have := piece_len l p (by rw [h1]; simp [h])
        simp; omega
set_option maxRecDepth 100000 in
set_option maxHeartbeats 2000000 in
theorem parse_two (s S : ByteArray) (w : World) (hm : Mx w) (hS : S.size = 8) (h : s.size = 5 ∧ (∀ W, (Op.stringOp .add s { data := #[58, 48, 48] }).run Tryd.prog W = .ok (.string S) W) ∨ S = s) :
    Calls Tryd.prog 21 #[.string s] w (Told (pg (cutAt 58 S.data.toList) 0 0) w) := by
  have HC := Lib.hid (fun W hW => split_colon S W (by omega) hW)
  have HLn := Lib.hid (cutAt_length 58 S.data.toList)
  have hcnt : (S.data.toList.count 58) ≤ 8 := by
    have h1 : S.data.toList.count 58 ≤ S.data.toList.length := List.count_le_length
    have h2 : S.data.toList.length = 8 := by simpa using hS
    omega
  have HPl := Lib.hid (fun p hp => piece_len S.data.toList p hp)
  have hSl : S.data.toList.length = 8 := by simpa using hS
  rw [hSl] at HPl
  obtain ⟨R, hR⟩ : ∃ R, pg (cutAt 58 S.data.toList) 0 0 = R := ⟨_, rfl⟩
  rw [hR]
  have HR := Lib.hid hR
  have HM := Lib.hid hm
  have hcnt' := Lib.hid hcnt
  clear hR hm hSl hcnt
  rcases h with ⟨h5, hq⟩ | rfl
  case' inl =>
    go_enter Tryd.func21, Tryd.ntmps21
    go_wp2_with fail
    clear h5 hq
  case' inr =>
    go_enter Tryd.func21, Tryd.ntmps21
    go_wp2_with fail
  all_goals
    refine (HC.out _ HM.out).mono ?_
    rintro e w1 ⟨ps, hps, rfl, rfl⟩
    clear hS
    have HPS := Lib.hid hps
    clear hps
    have G := Lib.hid (heap_alloc_new w (.cells (ps.map Value.string).toArray 9))
    have HB0 := Lib.hid ((Below.refl w.heap.size w).alloc (Nat.le_refl _) (.cells (ps.map Value.string).toArray 9))
    obtain ⟨w1, hw1⟩ : ∃ w1, w.alloc (.cells (ps.map Value.string).toArray 9) = w1 := ⟨_, rfl⟩
    rw [hw1] at G HB0 ⊢
    clear hw1
    have hlt : w.heap.size < w1.heap.size := (Array.getElem?_eq_some_iff.1 G.out).1
    obtain ⟨n, hn⟩ : ∃ n, ps.length = n := ⟨_, rfl⟩
    have hn9 : n ≤ 9 := by
      have h1 := congrArg List.length HPS.out
      rw [List.length_map, HLn.out] at h1
      have := hcnt'.out
      omega
    rw [hn]
    have HN := Lib.hid hn
    clear hn
    go_wp2_with fail
    go_loopw [4, 21] (fun v i wr => ∃ k a : Nat, i = .int .i64 k ∧ k ≤ n ∧ v = .int .i64 a ∧ a ≤ bdK k ∧ pg ((cutAt 58 S.data.toList).drop k) k a = R ∧ Below w1.heap.size w1 wr) (fun _ i _ => n - (intOf i).toNat)
    case atStart => exact ⟨0, 0, rfl, Nat.zero_le _, rfl, Nat.le_refl _, HR.out, Below.refl _ _⟩
    case round =>
      obtain ⟨k, a, rfl, hk, rfl, ha, hp, hb⟩ := hrel
      have HP := Lib.hid hp
      have HB := Lib.hid (HB0.out.trans (hb.mono HB0.out.size))
      have HB1 := Lib.hid hb
      have ha2 := bdK_le k (by omega)
      have ha3 : a ≤ 20000000000000000 := by omega
      have HA := Lib.hid ha
      clear hp ha ha2
      by_cases hlt : k < n
      · have hkp : k < ps.length := by rw [HN.out]; exact hlt
        have hc : wr.cell? ⟨w.heap.size, k, none⟩ = some (.string ps[k]) := cell_blk ((hb.block _ (by assumption)).trans G.out) k (by simp [hkp])
        clear hb
        have hd : (cutAt 58 S.data.toList).drop k = ps[k].data.toList :: (cutAt 58 S.data.toList).drop (k + 1) := by
          have := HPS.out
          rw [← this, List.drop_eq_getElem_cons (by simpa using hkp)]
          simp
        have hsz : ps[k].size ≤ 8 := by
          have h1 := HPl.out ps[k].data.toList (by rw [← HPS.out]; exact List.mem_map.2 ⟨ps[k], List.getElem_mem hkp, rfl⟩)
          simpa using h1
        rw [hd] at HP
        obtain ⟨p, hpk⟩ : ∃ p, ps[k] = p := ⟨_, rfl⟩
        rw [hpk] at hc HP hsz
        clear hpk hd
        cases h2 : num2 p.data.toList with
        | none =>
          have HNO := Lib.hid (number_no p wr h2)
          have HRN : Hid (none = R) := by
            have := HP.out
            rw [pg_none _ _ _ _ h2] at this
            exact this
          clear h2 hsz HP
          go_wp2_with fail
          refine HNO.out.mono ?_
          rintro e w3 ⟨rfl, hb3⟩
          have HB3 := Lib.hid (HB.out.trans (hb3.mono HB.out.size))
          clear hb3 hc
          go_wp2_with fail
          go_ret2
          rw [← HRN.out]
          exact told_none HB3.out
        | some v =>
          have HYE := Lib.hid (number_yes p v wr h2)
          have hv := (num2_some h2).1
          have HRS := Lib.hid (pg_some p.data.toList ((cutAt 58 S.data.toList).drop (k + 1)) k a v h2)
          clear h2 hsz
          by_cases hbad : 0 < k ∧ 60 ≤ v
          · obtain ⟨hb1, hb2⟩ := hbad
            have HRN : Hid (none = R) := by
              have h3 := HP.out
              rw [HRS.out, if_pos ⟨hb1, hb2⟩] at h3
              exact h3
            clear HP HRS
            go_wp2_with fail
            refine HYE.out.mono ?_
            rintro e w3 ⟨rfl, hb3⟩
            have HB3 := Lib.hid (HB.out.trans (hb3.mono HB.out.size))
            clear hb3 hc
            go_wp2_with fail
            go_ret2
            rw [← HRN.out]
            exact told_none HB3.out
          · have HRR : Hid (pg ((cutAt 58 S.data.toList).drop (k + 1)) (k + 1) (a * 60 + v) = R) := by
              have h3 := HP.out
              rw [HRS.out, if_neg hbad] at h3
              exact h3
            clear HP HRS
            rcases Nat.eq_zero_or_pos k with h0 | h0
            · subst h0
              clear hbad
              go_wp2_with fail
              refine HYE.out.mono ?_
              rintro e w3 ⟨rfl, hb3⟩
              have HB3 := Lib.hid (HB1.out.trans (hb3.mono HB1.out.size))
              clear hb3 hc
              go_wp2_with fail
              go_roundw
              case rel => exact ⟨0 + 1, a * 60 + v, by go_num, hlt, by go_num, by have := HA.out; show _ ≤ bdK 0 * 60 + 99; omega, HRR.out, HB3.out⟩
              case measure => simp [intOf]; omega
            · have hb2 : v < 60 := by omega
              clear hbad
              go_wp2_with fail
              refine HYE.out.mono ?_
              rintro e w3 ⟨rfl, hb3⟩
              have HB3 := Lib.hid (HB1.out.trans (hb3.mono HB1.out.size))
              clear hb3 hc
              go_wp2_with fail
              go_roundw
              case rel => exact ⟨k + 1, a * 60 + v, by go_num, hlt, by go_num, by have := HA.out; show _ ≤ bdK k * 60 + 99; omega, HRR.out, HB3.out⟩
              case measure => simp [intOf]; omega
      · obtain rfl : k = n := by omega
        have HRS : Hid (some a = R) := by
          have h3 := HP.out
          rw [List.drop_eq_nil_of_le (by rw [← HPS.out, List.length_map, HN.out]; exact Nat.le_refl _)] at h3
          exact h3
        clear HP hb
        by_cases hbig : 86400 < a
        · go_wp2_with fail
          go_ret2
          rw [← HRS.out]
          exact told_much hbig HB.out
        · go_wp2_with fail
          go_ret2
          rw [← HRS.out]
          exact told_some hbig HB.out
theorem parse_len (s : ByteArray) (w : World) (h : s.size ≠ 5) (h' : s.size ≠ 8) :
    Calls Tryd.prog 21 #[.string s] w (Told none w) := by
  obtain ⟨n, hn⟩ : ∃ n, s.size = n := ⟨_, rfl⟩
  rw [hn] at h h'
  have d1 : ((n : Int) == 5) = false := by rw [beq_eq_false_iff_ne]; omega
  have d2 : ((n : Int) != 8) = true := by simp; omega
  have d3 : ((n : Int) == 8) = false := by rw [beq_eq_false_iff_ne]; omega
  clear h h'
  go_enter Tryd.func21, Tryd.ntmps21
  go_wp2_with fail
  go_ret2
  exact told_none (Below.refl _ _)
end Go.Proofs.YtgfibckahnjclaaDoor

/- Contract: the reader reads a field's line; takes a line. -/
import Derived.Test.YtbeehedppofpnaaGreatDoorBkE
namespace Go.Proofs.YtbeehedppofpnaaGreatDoor
open Go.RowKit Go.Maps

theorem any_names (b : Bk) (k : Tx) : (b.2.2.map (·.2.1)).any (· == k) = hasN b k := by
  unfold hasN
  rw [List.any_map]
  rfl
set_option maxHeartbeats 4000000 in
set_option maxRecDepth 100000 in
theorem field_any (base g : Nat) (out : List Bk) (b : Bk) (at_ : Nat) (t : Tx) (w : World) (ht : Solid t) (ho : out.length ≤ 1024) (hf : b.2.2.length ≤ 64) (hs : Rd9 w base g out (some b)) :
    Calls Tryz.prog 35 #[.pointer (some ⟨g, 0, none⟩), .agg #[.int .i64 (at_ : Int), .string (str t)]] w fun e w' => e = .returned (errE (stF b (at_, t)).1) ∧ Kp9 base w w' ∧ ((stF b (at_, t)).1 = 0 → Rd9 w' base g out (some (stF b (at_, t)).2)) := by
  obtain ⟨v, vF, mb, B, Z, h⟩ := hs
  obtain ⟨gb, cap, rfl, _⟩ := h.own.form (by omega)
  obtain ⟨AF, cF, rfl, hcF1, hcF2, _⟩ := owns_formk h.last
  obtain ⟨n, hn⟩ : ∃ n, Z.length = n := ⟨_, rfl⟩
  obtain ⟨f, hfn⟩ : ∃ f, b.2.2.length = f := ⟨_, rfl⟩
  have hno : n ≤ 1024 := by
    have := congrArg List.length h.same
    simp at this
    omega
  obtain ⟨K, hK⟩ : ∃ K, n * 3 = K := ⟨_, rfl⟩
  rw [hfn] at hf hcF1
  have hbox := (Below.refl w.heap.size w).alloc (Nat.le_refl _) (.cells #[.int .i64 (at_ : Int), .string (str t)] 57)
  have h0 := h.below hbox
  rw [hfn] at h h0
  have HL := Lib.hid (fun W (hW : W.heap[g]? = _) => last_any g n (n + 1) cap ⟨gb, 0, none⟩ (.bool true) (.map (some mb)) W rfl (by omega) hW)
  rw [add_at0, hK] at HL
  have hc0 := h0.cell
  rw [hn] at hc0
  have HS : Hid (∀ W, Below (w.alloc (.cells #[.int .i64 (at_ : Int), .string (str t)] 57)).heap.size (w.alloc (.cells #[.int .i64 (at_ : Int), .string (str t)] 57)) W → In9 W base g out b (.slice (some ⟨gb, 0, none⟩) (n + 1) cap) (.slice AF f cF) mb B Z ∧ W.heap[w.heap.size]? = some (.cells #[.int .i64 (at_ : Int), .string (str t)] 57 (0, 0)) ∧ W.cell? ⟨gb, K + 2, none⟩ = some (.slice AF f cF) ∧ W.cell? ⟨g, 2, none⟩ = some (.map (some mb)) ∧ Kp9 base w W) := by
    intro W hW
    have hi := h0.below hW
    rw [hn] at hi
    refine ⟨hi, (hW.block _ (by rw [World.size_alloc]; exact Nat.lt_succ_self _)).trans (MapKept.heap_alloc w _).1, ?_, cell_blk hi.cell 2 rfl, ?_⟩
    · have ho := hi.own
      rw [hn] at ho
      have hq : ((Z ++ [(iB b, Value.slice AF f cF)]).flatMap bkC)[n * 3 + 2]? = some (.slice AF f cF) := by rw [← hn]; exact bkcat_last Z (iB b, .slice AF f cF) 2 (by omega)
      have := (ho.cellAt (n * 3 + 2) (by omega)).trans hq
      rw [hK] at this
      exact this
    · exact (Kp9.of hbox (by have := h.low.2; omega)).trans (Kp9.of hW (by rw [World.size_alloc]; have := h.low.2; omega))
  have HC := Lib.hid (fun W => cut_any t W ht)
  have hst : stF b (at_, t) = if fst9 t = defineT ∧ trim (snd9 t) ≠ [] then (3, b) else if wordT (fst9 t) = false then (11, b) else if hasN b (fst9 t) = true then (7, b) else if 64 ≤ f then (10, b) else (0, (b.1, b.2.1, b.2.2 ++ [(at_, fst9 t, trim (snd9 t))])) := by
    unfold stF
    simp only [ne_eq, snd_trim ht, hfn]
  rw [hst]
  have hFl : (fst9 t).length ≤ 4096 := Nat.le_trans (fst_len t) ht.2.2
  have hXl : (trim (snd9 t)).length ≤ 4096 := Nat.le_trans (trim_len _) (Nat.le_trans (snd_len t) ht.2.2)
  obtain ⟨F, hF⟩ : ∃ F, fst9 t = F := ⟨_, rfl⟩
  obtain ⟨X, hX⟩ : ∃ X, trim (snd9 t) = X := ⟨_, rfl⟩
  rw [hF] at HC hFl
  rw [hX] at HC hXl
  rw [hF, hX]
  have HW := Lib.hid (fun W => isWord_any F W (by omega))
  obtain ⟨T, hT⟩ : ∃ T, str t = T := ⟨_, rfl⟩
  rw [hT] at HC HS hbox h0 hc0 ⊢
  have HN := Lib.hid (And.intro hn (And.intro hfn hK))
  have HC0 := Lib.hid hc0
  have hK0 : K + 2 ≤ 100000 := by omega
  have hcF : Hid (f ≤ cF ∧ cF ≤ maxLen) := ⟨hcF1, hcF2⟩
  clear hst hF hX hT ht h0 hbox h hn hfn hK hc0 hcF1 hcF2
  have hd : ((str F).toList == [100, 101, 102, 105, 110, 101]) = (F == defineT) := by rw [str_toList]; rfl
  by_cases h3 : F = defineT ∧ X ≠ []
  · rw [if_pos h3]
    have hd' : ((str F).toList == [100, 101, 102, 105, 110, 101]) = true := by rw [hd]; simpa using h3.1
    have hd2 : (str F).toList = [100, 101, 102, 105, 110, 101] := by simpa using hd'
    have hE := str_ne8 (l := X) (b := false) (by cases X; exact absurd rfl h3.2; rfl)
    generalize str F = S at *
    generalize str X = Y at *
    clear h3 hd hFl hXl hf
    go_enter Tryz.func35, Tryz.ntmps35
    go_wp2_with fail
    refine (HL.out _ HC0.out).mono ?_
    rintro e w1 ⟨rfl, q, rfl⟩
    go_wp2_with fail
    refine (HC.out _).mono ?_
    rintro e w2 ⟨rfl, hb⟩
    have HH := Lib.hid (HS.out w2 ((below_dr _ q).trans hb))
    clear hb
    go_wp2_with fail
    go_ret
    exact ⟨rfl, HH.out.2.2.2.2, fun h => absurd h (by decide)⟩
  · rw [if_neg h3]
    have hway : F ≠ defineT ∨ (F = defineT ∧ X = []) := by
      by_cases hF : F = defineT
      · exact .inr ⟨hF, Classical.byContradiction fun hX => h3 ⟨hF, hX⟩⟩
      · exact .inl hF
    rcases hway with hF | ⟨hF, hX⟩
    case' inl =>
      have hd' : ((str F).toList == [100, 101, 102, 105, 110, 101]) = false := by rw [hd]; simpa using hF
      have hd2 : ¬ (str F).toList = [100, 101, 102, 105, 110, 101] := by simpa using hd'
    case' inr =>
      have hd' : ((str F).toList == [100, 101, 102, 105, 110, 101]) = true := by rw [hd]; simpa using hF
      have hd2 : (str F).toList = [100, 101, 102, 105, 110, 101] := by simpa using hd'
      have hE := str_ne8 (l := X) (b := true) (by rw [hX]; rfl)
      clear hX
    all_goals
      clear h3 hd hF
      obtain ⟨S, hS⟩ : ∃ S, str F = S := ⟨_, rfl⟩
      have HSF := Lib.hid hS
      obtain ⟨Y, hY⟩ : ∃ Y, str X = Y := ⟨_, rfl⟩
      have HSX := Lib.hid hY
      rw [hS] at HC HW hd' hd2
      rw [hY] at HC
      try rw [hY] at hE
      clear hS hY
      cases hw : wordT F
      · rw [if_pos rfl]
        rw [hw] at HW
        clear hw hFl hXl hf
        go_enter Tryz.func35, Tryz.ntmps35
        go_wp2_with fail
        refine (HL.out _ HC0.out).mono ?_
        rintro e w1 ⟨rfl, q, rfl⟩
        go_wp2_with fail
        refine (HC.out _).mono ?_
        rintro e w2 ⟨rfl, hb⟩
        have HH := Lib.hid (HS.out w2 ((below_dr _ q).trans hb))
        clear hb
        go_wp2_with fail
        refine (HW.out _).mono ?_
        rintro e w' ⟨rfl, rfl⟩
        go_wp2_with fail
        go_ret
        exact ⟨rfl, HH.out.2.2.2.2, fun h => absurd h (by decide)⟩
      · rw [if_neg (by simp)]
        rw [hw] at HW
        clear hw
        cases hh : hasN b F
        · rw [if_neg (by simp)]
          by_cases h64 : 64 ≤ f
          · rw [if_pos h64]
            obtain rfl : f = 64 := by omega
            have HHN := Lib.hid (And.intro hh hFl)
            clear hh hFl hXl hf h64
            go_enter Tryz.func35, Tryz.ntmps35
            go_wp2_with fail
            refine (HL.out _ HC0.out).mono ?_
            rintro e w1 ⟨rfl, q, rfl⟩
            go_wp2_with fail
            refine (HC.out _).mono ?_
            rintro e w2 ⟨rfl, hb⟩
            have HH := Lib.hid (HS.out w2 ((below_dr _ q).trans hb))
            clear hb
            go_wp2_with fail
            have c2 := HH.out.2.2.2.1
            have kF := HH.out.2.2.1
            obtain ⟨V, hV1, hV2, hV3, hV4⟩ := HH.out.1.names.at_ F
            rw [any_names, HHN.out.1] at hV3
            have hlook := hV1.look (k := F) (by have := HHN.out.2; omega)
            rw [hV3, HSF.out] at hlook
            change _ = Result.ok (Value.int .i64 0) w2 at hlook
            clear hV1 hV2 hV3 hV4
            go_wp2_with fail
            refine (HW.out _).mono ?_
            rintro e w' ⟨rfl, rfl⟩
            go_wp2_with fail
            go_ret
            exact ⟨rfl, HH.out.2.2.2.2, fun h => absurd h (by decide)⟩
          · rw [if_neg h64]
            have q : ((f : Int) == 64) = false := beq_eq_false_iff_ne.2 (by omega)
            have q' : ¬ ((f : Int) = 64) := by omega
            have HHN := Lib.hid (And.intro hh hFl)
            clear hh hFl hXl h64
            go_enter Tryz.func35, Tryz.ntmps35
            go_wp2_with fail
            refine (HL.out _ HC0.out).mono ?_
            rintro e w1 ⟨rfl, q, rfl⟩
            go_wp2_with fail
            refine (HC.out _).mono ?_
            rintro e w2 ⟨rfl, hb⟩
            have HH := Lib.hid (HS.out w2 ((below_dr _ q).trans hb))
            clear hb
            have c2 := HH.out.2.2.2.1
            have kF := HH.out.2.2.1
            obtain ⟨V, hV1, hV2, hV3, hV4⟩ := HH.out.1.names.at_ F
            rw [any_names, HHN.out.1] at hV3
            have hlook := hV1.look (k := F) (by have := HHN.out.2; omega)
            rw [hV3, HSF.out] at hlook
            change _ = Result.ok (Value.int .i64 0) w2 at hlook
            have HV := Lib.hid (And.intro hV1 (And.intro hV2 hV4))
            clear hV1 hV2 hV3 hV4
            go_wp2_with fail
            refine (HW.out _).mono ?_
            rintro e w' ⟨rfl, rfl⟩
            go_wp2_with
              (at_mapUpdate
               refine wpList_iput rfl _ _ _ rfl mb V rfl HV.out.1 (by have h1 := HV.out.2.1; have h2 := HN.out.2.1; rw [List.length_map] at h1; omega) F (cnt9 1) (by rw [HSF.out]; rfl) rfl (by have := HHN.out.2; omega) ?_
               intro w3 hm hg
               have HM := Lib.hid (And.intro (HV.out.2.2 w3 hm (by rw [any_names]; exact HHN.out.1)) hg)
               clear hm hg)
            obtain ⟨m1, m2, m3, m4, m5⟩ := HH.out.1.mapped (L := []) HM.out.2
            have hline : w3.heap[w.heap.size]? = some (.cells #[.int .i64 (at_ : Int), .string T] 57 (0, 0)) := m5.kept _ _ _ _ HH.out.2.1 (by decide) (by decide) (by decide)
            have hcell : w3.cell? ⟨gb, K + 2, none⟩ = some (.slice AF f cF) := by
              rw [HN.out.1] at m2
              have hq : ((Z ++ [(iB b, Value.slice AF f cF)]).flatMap bkC)[n * 3 + 2]? = some (.slice AF f cF) := by rw [← HN.out.1]; exact bkcat_last Z (iB b, .slice AF f cF) 2 (by omega)
              have := (m2.cellAt (n * 3 + 2) (by omega)).trans hq
              rw [HN.out.2.2] at this
              exact this
            have k3 := cell_blk hline 0 (v := .int .i64 (at_ : Int)) rfl
            have hcell' : (w3.alloc (.cells #[.int .i64 (at_ : Int), .string S, .string Y] 48)).cell? ⟨gb, K + 2, none⟩ = some (.slice AF f cF) := (World.cell?_of_block (a := ⟨gb, K + 2, none⟩) (Below.heap_alloc w3 _ gb (World.block_lt_of_cell? w3 _ hcell))).trans hcell
            have k3' : (w3.alloc (.cells #[.int .i64 (at_ : Int), .string S, .string Y] 48)).cell? ⟨w.heap.size, 0, none⟩ = some (.int .i64 (at_ : Int)) := cell_blk ((Below.heap_alloc w3 _ _ (blk_lt hline)).trans hline) 0 rfl
            obtain ⟨i0, hi0, hz0, hzz1, hzz2⟩ := info_parts fldInfo
            rw [HN.out.2.1] at m4
            have hB3 : B ≤ w3.heap.size := Nat.le_trans HH.out.1.low.2.2.1 HM.out.2.size
            have HR := Lib.hid (m4.alloc (.cells #[.int .i64 (at_ : Int), .string S, .string Y] 48))
            have HBZ := Lib.hid (show B ≤ (w3.alloc (.cells #[.int .i64 (at_ : Int), .string S, .string Y] 48)).heap.size by rw [World.size_alloc]; omega)
            have HONE := Lib.hid (show ∀ u ∈ [Value.int .i64 (at_ : Int), .string S, .string Y], u.oneCell' = true by
              intro u hu
              simp only [List.mem_cons, List.not_mem_nil, or_false] at hu
              rcases hu with rfl | rfl | rfl <;> rfl)
            clear m1 m2 m3 m4 m5 hline c2 kF hlook hB3
            go_region_law ((refine step_append_lies _ (by rfl) _ _ _ (by rfl) B 48 i0 _ 3 40 Tryz.underlying44 hi0 hz0 hzz1 hzz2 rfl (by omega) (.slice AF f cF) f ((b.2.2.map iF).flatMap fdC) (by rfl) HR.out ⟨w3.heap.size, 0, none⟩ 1 1 [.int .i64 (at_ : Int), .string S, .string Y] (by rfl) (by rfl) (World.news_of_block (cs := #[.int .i64 (at_ : Int), .string S, .string Y]) (t := 48) (fr := (0, 0)) (heap_alloc_new w3 _)) HONE.out (by omega) (by unfold maxLen; omega) (by omega) HBZ.out (w3.heap.size + 1) (by simp) ?_; intro gF capF w4 hown4 hgrow4 _ _; have hfe := field_end HSF.out HSX.out HH.out.1 HN.out.1 HN.out.2.1 HM.out.2 HM.out.1 hown4 hgrow4; rw [HN.out.2.2] at hfe; have kz := hfe.1.1; have fz := hfe.1.2; have HZ := Lib.hid hfe; clear hown4 hgrow4 hfe))
            all_goals
              clear k3 hcell hcell' k3' kz fz
              go_wp2_with fail
              go_ret
              exact ⟨rfl, HH.out.2.2.2.2.trans HZ.out.2.1, fun _ => HZ.out.2.2⟩
        · rw [if_pos rfl]
          have HHN := Lib.hid (And.intro hh hFl)
          clear hh hFl hXl hf
          go_enter Tryz.func35, Tryz.ntmps35
          go_wp2_with fail
          refine (HL.out _ HC0.out).mono ?_
          rintro e w1 ⟨rfl, q, rfl⟩
          go_wp2_with fail
          refine (HC.out _).mono ?_
          rintro e w2 ⟨rfl, hb⟩
          have HH := Lib.hid (HS.out w2 ((below_dr _ q).trans hb))
          clear hb
          have c2 := HH.out.2.2.2.1
          obtain ⟨V, hV1, hV2, hV3, hV4⟩ := HH.out.1.names.at_ F
          rw [any_names, HHN.out.1] at hV3
          have hlook := hV1.look (k := F) (by have := HHN.out.2; omega)
          rw [hV3, HSF.out] at hlook
          change _ = Result.ok (Value.int .i64 1) w2 at hlook
          clear hV1 hV2 hV3 hV4
          go_wp2_with fail
          refine (HW.out _).mono ?_
          rintro e w' ⟨rfl, rfl⟩
          go_wp2_with fail
          go_ret
          exact ⟨rfl, HH.out.2.2.2.2, fun h => absurd h (by decide)⟩
/-- A line: the error's number; the blocks; the block that has no end yet. -/
def st9 (out : List Bk) (cur : Option Bk) (p : Nat × Tx) : Nat × List Bk × Option Bk :=
  match cur with
  | none => ((stB out p).1, out, (stB out p).2)
  | some b => if p.2 = [125] then (0, out ++ [b], none) else ((stF b p).1, out, some (stF b p).2)
theorem prs_st9 (p : Nat × Tx) (r : List (Nat × Tx)) (out : List Bk) (cur : Option Bk) : prs (p :: r) out cur = if (st9 out cur p).1 = 0 then prs r (st9 out cur p).2.1 (st9 out cur p).2.2 else ([], p.1, (st9 out cur p).1) := by
  cases cur with
  | none =>
    rw [prs]
    unfold st9 stB
    simp only []
    cases headT p.2 with
    | none => rfl
    | some k =>
      simp only []
      split
      · rfl
      · split <;> rfl
  | some b =>
    rw [prs]
    unfold st9 stF
    simp only []
    split
    · rfl
    · split
      · rfl
      · split
        · rfl
        · split
          · rfl
          · split <;> rfl
end Go.Proofs.YtbeehedppofpnaaGreatDoor

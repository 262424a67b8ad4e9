/- Law BlockLines: its walk. -/
import Derived.Test.YtbeehedppofpnaaDoorL9Sure
import Derived.Test.YtbeehedppofpnaaDoorL9Num
namespace Go.Proofs.YtbeehedppofpnaaDoor
open Go.RowKit

theorem u64_rem9 (T : Int) (b : Nat) (h0 : 0 < b) : ∃ j : Nat, (IntKind.u64.wrap T).tmod b = (j : Int) ∧ j < b := by
  have e : IntKind.u64.wrap T = T % 18446744073709551616 := by simp [IntKind.wrap, IntKind.bits, IntKind.signed]
  have hn : 0 ≤ IntKind.u64.wrap T := by rw [e]; omega
  rw [Int.tmod_eq_emod_of_nonneg hn]
  have h1 := Int.emod_nonneg (IntKind.u64.wrap T) (show (b : Int) ≠ 0 by omega)
  have h2 := Int.emod_lt_of_pos (IntKind.u64.wrap T) (show (0 : Int) < b by omega)
  exact ⟨((IntKind.u64.wrap T) % b).toNat, by omega, by omega⟩
/-- Numbers that ascend, all beyond a. -/
def Asc (a : Nat) (xs : List Nat) : Prop := xs.Pairwise (· < ·) ∧ ∀ x ∈ xs, a < x
theorem Asc.step {a x : Nat} {r : List Nat} (h : Asc a (x :: r)) : a < x ∧ Asc x r :=
  ⟨h.2 x (by simp), (List.pairwise_cons.1 h.1).2, (List.pairwise_cons.1 h.1).1⟩
/-! Numbers of lines are small. -/
theorem jn_le : ∀ (ps : List Tx) (i a : Nat) (t : Tx), a ≤ i + 1 → ∀ x ∈ jn ps i a t, x.1 ≤ i + ps.length
  | [], _, _, _, _, x, hx => by cases hx
  | p :: ps, i, a, t, h, x, hx => by
    rw [jn] at hx
    rw [List.length_cons]
    split at hx
    · have := jn_le ps (i + 1) a _ (by omega) x hx
      omega
    · rcases List.mem_cons.1 hx with rfl | hx
      · show a ≤ _
        omega
      · have := jn_le ps (i + 1) (i + 2) [] (by omega) x hx
        omega
theorem whole_le (l : Tx) (h : l.length ≤ 65536) : ∀ x ∈ whole l, x.1 ≤ 65538 := fun x hx => by
  have h1 := jn_le _ 0 1 [] (by omega) x hx
  have h2 := cut_len 10 (l ++ [10])
  simp at h2
  omega
theorem scan_line : ∀ (r acc : List (Nat × Tx)), (scan acc r).2.1 = 0 ∨ ∃ p ∈ r, (scan acc r).2.1 = p.1
  | [], acc => .inl rfl
  | p :: r, acc => by
    rw [scan]
    split
    · exact .inr ⟨p, by simp, rfl⟩
    · split
      · rcases scan_line r acc with h | ⟨q, hq, h⟩
        · exact .inl h
        · exact .inr ⟨q, by simp [hq], h⟩
      · rcases scan_line r (acc ++ [(p.1, said p.2)]) with h | ⟨q, hq, h⟩
        · exact .inl h
        · exact .inr ⟨q, by simp [hq], h⟩
theorem prs_line : ∀ (r : List (Nat × Tx)) (out : List Bk) (cur : Option Bk) (N : Nat), (∀ p ∈ r, p.1 ≤ N) → (∀ b, cur = some b → b.1 ≤ N) → (prs r out cur).2.1 ≤ N
  | [], _, none, _, _, _ => Nat.zero_le _
  | [], _, some b, _, _, h => h b rfl
  | p :: r, out, cur, N, h, hc => by
    have hp := h p (by simp)
    have hr : ∀ q ∈ r, q.1 ≤ N := fun q hq => h q (by simp [hq])
    cases cur with
    | none =>
      rw [prs]
      split
      · exact hp
      · split
        · exact hp
        · split
          · exact hp
          · exact prs_line r _ _ N hr fun b hb => by injection hb with hb; subst hb; exact hp
    | some b =>
      rw [prs]
      split
      · exact prs_line r _ _ N hr fun b hb => by cases hb
      · split
        · exact hp
        · split
          · exact hp
          · split
            · exact hp
            · split
              · exact hp
              · exact prs_line r _ _ N hr fun b' hb => by injection hb with hb; subst hb; exact hc b rfl
theorem parse_le (l : Tx) (h : l.length ≤ 65536) : (parseT l).2.1 ≤ 65538 ∧ ((parseT l).2.2 = 0 → ∀ x ∈ (parseT l).1.flatMap numsB, x ≤ 65538) := by
  have ha : ans l = scan [] (whole l) := by unfold ans; rw [if_neg (by omega)]
  have hw := whole_le l h
  unfold parseT
  split
  · rename_i h1
    refine ⟨?_, fun h2 => absurd h2 h1⟩
    rw [ha]
    rcases scan_line (whole l) [] with h2 | ⟨p, hp, h2⟩
    · show (scan [] (whole l)).2.1 ≤ _
      omega
    · show (scan [] (whole l)).2.1 ≤ _
      rw [h2]
      exact hw p hp
  · rename_i h1
    have h0 : (ans l).2.2 = 0 := Classical.not_not.1 h1
    rw [ha] at h0
    have hs := scan_sub (whole l) [] h0
    rw [List.map_nil, List.nil_append] at hs
    have hall : ∀ p ∈ (ans l).1, p.1 ≤ 65538 := fun p hp => by
      rw [ha] at hp
      obtain ⟨q, hq, e⟩ := List.mem_map.1 (hs.subset (List.mem_map_of_mem hp))
      rw [← e]
      exact hw q hq
    refine ⟨prs_line _ _ _ _ hall (fun b hb => by cases hb), fun h2 x hx => ?_⟩
    have h3 := (prs_sub (ans l).1 [] none h2).subset hx
    simp only [List.flatMap_nil, List.nil_append] at h3
    obtain ⟨q, hq, e⟩ := List.mem_map.1 h3
    rw [← e]
    exact hall q hq
set_option maxHeartbeats 4000000 in
set_option maxRecDepth 100000 in
theorem lines_walk (sb : ByteArray) (ah : Int) (w : World) (hm : Mx w) (hg : ErrT w) (hs : sb.size ≤ maxLen) (_ : -9223372036854775808 ≤ ah ∧ ah ≤ 9223372036854775807) :
    Calls Tryd.prog 4 #[.string sb, .int .i64 ah] w fun e w' => e = .returned (.bool true) ∧ Below w.heap.size w w' := by
  obtain ⟨l, rfl⟩ : ∃ l, sb = str l := ⟨sb.data.toList, (str_of sb).symm⟩
  have HSu := Lib.hid (fun W h1 h2 => sure_any9 W h1 h2)
  have HM := Lib.hid (And.intro hm hg)
  obtain ⟨c, hc⟩ : ∃ c, l.length = c := ⟨_, rfl⟩
  have hsz : (str l).size = c := hc
  clear hm hg hs
  by_cases h4 : 4000 < c
  · have d : (4000 : Int) < c := by omega
    generalize str l = S at *
    clear hc h4
    go_enter Tryd.func4, Tryd.ntmps4
    go_wp2_with fail
    with_reducible refine (HSu.out _ HM.out.1 HM.out.2).mono ?_
    rintro e w7 ⟨rfl, hb7⟩
    have HB7 := Lib.hid (hb7)
    clear hb7
    go_wp2_with fail
    go_ret
    exact ret_true9 HB7.out
  · have d : ¬ (4000 : Int) < c := by omega
    have hc4 : c ≤ 4000 := by omega
    obtain ⟨n, hnr, hn6⟩ := u64_rem9 ah 6 (by omega)
    have hnr' : (IntKind.u64.wrap ah).tmod 6 = (n : Int) := hnr
    have hwn : wrap64 ((n : Nat) : Int) = (n : Int) := IntWalk.wrap64_in _ ⟨by omega, by omega⟩
    have hbe : wrap64 ((IntKind.u64.wrap ah).tmod 6) = (n : Int) := by rw [hnr']; exact hwn
    have HP1 := Lib.hid (fun W h1 h2 => parse_any l W (by omega) h1 h2)
    have HP2 := Lib.hid (fun W h1 h2 => parse_any (List.replicate n 10 ++ l) W (by simp; omega) h1 h2)
    rw [parse_shift n l (by omega)] at HP2
    have hasc := And.intro (parse_asc l) (parse_le l (by omega))
    have HN0 := Lib.hid (fun k W h => num_E k W h)
    obtain ⟨R, hR⟩ : ∃ R, parseT l = R := ⟨_, rfl⟩
    rw [hR] at HP1 HP2 hasc
    have HAs := Lib.hid hasc
    have HL := Lib.hid hc
    obtain ⟨S, hS⟩ : ∃ S, str l = S := ⟨_, rfl⟩
    have HS := Lib.hid hS
    rw [hS] at HP1 hsz ⊢
    clear hR hasc hc hS h4 hnr
    obtain ⟨B, ln, er⟩ := R
    unfold shR at HP2
    dsimp only at HP2 HAs
    go_enter Tryd.func4, Tryd.ntmps4
    go_wp2_with fail
    with_reducible refine (HP1.out _ HM.out.1 HM.out.2).mono ?_
    rintro e w1 ⟨v1, rfl, hrow1, hb1⟩
    obtain ⟨A1, c1, rfl, hrow1'⟩ := hrow1.form
    obtain ⟨m, hmB⟩ : ∃ m, B.length = m := ⟨_, rfl⟩
    have hmB1 : (B.map iB).length = m := by rw [List.length_map, hmB]
    have hmB2 : ((B.map (shB n)).map iB).length = m := by rw [List.length_map, List.length_map, hmB]
    rw [hmB1] at hrow1' ⊢
    have hal1 := hb1.alloc hb1.size (.cells #[.int .i64 (ln : Int), .int .i64 (er : Int)] 42)
    have H1 := Lib.hid (And.intro (hrow1'.below ((Below.refl w1.heap.size w1).alloc (Nat.le_refl _) (.cells #[.int .i64 (ln : Int), .int .i64 (er : Int)] 42))) (And.intro hal1 (MapKept.heap_alloc w1 (.cells #[.int .i64 (ln : Int), .int .i64 (er : Int)] 42)).1))
    have HMB := Lib.hid (And.intro hmB hmB2)
    clear hrow1 hrow1' hb1 hal1 hmB hmB1 hmB2
    go_wp2_with fail
    go_loop [9, 10] (fun s i => ∃ j : Nat, i = .int .i64 j ∧ j ≤ n ∧ s = .string (str (List.replicate j 10 ++ l))) (fun _ i => n - (intOf i).toNat)
    case atStart => exact ⟨0, rfl, Nat.zero_le _, congrArg Value.string HS.out.symm⟩
    case round =>
      obtain ⟨j, rfl, hj, rfl⟩ := hrel
      have hszj : (str (List.replicate j 10 ++ l)).size = j + c := by rw [str_size, List.length_append, List.length_replicate, HL.out]
      rcases Nat.lt_or_ge j n with hlt | hge
      · have q0 : (0 : Int) ≤ j := by omega
        have q1 : (j : Int) < n := by omega
        have HJ := Lib.hid ((str_append [10] (List.replicate j 10 ++ l)).trans (congrArg str (show [10] ++ (List.replicate j 10 ++ l) = List.replicate (j + 1) 10 ++ l by rw [List.replicate_succ]; rfl)))
        generalize str (List.replicate j 10 ++ l) = T at *
        go_wp2_with fail
        go_round
        case rel => exact ⟨j + 1, by go_num, hlt, congrArg Value.string HJ.out⟩
        case measure => simp [intOf]; omega
      · obtain rfl : j = n := by omega
        have q1 : ¬ ((j : Int) < j) := by omega
        generalize str (List.replicate j 10 ++ l) = T at *
        obtain ⟨w2, hw2⟩ : ∃ x, w1.alloc (.cells #[.int .i64 (ln : Int), .int .i64 (er : Int)] 42) = x := ⟨_, rfl⟩
        rw [hw2] at H1
        have HMw := Lib.hid (And.intro (HM.out.1.below H1.out.2.1) (HM.out.2.below H1.out.2.1))
        go_wp2_with fail
        with_reducible refine (HP2.out _ HMw.out.1 HMw.out.2).mono ?_
        rintro e w3 ⟨v2, rfl, hrow2, hb2⟩
        obtain ⟨A2, c2, rfl, hrow2'⟩ := hrow2.form
        rw [HMB.out.2] at hrow2' ⊢
        obtain ⟨q2, hq2⟩ : ∃ q2, (if er = 0 then ln else ln + j) = q2 := ⟨_, rfl⟩
        rw [hq2]
        have hal2 := (Below.refl w3.heap.size w3).alloc (Nat.le_refl _) (.cells #[.int .i64 (q2 : Int), .int .i64 (er : Int)] 42)
        have hbb := hb2.trans (hal2.mono hb2.size)
        have H2 := Lib.hid (And.intro (H1.out.1.below hbb) (And.intro (hrow2'.below hal2) (And.intro (H1.out.2.1.trans (hbb.mono H1.out.2.1.size)) (And.intro ((hbb.block _ (blk9_lt H1.out.2.2)).trans H1.out.2.2) (And.intro (MapKept.heap_alloc w3 (.cells #[.int .i64 (q2 : Int), .int .i64 (er : Int)] 42)).1 hq2)))))
        clear hrow2 hrow2' hb2 hal2 hbb hq2
        obtain ⟨w4, hw4⟩ : ∃ x, w3.alloc (.cells #[.int .i64 (q2 : Int), .int .i64 (er : Int)] 42) = x := ⟨_, rfl⟩
        rw [hw4] at H2
        have HMw4 := Lib.hid (And.intro (HM.out.1.below H2.out.2.2.1) (HM.out.2.below H2.out.2.2.1))
        have HNa := Lib.hid (fun W h => HN0.out er W h)
        by_cases her : er = 0
        case' neg =>
          have hee := errE_num her
          unfold errK at hee
          rw [hee] at HNa ⊢
          have HER := Lib.hid her
          clear hee her
        case' pos =>
          have hee : errE er = .nilIface := by rw [her]; exact errE_zero
          rw [hee] at HNa ⊢
          have HER := Lib.hid her
          clear hee her
        all_goals
          go_wp2_with fail
          with_reducible refine (HNa.out _ HMw4.out.2).mono ?_
          rintro e w5 ⟨rfl, hb5⟩
          have HB5 := Lib.hid hb5
          clear hb5
          go_wp2_with fail
          with_reducible refine (HNa.out _ (HMw4.out.2.below HB5.out)).mono ?_
          rintro e w6 ⟨rfl, hb6⟩
          have hb46 := HB5.out.trans (hb6.mono HB5.out.size)
          have HB6 := Lib.hid hb46
          have HMw6 := Lib.hid (And.intro (HMw4.out.1.below hb46) (HMw4.out.2.below hb46))
          clear hb6 hb46 HB5
        · obtain ⟨ha0, ha1⟩ := HAs.out.1 HER.out
          have hle := HAs.out.2.2 HER.out
          have HA := Lib.hid (And.intro (show Asc 0 (B.flatMap numsB) from ⟨ha0, fun x hx => ha1 x hx⟩) hle)
          clear ha0 ha1 hle
          have hj5 : j ≤ 5 := by omega
          have hm9 : m ≤ 9223372036854775807 := Nat.le_trans H2.out.1.parts.2.1 H2.out.1.parts.2.2.1
          go_wp2_with fail
          go_loopw [14, 15] (fun la iv wr => ∃ i a : Nat, iv = .int .i64 i ∧ i ≤ m ∧ la = .int .i64 a ∧ Below w6.heap.size w6 wr ∧ Asc a ((B.drop i).flatMap numsB)) (fun _ iv _ => m - (intOf iv).toNat)
          case atStart => exact ⟨0, 0, rfl, Nat.zero_le _, rfl, Below.refl _ _, HA.out.1⟩
          case round =>
            obtain ⟨i, a, rfl, hi, rfl, hb, has⟩ := hrel
            obtain ⟨wo, hwo⟩ : ∃ x, x = wr := ⟨_, rfl⟩
            subst hwo
            have hb4o := HB6.out.trans (hb.mono HB6.out.size)
            have HO := Lib.hid (And.intro hb hb4o)
            rcases Nat.lt_or_ge i m with hlt2 | hge2
            · have hiB : i < B.length := by rw [HMB.out.1]; exact hlt2
              obtain ⟨b, hbe⟩ : ∃ b, B[i] = b := ⟨_, rfl⟩
              have e1 : (B.map iB)[i]? = some (iB b) := by rw [List.getElem?_map, List.getElem?_eq_getElem hiB, hbe]; rfl
              have e2 : ((B.map (shB j)).map iB)[i]? = some (iB (shB j b)) := by rw [List.getElem?_map, List.getElem?_map, List.getElem?_eq_getElem hiB, hbe]; rfl
              obtain ⟨ad, X, vF, rfl, hX, k0, k1, k2, hrf⟩ := (H2.out.1.below hb4o).parts.2.2.2 i hlt2 _ e1
              obtain ⟨ae, Y, vG, rfl, hY, g0, g1, g2, hrg⟩ := (H2.out.2.1.below hb4o).parts.2.2.2 i hlt2 _ e2
              obtain ⟨AF, cF, rfl, hrF⟩ := hrf.form
              obtain ⟨AG, cG, rfl, hrG⟩ := hrg.form
              obtain ⟨f, hf⟩ : ∃ f, b.2.2.length = f := ⟨_, rfl⟩
              have hf1 : (iB b).2.2.length = f := by rw [← hf]; exact List.length_map _
              have hf2 : (iB (shB j b)).2.2.length = f := by
                rw [← hf]
                show ((b.2.2.map _).map iF).length = _
                rw [List.length_map, List.length_map]
              rw [hf1] at k2 hrF
              rw [hf2] at g2
              have hfc : f ≤ 9223372036854775807 := Nat.le_trans hrF.parts.2.1 hrF.parts.2.2.1
              have k0' : wo.cell? X = some (.int .i64 (b.1 : Int)) := k0
              obtain ⟨y, hy⟩ : ∃ y, b.1 + j = y := ⟨_, rfl⟩
              have g0' : wo.cell? Y = some (.int .i64 (y : Int)) := by rw [← hy]; exact g0
              rw [List.drop_eq_getElem_cons hiB, hbe, List.flatMap_cons] at has
              have has' : Asc a (b.1 :: (b.2.2.map (·.1) ++ (B.drop (i + 1)).flatMap numsB)) := has
              have hmem : b ∈ B := by rw [← hbe]; exact List.getElem_mem hiB
              have hb1 : b.1 ≤ 65538 := HA.out.2 b.1 (List.mem_flatMap.2 ⟨b, hmem, by simp [numsB]⟩)
              obtain ⟨t, ht⟩ : ∃ t, b.1 = t := ⟨_, rfl⟩
              rw [ht] at k0' hy hb1
              have hlt3 := has'.step.1
              rw [ht] at hlt3
              have HS2 := Lib.hid (And.intro has'.step.2 (And.intro ht (And.intro hf hrF)))
              have s0 : ¬ ((t : Int) ≤ a) := by omega
              have s1 : (t : Int) + j = y := by omega
              have s2 : IntKind.i64.wrap ((t : Int) + j) = (y : Int) := by rw [s1]; exact IntWalk.i64_in _ (by omega)
              have s6 : IntKind.i64.wrap (y : Int) = (y : Int) := IntWalk.i64_in _ (by omega)
              have s7 : ((y : Int) != (y : Int)) = false := by simp
              have s8 : decide (t ≤ a) = false := decide_eq_false (by omega)
              have s3 : decide ((t : Int) ≤ a) = false := decide_eq_false s0
              have s4 : ((y : Int) == (y : Int)) = true := beq_self_eq_true _
              have s5 : ((f : Int) == (f : Int)) = true := beq_self_eq_true _
              have q0' : (0 : Int) ≤ i := by omega
              have q1' : (i : Int) < m := by omega
              clear has has' hrf hrg hrG hrF k0 k1 g0 g1 e1 e2 hbe ht hf hf1 hf2 hy hmem hb hb4o
              go_wp2_with fail
              go_quiet (fail)
              clear s0 s1 s2 s3 s4 s5 s6 s7 s8 g0' g2
              go_wp2_with fail
              go_loopw [14, 16] (fun la kv wr => ∃ k a2 : Nat, kv = .int .i64 k ∧ k ≤ f ∧ la = .int .i64 a2 ∧ Below wo.heap.size wo wr ∧ Asc a2 ((b.2.2.drop k).map (·.1) ++ (B.drop (i + 1)).flatMap numsB)) (fun _ kv _ => f - (intOf kv).toNat)
              case atStart => exact ⟨0, t, rfl, Nat.zero_le _, rfl, below_dr _ _, by rw [← HS2.out.2.1]; exact HS2.out.1⟩
              case round =>
                obtain ⟨k, a2, rfl, hk, rfl, hb2, has2⟩ := hrel
                have HI := Lib.hid (And.intro hb2 has2)
                have k2' := cell9_below k2 hb2
                rcases Nat.lt_or_ge k f with hlt5 | hge5
                · have hkf : k < b.2.2.length := by rw [HS2.out.2.2.1]; exact hlt5
                  have e3 : (iB b).2.2[k]? = some (iF b.2.2[k]) := by
                    show (b.2.2.map iF)[k]? = _
                    rw [List.getElem?_map, List.getElem?_eq_getElem hkf]
                    rfl
                  obtain ⟨ag, X3, rfl, hX3, f0, f1, f2⟩ := (HS2.out.2.2.2.below hb2).parts.2.2.2 k hlt5 _ e3
                  obtain ⟨t2, ht2⟩ : ∃ t2, b.2.2[k].1 = t2 := ⟨_, rfl⟩
                  have f0' : wr.cell? X3 = some (.int .i64 (t2 : Int)) := by rw [← ht2]; exact f0
                  rw [List.drop_eq_getElem_cons hkf, List.map_cons, List.cons_append, ht2] at has2
                  have hlt6 := has2.step.1
                  have HA2 := Lib.hid has2.step.2
                  have s0 : ¬ ((t2 : Int) ≤ a2) := by omega
                  have s8 : decide (t2 ≤ a2) = false := decide_eq_false (by omega)
                  have p0 : (0 : Int) ≤ k := by omega
                  have p1 : (k : Int) < f := by omega
                  clear has2 hb2 f0 f1 f2 e3 ht2 hkf
                  go_wp2_with fail
                  exact ⟨⟨k + 1, t2, by go_num, hlt5, rfl, HI.out.1, HA2.out⟩, by simp [intOf]; omega⟩
                · obtain rfl : k = f := by omega
                  have p1 : ¬ ((k : Int) < k) := by omega
                  clear has2 hb2
                  go_wp2_with fail
                  refine ⟨⟨i + 1, a2, by go_num, hlt2, rfl, HO.out.1.trans (HI.out.1.mono HO.out.1.size), ?_⟩, by simp [intOf]; omega⟩
                  have h := HI.out.2
                  rw [List.drop_eq_nil_of_le (by rw [HS2.out.2.2.1]; exact Nat.le_refl _), List.map_nil, List.nil_append] at h
                  exact h
            · obtain rfl : i = m := by omega
              have q1' : ¬ ((i : Int) < i) := by omega
              clear has hb hb4o
              go_wp2_with fail
              with_reducible refine (HSu.out _ (HMw6.out.1.below HO.out.1) (HMw6.out.2.below HO.out.1)).mono ?_
              rintro e w7 ⟨rfl, hb7⟩
              have HB7 := Lib.hid (hb7)
              clear hb7
              go_wp2_with fail
              go_ret
              have hb06 := H2.out.2.2.1.trans (HO.out.2.mono H2.out.2.2.1.size)
              exact ret_true9 (hb06.trans (HB7.out.mono hb06.size))
        · have hpl1 := (HB6.out.block _ (blk9_lt H2.out.2.2.2.1)).trans H2.out.2.2.2.1
          have hpl2 := (HB6.out.block _ (blk9_lt H2.out.2.2.2.2.1)).trans H2.out.2.2.2.2.1
          have hq := H2.out.2.2.2.2.2
          rw [if_neg HER.out] at hq
          have hln := HAs.out.2.1
          have y0 := cell_blk hpl1 0 (v := .int .i64 (ln : Int)) rfl
          have y1 := cell_blk hpl1 1 (v := .int .i64 (er : Int)) rfl
          have z0 := cell_blk hpl2 0 (v := .int .i64 (q2 : Int)) rfl
          have z1 := cell_blk hpl2 1 (v := .int .i64 (er : Int)) rfl
          have hsum : (ln : Int) + j = q2 := by omega
          have hwr : IntKind.i64.wrap ((ln : Int) + j) = (q2 : Int) := by rw [hsum]; exact IntWalk.i64_in _ (by omega)
          have hee : ((er : Int) == (er : Int)) = true := beq_self_eq_true _
          have hqq : ((q2 : Int) == (q2 : Int)) = true := beq_self_eq_true _
          have hway : (ln = 0 ∧ q2 = 0) ∨ (ln = 0 ∧ q2 ≠ 0) ∨ ln ≠ 0 := by omega
          clear hpl1 hpl2 hq
          rcases hway with ⟨h1, h2⟩ | ⟨h1, h2⟩ | h1
          case' inl =>
            have t1 : ((ln : Int) == 0) = true := by simp [h1]
            have t2 : ((q2 : Int) == 0) = true := by simp [h2]
            have t3 : (ln : Int) = 0 := by omega
            have t4 : (q2 : Int) = 0 := by omega
          case' inr.inl =>
            have t1 : ((ln : Int) == 0) = true := by simp [h1]
            have t2 : ((q2 : Int) == 0) = false := beq_eq_false_iff_ne.2 (by omega)
            have t3 : (ln : Int) = 0 := by omega
            have t4 : ¬ (q2 : Int) = 0 := by omega
          case' inr.inr =>
            have t1 : ((ln : Int) == 0) = false := beq_eq_false_iff_ne.2 (by omega)
            have t3 : ¬ (ln : Int) = 0 := by omega
          all_goals
            go_wp2_with fail
            with_reducible refine (HSu.out _ HMw6.out.1 HMw6.out.2).mono ?_
            rintro e w7 ⟨rfl, hb7⟩
            have HB7 := Lib.hid (hb7)
            clear hb7
            go_wp2_with fail
            go_ret
            have hb06 := H2.out.2.2.1.trans (HB6.out.mono H2.out.2.2.1.size)
            exact ret_true9 (hb06.trans (HB7.out.mono hb06.size))
end Go.Proofs.YtbeehedppofpnaaDoor

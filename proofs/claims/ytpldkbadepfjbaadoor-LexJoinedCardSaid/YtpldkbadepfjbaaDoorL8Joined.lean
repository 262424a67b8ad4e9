/- LexJoined's walk. -/
import Derived.Test.YtpldkbadepfjbaaDoorL8Plain
import Derived.Test.YtpldkbadepfjbaaDoorL8Long
namespace Go.Proofs.YtpldkbadepfjbaaDoor
open Go.RowKit

/-- The lines so far, each but the last of all with a stroke and an end. -/
def man8 : List Tx → Nat → Nat → Tx
  | [], _, _ => []
  | p :: r, i, n => p ++ (if i + 1 < n then [92, 10] else []) ++ man8 r (i + 1) n
theorem man8_snoc : ∀ (l : List Tx) (p : Tx) (i n : Nat), man8 (l ++ [p]) i n = man8 l i n ++ p ++ (if i + l.length + 1 < n then [92, 10] else [])
  | [], p, i, n => by simp [man8]
  | q :: l, p, i, n => by
    rw [List.cons_append, man8, man8_snoc l p (i + 1) n, man8, List.length_cons]
    have e : i + 1 + l.length + 1 = i + (l.length + 1) + 1 := by omega
    rw [e]
    simp
theorem man8_all : ∀ (l : List Tx) (i n : Nat), l ≠ [] → i + l.length = n → man8 l i n = manyT l
  | [], _, _, h, _ => absurd rfl h
  | [p], i, n, _, h => by
    rw [man8, if_neg (by simp at h; omega), man8, manyT]
    simp
  | p :: q :: r, i, n, _, h => by
    rw [man8, if_pos (by simp at h; omega), man8_all (q :: r) (i + 1) n (by simp) (by simp at h ⊢; omega), manyT]
theorem man8_take (l : List Tx) (j n : Nat) (hj : j < l.length) (hn : l.length = n) : man8 (l.take (j + 1)) 0 n = man8 (l.take j) 0 n ++ l[j] ++ (if j + 1 < n then [92, 10] else []) := by
  rw [List.take_succ_eq_append_getElem hj, man8_snoc, List.length_take, Nat.min_eq_left (by omega), Nat.zero_add]
theorem man8_len : ∀ (l : List Tx) (i n : Nat), (∀ p ∈ l, p.length ≤ 100) → (man8 l i n).length ≤ l.length * 102
  | [], _, _, _ => by simp [man8]
  | p :: l, i, n, h => by
    have h1 := man8_len l (i + 1) n fun q hq => h q (by simp [hq])
    have h2 := h p (by simp)
    rw [man8, List.length_append, List.length_append, List.length_cons, Nat.add_mul]
    have h3 : (if i + 1 < n then ([92, 10] : Tx) else []).length ≤ 2 := by split <;> simp
    omega
theorem flat8_len : ∀ (l : List Tx), (∀ p ∈ l, p.length ≤ 100) → (l.flatten).length ≤ l.length * 100
  | [], _ => by simp
  | p :: l, h => by
    have h1 := flat8_len l fun q hq => h q (by simp [hq])
    have h2 := h p (by simp)
    rw [List.flatten_cons, List.length_append, List.length_cons, Nat.add_mul]
    omega
theorem flat8_take (l : List Tx) (j : Nat) (hj : j < l.length) : (l.take (j + 1)).flatten = (l.take j).flatten ++ l[j] := by
  rw [List.take_succ_eq_append_getElem hj, List.flatten_append]
  simp
theorem manyT_len : ∀ (l : List Tx), (∀ p ∈ l, p.length ≤ 100) → (manyT l).length ≤ l.length * 102
  | [], _ => by simp [manyT]
  | [p], h => by
    have h2 := h p (by simp)
    simp [manyT]
    omega
  | p :: q :: r, h => by
    have h1 := manyT_len (q :: r) fun x hx => h x (by simp only [List.mem_cons] at hx ⊢; exact .inr hx)
    have h2 := h p (by simp)
    rw [manyT]
    simp only [List.length_append, List.length_cons, List.length_nil] at h1 ⊢
    omega
/-- What both texts say. -/
def jnL (n : Nat) (one : Tx) (last : Nat) : List (Nat × Tx) := (if said one = [] then [] else [(n + 1, said one)]) ++ [(last, lastT)]
theorem both_ans (n : Nat) (l : List Tx) (hne : l ≠ []) (h : ∀ p ∈ l, Ok8 p) (h20 : l.length ≤ 20) (hn : n ≤ 5) :
    ans (List.replicate n 10 ++ l.flatten ++ 10 :: lastT) = (jnL n l.flatten (n + 2), 0, 0) ∧ ans (List.replicate n 10 ++ manyT l ++ 10 :: lastT) = (jnL n l.flatten (n + l.length + 1), 0, 0) := by
  have hf := flat8_len l fun p hp => (h p hp).2.2
  have hm := manyT_len l fun p hp => (h p hp).2.2
  have hno : ∀ p ∈ l, 10 ∉ p ∧ 92 ∉ p := fun p hp => ⟨(h p hp).1, (h p hp).2.1⟩
  constructor
  · have h1 := join_one n [l.flatten] (by simp) (fun p hp => by
      rw [List.mem_singleton.1 hp]
      constructor
      · intro hm
        obtain ⟨q, hq, hm⟩ := List.mem_flatten.1 hm
        exact (hno q hq).1 hm
      · intro hm
        obtain ⟨q, hq, hm⟩ := List.mem_flatten.1 hm
        exact (hno q hq).2 hm) (by simp at hf ⊢; omega) hn (by simp [manyT] at hf ⊢; omega)
    have e : ([l.flatten] : List Tx).flatten = l.flatten := by simp
    rw [e] at h1
    exact h1
  · exact join_one n l hne hno (by omega) hn (by omega)
theorem both_facts (n : Nat) (l : List Tx) (hne : l ≠ []) (h : ∀ p ∈ l, Ok8 p) (h20 : l.length ≤ 20) (hn : n ≤ 5) :
    ∃ (q : Nat) (L1 L2 : List (Nat × Tx)), ans (List.replicate n 10 ++ l.flatten ++ 10 :: lastT) = (L1, 0, 0) ∧ ans (List.replicate n 10 ++ manyT l ++ 10 :: lastT) = (L2, 0, 0) ∧
      L1.length = q + 1 ∧ L2.length = q + 1 ∧ (∀ (i : Nat) h1 h2, (L1[i]'h1).2 = (L2[i]'h2).2) ∧ (∀ h1, L2[q]'h1 = (n + l.length + 1, lastT)) ∧ (q = 0 ∨ q = 1 ∧ ∀ h1, (L2[0]'h1).1 = n + 1) := by
  obtain ⟨e1, e2⟩ := both_ans n l hne h h20 hn
  by_cases h0 : said l.flatten = []
  · refine ⟨0, _, _, e1, e2, ?_, ?_, ?_, ?_, .inl rfl⟩
    · unfold jnL; rw [if_pos h0]; rfl
    · unfold jnL; rw [if_pos h0]; rfl
    · unfold jnL
      simp only [if_pos h0, List.nil_append]
      intro i h1 h2
      match i, h1 with
      | 0, _ => rfl
    · unfold jnL
      simp only [if_pos h0, List.nil_append]
      intro _
      rfl
  · refine ⟨1, _, _, e1, e2, ?_, ?_, ?_, ?_, .inr ⟨rfl, ?_⟩⟩
    · unfold jnL; rw [if_neg h0]; rfl
    · unfold jnL; rw [if_neg h0]; rfl
    · unfold jnL
      simp only [if_neg h0]
      intro i h1 h2
      match i, h1 with
      | 0, _ => rfl
      | 1, _ => rfl
    · unfold jnL
      simp only [if_neg h0]
      intro _
      rfl
    · unfold jnL
      simp only [if_neg h0]
      intro _
      rfl
set_option maxHeartbeats 4000000 in
set_option maxRecDepth 100000 in
theorem lexJoined_any (A : Option Addr) (c : Nat) (l : List Tx) (ah : Int) (w : World) (hm : Mx w) (hr : RdS w A l) (hc : l.length ≤ c) (hcm : c ≤ maxLen) (hx : ∀ x ∈ l, x.length ≤ maxLen) (_ : -9223372036854775808 ≤ ah ∧ ah ≤ 9223372036854775807) :
    Calls Tryd.prog 7 #[.slice A l.length c, .int .i64 ah] w fun e w' => e = .returned (.bool true) ∧ Below w.heap.size w w' := by
  obtain ⟨n, hn⟩ : ∃ n, l.length = n := ⟨_, rfl⟩
  rw [hn] at hc ⊢
  have hc63 : c ≤ 9223372036854775807 := hcm
  have HSu := Lib.hid (fun W h => sure_any W h)
  have HM := Lib.hid hm
  have HL := Lib.hid (And.intro hn (And.intro hr hx))
  clear hm hr hx hn hcm
  have key : n = 0 ∨ 20 < n ∨ (1 ≤ n ∧ n ≤ 20) := by omega
  rcases key with h0 | h20 | ⟨hn1, hn20⟩
  · subst h0
    go_enter Tryd.func7, Tryd.ntmps7
    go_wp2_with fail
    refine (HSu.out _ HM.out).mono ?_
    rintro e w' ⟨rfl, hb⟩
    have HB := Lib.hid hb
    clear hb
    go_wp2_with fail
    go_ret
    exact ret_true8 HB.out
  · have d0 : ((n : Int) == 0) = false := beq_eq_false_iff_ne.2 (by omega)
    have d1 : (20 : Int) < n := by omega
    go_enter Tryd.func7, Tryd.ntmps7
    go_wp2_with fail
    refine (HSu.out _ HM.out).mono ?_
    rintro e w' ⟨rfl, hb⟩
    have HB := Lib.hid hb
    clear hb
    go_wp2_with fail
    go_ret
    exact ret_true8 HB.out
  · have d0 : ((n : Int) == 0) = false := beq_eq_false_iff_ne.2 (by omega)
    have d1 : ¬ ((20 : Int) < n) := by omega
    obtain ⟨b, hb, hb2⟩ := u64_rem8 ah 5 (by omega)
    have hb' : (IntKind.u64.wrap ah).tmod 5 = (b : Int) := hb
    have hwb : wrap64 (b : Int) = (b : Int) := IntWalk.wrap64_in _ ⟨by omega, by omega⟩
    have hbe : wrap64 ((IntKind.u64.wrap ah).tmod 5) = (b : Int) := by rw [hb']; exact hwb
    clear hb
    go_enter Tryd.func7, Tryd.ntmps7
    go_wp2_with fail
    go_loop [5, 6, 7] (fun s t i => ∃ j : Nat, i = .int .i64 j ∧ j ≤ n ∧ s = .string (str (l.take j).flatten) ∧ t = .string (str (man8 (l.take j) 0 n)) ∧ ∀ x ∈ l.take j, Ok8 x) (fun _ _ i => n - (intOf i).toNat)
    case atStart => exact ⟨0, rfl, Nat.zero_le _, rfl, rfl, fun x hx => by simp at hx⟩
    case round =>
      obtain ⟨j, rfl, hj, rfl, rfl, hok⟩ := hrel
      have HB := Lib.hid hok
      have hl2 : (l.take j).length ≤ 20 := by rw [List.length_take]; omega
      have hs1 : ((l.take j).flatten).length ≤ 2000 := by
        have h1 := flat8_len (l.take j) fun p hp => (hok p hp).2.2
        omega
      have hs2 : (man8 (l.take j) 0 n).length ≤ 2040 := by
        have h1 := man8_len (l.take j) 0 n fun p hp => (hok p hp).2.2
        omega
      clear hok hl2
      rcases Nat.lt_or_ge j n with hlt | hge
      · have hjl : j < l.length := by rw [HL.out.1]; exact hlt
        obtain ⟨ad, rfl, k0⟩ := HL.out.2.1.at_ (k := j) (by rw [List.length_map]; exact hjl)
        rw [List.getElem_map] at k0
        have q0 : (0 : Int) ≤ j := by omega
        have q1 : (j : Int) < n := by omega
        obtain ⟨x, hx⟩ : ∃ x, l[j] = x := ⟨_, rfl⟩
        have hxm : x.length ≤ 9223372036854775807 := HL.out.2.2 x (by rw [← hx]; exact List.getElem_mem hjl)
        rw [hx] at k0
        have k0' : w.cell? (ad.add j) = some (.string (str x)) := k0
        obtain ⟨m, hmx⟩ : ∃ m, x.length = m := ⟨_, rfl⟩
        have hsx : (str x).size = m := hmx
        rw [hmx] at hxm
        have HX := Lib.hid (And.intro hx hmx)
        obtain ⟨X, hX⟩ : ∃ X, str x = X := ⟨_, rfl⟩
        have HXe := Lib.hid hX
        rw [hX] at k0' hsx
        clear hx hmx hX k0
        obtain ⟨S, hS⟩ : ∃ S, str (l.take j).flatten = S := ⟨_, rfl⟩
        obtain ⟨T, hT⟩ : ∃ T, str (man8 (l.take j) 0 n) = T := ⟨_, rfl⟩
        have hSs : S.size ≤ 2000 := by rw [← hS]; exact hs1
        have hTs : T.size ≤ 2040 := by rw [← hT]; exact hs2
        have HST := Lib.hid (And.intro hS hT)
        rw [hS, hT]
        clear hS hT hs1 hs2
        by_cases h100 : 100 < m
        · have q2 : (100 : Int) < m := by omega
          go_wp2_with fail
          refine (HSu.out _ HM.out).mono ?_
          rintro e w' ⟨rfl, hb⟩
          have HB2 := Lib.hid hb
          clear hb
          go_wp2_with fail
          go_ret
          exact ret_true8 HB2.out
        · have q2 : ¬ ((100 : Int) < m) := by omega
          go_wp2_with fail
          go_loop [8] (fun v => ∃ q : Nat, v = .int .i64 q ∧ q ≤ m ∧ ∀ c ∈ x.take q, c ≠ 10 ∧ c ≠ 92) (fun v => m - (intOf v).toNat)
          case atStart => exact ⟨0, rfl, Nat.zero_le _, fun c hc => by simp at hc⟩
          case round =>
            obtain ⟨q, rfl, hq, hno⟩ := hrel
            have HNo := Lib.hid hno
            clear hno
            rcases Nat.lt_or_ge q m with hlt2 | hge2
            · obtain ⟨b, r, e1, e2, S', e3, hs', hxq, _⟩ := at_facts x m q HX.out.2 hlt2
              obtain rfl : S' = X := e3.symm.trans HXe.out
              have g1 : (q : Int) < m := by omega
              have g0 : (0 : Int) ≤ q := by omega
              have HE := Lib.hid (And.intro e1 e2)
              clear e1 e2 e3
              by_cases hb10 : b = 10
              · have hbI : (b.toNat : Int) = 10 := by rw [hb10]; rfl
                clear hb10
                go_wp2_with fail
                refine (HSu.out _ HM.out).mono ?_
                rintro e w' ⟨rfl, hb⟩
                have HB2 := Lib.hid hb
                clear hb
                go_wp2_with fail
                go_ret
                exact ret_true8 HB2.out
              · have hbn : ¬ ((b.toNat : Int) = 10) := fun h => hb10 (UInt8.toNat_inj.1 (by have : (10 : UInt8).toNat = 10 := rfl; omega))
                have hbb : (((b.toNat : Int)) == 10) = false := by simpa using hbn
                by_cases hb92 : b = 92
                · have hbI : (((b.toNat : Int)) == 92) = true := by rw [hb92]; rfl
                  clear hb92 hb10
                  go_wp2_with fail
                  refine (HSu.out _ HM.out).mono ?_
                  rintro e w' ⟨rfl, hb⟩
                  have HB2 := Lib.hid hb
                  clear hb
                  go_wp2_with fail
                  go_ret
                  exact ret_true8 HB2.out
                · have hbI : (((b.toNat : Int)) == 92) = false := by
                    rw [beq_eq_false_iff_ne]
                    exact fun h => hb92 (UInt8.toNat_inj.1 (by have : (92 : UInt8).toNat = 92 := rfl; omega))
                  have HN := Lib.hid (And.intro hb10 hb92)
                  clear hb92 hb10
                  go_wp2_with fail
                  go_round
                  case rel =>
                    refine ⟨q + 1, by go_num, hlt2, fun c hc => ?_⟩
                    have hqx : q < x.length := by rw [HX.out.2]; exact hlt2
                    rw [List.take_succ_eq_append_getElem hqx] at hc
                    have h1 := HE.out.1
                    rw [List.drop_eq_getElem_cons hqx] at h1
                    injection h1 with h1 _
                    rcases List.mem_append.1 hc with hc | hc
                    · exact HNo.out c hc
                    · rw [List.mem_singleton.1 hc, h1]
                      exact HN.out
                  case measure => simp [intOf]; omega
            · have hqm : q = m := by omega
              subst hqm
              have g1 : ¬ ((q : Int) < q) := by omega
              have HOk : Hid (∀ y ∈ l.take (j + 1), Ok8 y) := by
                have h1 := HNo.out
                rw [List.take_of_length_le (by rw [HX.out.2]; exact Nat.le_refl _)] at h1
                intro y hy
                rw [List.take_succ_eq_append_getElem hjl] at hy
                rcases List.mem_append.1 hy with hy | hy
                · exact HB.out y hy
                · rw [List.mem_singleton.1 hy, HX.out.1]
                  exact ⟨fun h => (h1 _ h).1 rfl, fun h => (h1 _ h).2 rfl, by rw [HX.out.2]; omega⟩
              have L2 : ({ data := #[92, 10] } : ByteArray).size = 2 := rfl
              obtain ⟨z1, r1, f1, y1⟩ := add_named S X (by omega) (by omega)
              obtain ⟨z2, r2, f2, y2⟩ := add_named T X (by omega) (by omega)
              obtain ⟨z3, r3, f3, y3⟩ := add_named z2 { data := #[92, 10] } (by omega) (by omega)
              have HZ1 : Hid (z1 = str (l.take (j + 1)).flatten) := by
                unfold Hid
                rw [f1, ← HST.out.1, ← HXe.out, flat8_take l j hjl, HX.out.1, str_append]
              have hz2 : z2 = str (man8 (l.take j) 0 n ++ x) := by rw [f2, ← HST.out.2, ← HXe.out, str_append]
              have hmt := man8_take l j n hjl HL.out.1
              rw [HX.out.1] at hmt
              by_cases hl1 : j + 1 < n
              · have g2 : (j : Int) < (n : Int) - 1 := by omega
                have HZ3 : Hid (z3 = str (man8 (l.take (j + 1)) 0 n)) := by
                  unfold Hid
                  rw [f3, hz2, hmt, if_pos hl1]
                  exact str_append _ [92, 10]
                clear f1 f2 f3 y1 y2 y3 L2 hz2 hmt
                go_wp2_with fail
                go_round
                case rel => exact ⟨j + 1, by go_num, hlt, congrArg Value.string HZ1.out, congrArg Value.string HZ3.out, HOk.out⟩
                case measure => simp [intOf]; omega
              · have g2 : ¬ ((j : Int) < (n : Int) - 1) := by omega
                have HZ3 : Hid (z2 = str (man8 (l.take (j + 1)) 0 n)) := by
                  unfold Hid
                  rw [hz2, hmt, if_neg hl1, List.append_nil]
                clear f1 f2 f3 y1 y2 y3 L2 hz2 hmt r3
                go_wp2_with fail
                go_round
                case rel => exact ⟨j + 1, by go_num, hlt, congrArg Value.string HZ1.out, congrArg Value.string HZ3.out, HOk.out⟩
                case measure => simp [intOf]; omega
      · obtain rfl : j = n := by omega
        have q1 : ¬ ((j : Int) < j) := by omega
        have htk : l.take j = l := List.take_of_length_le (by rw [HL.out.1]; exact Nat.le_refl _)
        have hok := HB.out
        have hne : l ≠ [] := fun h => by have := HL.out.1; rw [h] at this; simp at this; omega
        rw [htk] at hok hs1 hs2
        simp only [htk]
        rw [man8_all l 0 j hne (by rw [HL.out.1]; omega)] at hs2 ⊢
        obtain ⟨q, L1, L2, a1, a2, hl1, hl2, htx, hlast, hfst⟩ := both_facts b l hne (fun p hp => hok p hp) (by rw [HL.out.1]; exact hn20) (by omega)
        rw [HL.out.1] at hlast
        have hlA : (List.replicate b 10 ++ l.flatten ++ 10 :: lastT).length ≤ 9223372036854775807 := by simp [lastT] at hs1 ⊢; omega
        have hlB : (List.replicate b 10 ++ manyT l ++ 10 :: lastT).length ≤ 9223372036854775807 := by simp [lastT] at hs2 ⊢; omega
        have H1 := Lib.hid (fun W h => lines_any _ W hlA h)
        have H2 := Lib.hid (fun W h => lines_any _ W hlB h)
        have hE0 := errE_zero
        rw [a1] at H1
        rw [a2] at H2
        obtain ⟨z, hz⟩ : ∃ z, b + j + 1 = z := ⟨_, rfl⟩
        obtain ⟨z1, hz1⟩ : ∃ z1, b + 1 = z1 := ⟨_, rfl⟩
        have hzI : (b : Int) + j + 1 = z := by omega
        have hz1I : (b : Int) + 1 = z1 := by omega
        have eA : str (List.replicate b 10) ++ str l.flatten ++ { data := #[10, 108, 97, 115, 116] } = str (List.replicate b 10 ++ l.flatten ++ 10 :: lastT) := by
          show str _ ++ str _ ++ str [10, 108, 97, 115, 116] = _
          rw [str_append, str_append]
          rfl
        have eB : str (List.replicate b 10) ++ str (manyT l) ++ { data := #[10, 108, 97, 115, 116] } = str (List.replicate b 10 ++ manyT l ++ 10 :: lastT) := by
          show str _ ++ str _ ++ str [10, 108, 97, 115, 116] = _
          rw [str_append, str_append]
          rfl
        rw [← eA] at H1
        rw [← eB] at H2
        have hO : (str l.flatten).size ≤ 2000 := hs1
        have hMa : (str (manyT l)).size ≤ 2040 := hs2
        obtain ⟨O, hOe⟩ : ∃ O, str l.flatten = O := ⟨_, rfl⟩
        obtain ⟨M, hMe⟩ : ∃ M, str (manyT l) = M := ⟨_, rfl⟩
        rw [hOe] at H1 hO ⊢
        rw [hMe] at H2 hMa ⊢
        clear hOe hMe eA eB hlA hlB hs1 hs2 a1 a2 hok htk hne
        go_wp2_with fail
        go_loop [10, 11] (fun s i => ∃ y : Nat, i = .int .i64 y ∧ y ≤ b ∧ s = .string (str (List.replicate y 10))) (fun _ i => b - (intOf i).toNat)
        case atStart => exact ⟨0, rfl, Nat.zero_le _, rfl⟩
        case round =>
          obtain ⟨y, rfl, hy, rfl⟩ := hrel
          have hys : (str (List.replicate y 10)).size = y := by rw [str_size, List.length_replicate]
          rcases Nat.lt_or_ge y b with hyl | hyg
          · have g1 : (y : Int) < b := by omega
            have HJ : Hid (str (List.replicate y 10) ++ { data := #[10] } = str (List.replicate (y + 1) 10)) := by
              unfold Hid
              rw [List.replicate_succ']
              exact str_append _ [10]
            generalize str (List.replicate y 10) = N10 at *
            go_wp2_with fail
            go_round
            case rel => exact ⟨y + 1, by go_num, hyl, congrArg Value.string HJ.out⟩
            case measure => simp [intOf]; omega
          · obtain rfl : y = b := by omega
            have g1 : ¬ ((y : Int) < y) := by omega
            generalize str (List.replicate y 10) = N10 at *
            rcases hfst with rfl | ⟨rfl, hf0⟩
            · have hl1' : L1.length = 1 := hl1
              have hl2' : L2.length = 1 := hl2
              have HF := Lib.hid (And.intro hl1' (And.intro hl2' (And.intro htx hlast)))
              clear hl1 hl2 hl1' hl2' htx hlast
              go_wp2_with fail
              refine (H1.out _ HM.out).mono ?_
              rintro e w1 ⟨v, rfl, ⟨A1, c1, rfl, hc1, hc2, hrd⟩, hb1⟩
              have HH1 := Lib.hid (And.intro hrd (And.intro hb1 (HM.out.below hb1)))
              simp only [HF.out.1, hE0] at hc1 ⊢
              clear hrd hb1
              go_wp2_with fail
              refine (H2.out _ HH1.out.2.2).mono ?_
              rintro e w2 ⟨v, rfl, ⟨A2, c2, rfl, hd1, hd2, hrd⟩, hb2⟩
              have HH2 := Lib.hid (And.intro (HH1.out.1.below hb2) (And.intro hrd (And.intro (HH1.out.2.1.trans (hb2.mono HH1.out.2.1.size)) (HH1.out.2.2.below hb2))))
              simp only [HF.out.2.1, hE0] at hd1 ⊢
              clear hrd hb2 hE0
              go_wp2_with fail
              go_loopw [18] (fun v wr => ∃ i : Nat, v = .int .i64 i ∧ i ≤ 1 ∧ Below w2.heap.size w2 wr) (fun v _ => 1 - (intOf v).toNat)
              case atStart => exact ⟨0, rfl, Nat.zero_le _, Below.refl _ _⟩
              case round =>
                obtain ⟨i, rfl, hi, hb3⟩ := hrel
                have HB3 := Lib.hid hb3
                clear hb3
                rcases Nat.lt_or_ge i 1 with hlt3 | hge3
                · have g0 : (0 : Int) ≤ i := by omega
                  have g1 : (i : Int) < 1 := by omega
                  obtain ⟨ad, X, rfl, hX, _, k1⟩ := (HH2.out.1.below HB3.out).two i (by rw [HF.out.1]; exact hlt3)
                  obtain ⟨ad', X', rfl, hX', _, k3⟩ := (HH2.out.2.1.below HB3.out).two i (by rw [HF.out.2.1]; exact hlt3)
                  rw [HF.out.2.2.1 i _ (by rw [HF.out.2.1]; exact hlt3)] at k1
                  obtain ⟨Y, hY⟩ : ∃ Y, str (L2[i]'(by rw [HF.out.2.1]; exact hlt3)).2 = Y := ⟨_, rfl⟩
                  rw [hY] at k1 k3
                  have t1 : (Y.toList == Y.toList) = true := beq_self_eq_true _
                  clear hY
                  go_wp2_with fail
                  go_quiet (fail)
                  go_wp2_with fail
                  refine ⟨⟨i + 1, by go_num, hlt3, HB3.out.trans (below_dr _ _)⟩, by simp [intOf]; omega⟩
                · have g1 : ¬ ((i : Int) < 1) := by omega
                  have hbz := HH2.out.2.2.1.trans (HB3.out.mono HH2.out.2.2.1.size)
                  have HZ := Lib.hid (And.intro hbz (HH2.out.2.2.2.below HB3.out))
                  clear hbz
                  obtain ⟨ad, X, rfl, hX, k4, k5⟩ := (HH2.out.2.1.below HB3.out).two 0 (by rw [HF.out.2.1]; omega)
                  rw [HF.out.2.2.2] at k4 k5
                  have k4' : wr.cell? X = some (.int .i64 (z : Int)) := by rw [k4]; exact congrArg (fun k : Nat => some (Value.int .i64 (k : Int))) hz
                  have k5' : wr.cell? { block := X.block, off := X.off + 1 } = some (.string (str lastT)) := k5
                  have t5 : (str lastT).toList = [108, 97, 115, 116] := str_toList _
                  generalize str lastT = LT at *
                  clear k4 k5
                  go_wp2_with fail
                  refine (HSu.out _ HZ.out.2).mono ?_
                  rintro e w4 ⟨rfl, hb4⟩
                  have H5 := Lib.hid (HZ.out.1.trans (hb4.mono HZ.out.1.size))
                  clear hb4
                  go_wp2_with fail
                  go_ret
                  exact ret_true8 H5.out
            · have hl1' : L1.length = 2 := hl1
              have hl2' : L2.length = 2 := hl2
              have HF := Lib.hid (And.intro hl1' (And.intro hl2' (And.intro htx hlast)))
              have HF0 := Lib.hid hf0
              clear hl1 hl2 hl1' hl2' htx hlast
              clear hf0
              go_wp2_with fail
              refine (H1.out _ HM.out).mono ?_
              rintro e w1 ⟨v, rfl, ⟨A1, c1, rfl, hc1, hc2, hrd⟩, hb1⟩
              have HH1 := Lib.hid (And.intro hrd (And.intro hb1 (HM.out.below hb1)))
              simp only [HF.out.1, hE0] at hc1 ⊢
              clear hrd hb1
              go_wp2_with fail
              refine (H2.out _ HH1.out.2.2).mono ?_
              rintro e w2 ⟨v, rfl, ⟨A2, c2, rfl, hd1, hd2, hrd⟩, hb2⟩
              have HH2 := Lib.hid (And.intro (HH1.out.1.below hb2) (And.intro hrd (And.intro (HH1.out.2.1.trans (hb2.mono HH1.out.2.1.size)) (HH1.out.2.2.below hb2))))
              simp only [HF.out.2.1, hE0] at hd1 ⊢
              clear hrd hb2 hE0
              go_wp2_with fail
              go_loopw [18] (fun v wr => ∃ i : Nat, v = .int .i64 i ∧ i ≤ 2 ∧ Below w2.heap.size w2 wr) (fun v _ => 2 - (intOf v).toNat)
              case atStart => exact ⟨0, rfl, Nat.zero_le _, Below.refl _ _⟩
              case round =>
                obtain ⟨i, rfl, hi, hb3⟩ := hrel
                have HB3 := Lib.hid hb3
                clear hb3
                rcases Nat.lt_or_ge i 2 with hlt3 | hge3
                · have g0 : (0 : Int) ≤ i := by omega
                  have g1 : (i : Int) < 2 := by omega
                  obtain ⟨ad, X, rfl, hX, _, k1⟩ := (HH2.out.1.below HB3.out).two i (by rw [HF.out.1]; exact hlt3)
                  obtain ⟨ad', X', rfl, hX', _, k3⟩ := (HH2.out.2.1.below HB3.out).two i (by rw [HF.out.2.1]; exact hlt3)
                  rw [HF.out.2.2.1 i _ (by rw [HF.out.2.1]; exact hlt3)] at k1
                  obtain ⟨Y, hY⟩ : ∃ Y, str (L2[i]'(by rw [HF.out.2.1]; exact hlt3)).2 = Y := ⟨_, rfl⟩
                  rw [hY] at k1 k3
                  have t1 : (Y.toList == Y.toList) = true := beq_self_eq_true _
                  clear hY
                  go_wp2_with fail
                  go_quiet (fail)
                  go_wp2_with fail
                  refine ⟨⟨i + 1, by go_num, hlt3, HB3.out.trans (below_dr _ _)⟩, by simp [intOf]; omega⟩
                · have g1 : ¬ ((i : Int) < 2) := by omega
                  have hbz := HH2.out.2.2.1.trans (HB3.out.mono HH2.out.2.2.1.size)
                  have HZ := Lib.hid (And.intro hbz (HH2.out.2.2.2.below HB3.out))
                  clear hbz
                  obtain ⟨ad, X, rfl, hX, k4, k5⟩ := (HH2.out.2.1.below HB3.out).two 1 (by rw [HF.out.2.1]; omega)
                  rw [HF.out.2.2.2] at k4 k5
                  have k4' : wr.cell? X = some (.int .i64 (z : Int)) := by rw [k4]; exact congrArg (fun k : Nat => some (Value.int .i64 (k : Int))) hz
                  have k5' : wr.cell? { block := X.block, off := X.off + 1 } = some (.string (str lastT)) := k5
                  have t5 : (str lastT).toList = [108, 97, 115, 116] := str_toList _
                  obtain ⟨ad', X', e', hX', k6, _⟩ := (HH2.out.2.1.below HB3.out).two 0 (by rw [HF.out.2.1]; omega)
                  injection e' with e'
                  subst e'
                  rw [HF0.out] at k6
                  have k6' : wr.cell? X' = some (.int .i64 (z1 : Int)) := by rw [k6]; exact congrArg (fun k : Nat => some (Value.int .i64 (k : Int))) hz1
                  generalize str lastT = LT at *
                  clear k4 k5
                  clear k6
                  go_wp2_with fail
                  refine (HSu.out _ HZ.out.2).mono ?_
                  rintro e w4 ⟨rfl, hb4⟩
                  have H5 := Lib.hid (HZ.out.1.trans (hb4.mono HZ.out.1.size))
                  clear hb4
                  go_wp2_with fail
                  go_ret
                  exact ret_true8 H5.out
end Go.Proofs.YtpldkbadepfjbaaDoor

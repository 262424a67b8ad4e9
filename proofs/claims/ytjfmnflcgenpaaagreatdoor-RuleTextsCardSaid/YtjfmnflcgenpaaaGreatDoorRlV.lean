/- Contract: the document's number. -/
import Derived.Test.YtjfmnflcgenpaaaGreatDoorRlU
import Derived.Test.YtjfmnflcgenpaaaGreatDoorRlK
namespace Go.Proofs.YtjfmnflcgenpaaaGreatDoor
open Go.RowKit

theorem slice_from (S : ByteArray) (a : Nat) (h2 : a ≤ S.size) (W : World) : (Instr.slice 9 (Value.string S) (some (Value.int IntKind.i64 a)) none none).run Tryz.prog W = .ok (.string (S.extract a S.size)) W := by
  rw [run_slice_string_from_if W _ _ _ _ Tryz.underlying9, if_pos (by omega)]
  rw [Int.toNat_natCast]
theorem take9 {t : List UInt8} {k m : Nat} (h : Lib.decFrom 0 (t.take k) = some m) (h9 : t.length ≤ 9) : m < 1000000000 := by
  have h1 := decFrom_lt _ _ _ h
  have h2 : (t.take k).length ≤ 9 := by rw [List.length_take]; omega
  have h3 : 10 ^ (t.take k).length ≤ 10 ^ 9 := Nat.pow_le_pow_right (by omega) h2
  omega

set_option maxRecDepth 100000 in
set_option maxHeartbeats 4000000 in
theorem number_pos (t : List UInt8) (w : World) (hl : t.length ≤ 1000) (h45 : t.head? ≠ some 45) :
    Calls Tryz.prog 35 #[.string (str t)] w fun e w' => e = .returned (.tuple #[.int .i64 (numV t), .bool (numB t)]) ∧ w = w' := by
  obtain ⟨n, hn⟩ : ∃ n, t.length = n := ⟨_, rfl⟩
  have HN := Lib.hid hn
  have hsz : (str t).size = n := hn
  have HNO : Hid (num9 t = none → Ending.returned (.tuple #[.int .i64 0, .bool false]) = .returned (.tuple #[.int .i64 (numV t), .bool (numB t)])) := fun h => by unfold numV numB; rw [h]; rfl
  have HYES : Hid (∀ v : Int, num9 t = some v → Ending.returned (.tuple #[.int .i64 v, .bool true]) = .returned (.tuple #[.int .i64 (numV t), .bool (numB t)])) := fun v h => by unfold numV numB; rw [h]; rfl
  have HBAD := Lib.hid (fun h => num9_bad (l := t) (t := t) (.inl ⟨rfl, h45⟩) h)
  have HGOOD := Lib.hid (fun h => num9_pos (t := t) h45 h)
  have h45' : ∀ (h : 0 < (str t).size), (str t)[0] ≠ 45 := by
    intro h e
    rcases t with _ | ⟨c, r⟩
    · exact absurd h (Nat.lt_irrefl 0)
    · exact h45 (by rw [← e]; rfl)
  have HGET := Lib.hid (str_get t)
  have HE0 := str_eq_lit t []
  have HU : True := trivial
  have HFULL : Hid (t.take n = t) := List.take_of_length_le (by omega)
  have HB : Hid (badN t = decide (t = [] ∨ 9 < n ∨ (1 < n ∧ t.head? = some 48))) := by rw [← hn]; rfl
  have h0n : n = 0 ↔ t = [] := by rw [← hn]; exact List.length_eq_zero_iff
  have hhd : ∀ (h : 0 < (str t).size), t.head? = some ((str t)[0]) := by
    intro h
    rcases t with _ | ⟨c, r⟩
    · exact absurd h (Nat.lt_irrefl 0)
    · rfl
  obtain ⟨S, hS⟩ : ∃ S, str t = S := ⟨_, rfl⟩
  have HS := Lib.hid hS
  simp only [hS] at hsz HE0 hhd h45' ⊢
  rw [hn] at hl
  clear hn h45 HU
  rcases (show n = 0 ∨ (n ≠ 0 ∧ 9 < n) ∨ (n ≠ 0 ∧ ¬ 9 < n) by omega) with hA | ⟨hA, h9⟩ | ⟨hA, h9⟩
  · have ht : t = [] := h0n.1 hA
    rw [decide_eq_true ht] at HE0
    have HF := Lib.hid (HBAD.out (by rw [HB.out, ht]; simp))
    subst hA
    clear hhd h0n ht h45'
    go_enter Tryz.func35, Tryz.ntmps35
    go_wp2_with fail
    go_ret2
    exact ⟨HNO.out HF.out, rfl⟩
  · have ht : t ≠ [] := fun h => hA (h0n.2 h)
    rw [decide_eq_false ht] at HE0
    have HF := Lib.hid (HBAD.out (by rw [HB.out]; exact decide_eq_true (.inr (.inl h9))))
    have hpos : 0 < S.size := by omega
    obtain ⟨c0, hc0⟩ : ∃ c0, S[0] = c0 := ⟨_, rfl⟩
    have d45 : ((c0.toNat : Int) == 45) = false := by rw [beq_eq_false_iff_ne]; intro e; exact h45' hpos (by rw [hc0]; exact u8_of c0 45 (by omega))
    clear hhd h0n ht h45'
    go_enter Tryz.func35, Tryz.ntmps35
    go_wp2_with fail
    go_ret2
    exact ⟨HNO.out HF.out, rfl⟩
  · have ht : t ≠ [] := fun h => hA (h0n.2 h)
    rw [decide_eq_false ht] at HE0
    have hpos : 0 < S.size := by omega
    have hh := hhd hpos
    obtain ⟨c0, hc0⟩ : ∃ c0, S[0] = c0 := ⟨_, rfl⟩
    rw [hc0] at hh
    have d45 : ((c0.toNat : Int) == 45) = false := by rw [beq_eq_false_iff_ne]; intro e; exact h45' hpos (by rw [hc0]; exact u8_of c0 45 (by omega))
    by_cases hC : 1 < n ∧ c0 = 48
    · have HF := Lib.hid (HBAD.out (by rw [HB.out]; exact decide_eq_true (.inr (.inr ⟨hC.1, by rw [hh, hC.2]⟩))))
      obtain ⟨hC1, rfl⟩ := hC
      clear hhd h0n ht hh h45'
      go_enter Tryz.func35, Tryz.ntmps35
      go_wp2_with fail
      go_ret2
      exact ⟨HNO.out HF.out, rfl⟩
    · have hgood : badN t = false := by
        rw [HB.out]
        refine decide_eq_false ?_
        rintro (h | h | ⟨h, h'⟩)
        · exact ht h
        · exact h9 h
        · rw [hh] at h'
          injection h' with h'
          exact hC ⟨h, h'⟩
      · have HG := Lib.hid (HGOOD.out hgood)
        have hcc : ¬ 1 < n ∨ (1 < n ∧ ((c0.toNat : Int) == 48) = false) := by
          by_cases h1 : 1 < n
          · refine .inr ⟨h1, ?_⟩
            rw [beq_eq_false_iff_ne]
            intro e
            exact hC ⟨h1, u8_of c0 48 (by omega)⟩
          · exact .inl h1
        clear hhd h0n ht hh hC hgood h45'
        rcases hcc with hcc | ⟨hcc, d48⟩
        all_goals
          go_enter Tryz.func35, Tryz.ntmps35
          go_wp2_with fail
          go_loop [5, 6] (fun v u => ∃ (k m : Nat), u = .int .i64 k ∧ v = .int .i64 m ∧ k ≤ n ∧ Lib.decFrom 0 (t.take k) = some m) (fun _ u => n - (intOf u).toNat)
          case atStart => exact ⟨0, 0, rfl, rfl, Nat.zero_le _, rfl⟩
          case round =>
            obtain ⟨k, m, rfl, rfl, hk, hd⟩ := hrel
            have hm9 := take9 hd (by rw [HN.out]; omega)
            have HD := Lib.hid hd
            clear hd
            by_cases hlt : k < n
            · have hks : k < S.size := by omega
              have hkl : k < t.length := by rw [HN.out]; exact hlt
              have hg : S[k] = t[k] := by
                have := HGET.out k (by rw [HS.out]; exact hks)
                refine Eq.trans ?_ this
                congr 1
                exact HS.out.symm
              obtain ⟨c, hc⟩ : ∃ c, t[k] = c := ⟨_, rfl⟩
              rw [hc] at hg
              have HC := Lib.hid hc
              by_cases hlo : c.toNat < 48
              · have hlo' : (c.toNat : Int) < 48 := by omega
                have HF := Lib.hid (show num9 t = none by rw [HG.out, decFrom_bad t k hkl (by rw [HC.out]; exact digitVal_out (.inl hlo))]; rfl)
                clear hc hlo
                go_wp2_with fail
                go_ret2
                exact ⟨HNO.out HF.out, rfl⟩
              · by_cases hhi : 57 < c.toNat
                · have hhi' : (57 : Int) < c.toNat := by omega
                  have hlo' : ¬ (c.toNat : Int) < 48 := by omega
                  have HF := Lib.hid (show num9 t = none by rw [HG.out, decFrom_bad t k hkl (by rw [HC.out]; exact digitVal_out (.inr hhi))]; rfl)
                  clear hc hlo hhi
                  go_wp2_with fail
                  go_ret2
                  exact ⟨HNO.out HF.out, rfl⟩
                · have hhi' : ¬ (57 : Int) < c.toNat := by omega
                  have hlo' : ¬ (c.toNat : Int) < 48 := by omega
                  have HNX := Lib.hid (decFrom_take t k hkl m HD.out (c.toNat - 48) (by rw [HC.out]; exact digitVal_in (by omega) (by omega)))
                  have hcl : 48 ≤ c.toNat := by omega
                  have hch : c.toNat ≤ 57 := by omega
                  clear hc hlo hhi
                  go_wp2_with fail
                  go_round
                  case rel => exact ⟨k + 1, 10 * m + (c.toNat - 48), by go_num, by go_num, hlt, HNX.out⟩
                  case measure => simp [intOf]; omega
            · obtain rfl : k = n := by omega
              have HF := Lib.hid (show num9 t = some ((m : Int)) by
                have := HD.out
                rw [HFULL.out] at this
                rw [HG.out, this]
                rfl)
              go_wp2_with fail
              go_ret2
              exact ⟨HYES.out _ HF.out, rfl⟩

set_option maxRecDepth 100000 in
set_option maxHeartbeats 4000000 in
theorem number_neg (t : List UInt8) (w : World) (hl : t.length ≤ 1000) :
    Calls Tryz.prog 35 #[.string (str (45 :: t))] w fun e w' => e = .returned (.tuple #[.int .i64 (numV (45 :: t)), .bool (numB (45 :: t))]) ∧ w = w' := by
  obtain ⟨n, hn⟩ : ∃ n, t.length = n := ⟨_, rfl⟩
  have HN := Lib.hid hn
  have hsz : (str t).size = n := hn
  have HNO : Hid (num9 (45 :: t) = none → Ending.returned (.tuple #[.int .i64 0, .bool false]) = .returned (.tuple #[.int .i64 (numV (45 :: t)), .bool (numB (45 :: t))])) := fun h => by unfold numV numB; rw [h]; rfl
  have HYES : Hid (∀ v : Int, num9 (45 :: t) = some v → Ending.returned (.tuple #[.int .i64 v, .bool true]) = .returned (.tuple #[.int .i64 (numV (45 :: t)), .bool (numB (45 :: t))])) := fun v h => by unfold numV numB; rw [h]; rfl
  have HBAD := Lib.hid (fun h => num9_bad (l := (45 :: t)) (t := t) (.inr rfl) h)
  have HGOOD := Lib.hid (fun h h0 => num9_neg (t := t) h h0)
  have HZ48 := Lib.hid num9_zero
  have hs1 : (str (45 :: t)).size = n + 1 := by rw [str_size, List.length_cons, hn]
  have hg0 : (str (45 :: t))[0]'(by rw [hs1]; omega) = 45 := rfl
  have hsl : ∀ W, (Instr.slice 9 (Value.string (str (45 :: t))) (some (Value.int IntKind.i64 1)) none none).run Tryz.prog W = .ok (.string ((str (45 :: t)).extract 1 (str (45 :: t)).size)) W := slice_from (str (45 :: t)) 1 (by rw [hs1]; omega)
  have e1 : (str (45 :: t)).extract 1 (str (45 :: t)).size = str t := by
    rw [str_cut, hs1]
    congr 1
    rw [List.drop_succ_cons, List.drop_zero]
    exact List.take_of_length_le (by omega)
  rw [e1] at hsl
  clear e1
  obtain ⟨S0, hS0⟩ : ∃ S0, str (45 :: t) = S0 := ⟨_, rfl⟩
  simp only [hS0] at hs1 hg0 hsl ⊢
  have HGET := Lib.hid (str_get t)
  have HE0 := str_eq_lit t []
  have HE1 := str_eq_lit t [48]
  have HFULL : Hid (t.take n = t) := List.take_of_length_le (by omega)
  have HB : Hid (badN t = decide (t = [] ∨ 9 < n ∨ (1 < n ∧ t.head? = some 48))) := by rw [← hn]; rfl
  have h0n : n = 0 ↔ t = [] := by rw [← hn]; exact List.length_eq_zero_iff
  have hhd : ∀ (h : 0 < (str t).size), t.head? = some ((str t)[0]) := by
    intro h
    rcases t with _ | ⟨c, r⟩
    · exact absurd h (Nat.lt_irrefl 0)
    · rfl
  obtain ⟨S, hS⟩ : ∃ S, str t = S := ⟨_, rfl⟩
  have HS := Lib.hid hS
  simp only [hS] at hsz HE0 hhd HE1 hsl
  rw [hn] at hl
  
  rcases (show n = 0 ∨ (n ≠ 0 ∧ 9 < n) ∨ (n ≠ 0 ∧ ¬ 9 < n) by omega) with hA | ⟨hA, h9⟩ | ⟨hA, h9⟩
  · have ht : t = [] := h0n.1 hA
    rw [decide_eq_true ht] at HE0
    have HF := Lib.hid (HBAD.out (by rw [HB.out, ht]; simp))
    subst hA
    clear hhd h0n ht HE1
    go_enter Tryz.func35, Tryz.ntmps35
    go_wp2_with fail
    go_ret2
    exact ⟨HNO.out HF.out, rfl⟩
  · have ht : t ≠ [] := fun h => hA (h0n.2 h)
    rw [decide_eq_false ht] at HE0
    have HF := Lib.hid (HBAD.out (by rw [HB.out]; exact decide_eq_true (.inr (.inl h9))))
    have hpos : 0 < S.size := by omega
    clear hhd h0n ht HE1
    go_enter Tryz.func35, Tryz.ntmps35
    go_wp2_with fail
    go_ret2
    exact ⟨HNO.out HF.out, rfl⟩
  · have ht : t ≠ [] := fun h => hA (h0n.2 h)
    rw [decide_eq_false ht] at HE0
    have hpos : 0 < S.size := by omega
    have hh := hhd hpos
    obtain ⟨c0, hc0⟩ : ∃ c0, S[0] = c0 := ⟨_, rfl⟩
    rw [hc0] at hh
    by_cases hC : 1 < n ∧ c0 = 48
    · have HF := Lib.hid (HBAD.out (by rw [HB.out]; exact decide_eq_true (.inr (.inr ⟨hC.1, by rw [hh, hC.2]⟩))))
      obtain ⟨hC1, rfl⟩ := hC
      clear hhd h0n ht hh HE1
      go_enter Tryz.func35, Tryz.ntmps35
      go_wp2_with fail
      go_ret2
      exact ⟨HNO.out HF.out, rfl⟩
    · have hgood : badN t = false := by
        rw [HB.out]
        refine decide_eq_false ?_
        rintro (h | h | ⟨h, h'⟩)
        · exact ht h
        · exact h9 h
        · rw [hh] at h'
          injection h' with h'
          exact hC ⟨h, h'⟩
      by_cases h48 : t = [48]
      · rw [decide_eq_true h48] at HE1
        have HF : Hid (num9 (45 :: t) = none) := by unfold Hid; rw [h48]; exact num9_zero
        have hn1 : n = 1 := by rw [← HN.out, h48]; rfl
        subst hn1
        clear hhd h0n ht hh hC hgood h48
        go_enter Tryz.func35, Tryz.ntmps35
        go_wp2_with fail
        go_ret2
        exact ⟨HNO.out HF.out, rfl⟩
      · rw [decide_eq_false h48] at HE1
        have HG := Lib.hid (HGOOD.out hgood h48)
        clear h48
        have hcc : ¬ 1 < n ∨ (1 < n ∧ ((c0.toNat : Int) == 48) = false) := by
          by_cases h1 : 1 < n
          · refine .inr ⟨h1, ?_⟩
            rw [beq_eq_false_iff_ne]
            intro e
            exact hC ⟨h1, u8_of c0 48 (by omega)⟩
          · exact .inl h1
        clear hhd h0n ht hh hC hgood 
        rcases hcc with hcc | ⟨hcc, d48⟩
        all_goals
          go_enter Tryz.func35, Tryz.ntmps35
          go_wp2_with fail
          go_loop [5, 6] (fun v u => ∃ (k m : Nat), u = .int .i64 k ∧ v = .int .i64 m ∧ k ≤ n ∧ Lib.decFrom 0 (t.take k) = some m) (fun _ u => n - (intOf u).toNat)
          case atStart => exact ⟨0, 0, rfl, rfl, Nat.zero_le _, rfl⟩
          case round =>
            obtain ⟨k, m, rfl, rfl, hk, hd⟩ := hrel
            have hm9 := take9 hd (by rw [HN.out]; omega)
            have HD := Lib.hid hd
            clear hd
            by_cases hlt : k < n
            · have hks : k < S.size := by omega
              have hkl : k < t.length := by rw [HN.out]; exact hlt
              have hg : S[k] = t[k] := by
                have := HGET.out k (by rw [HS.out]; exact hks)
                refine Eq.trans ?_ this
                congr 1
                exact HS.out.symm
              obtain ⟨c, hc⟩ : ∃ c, t[k] = c := ⟨_, rfl⟩
              rw [hc] at hg
              have HC := Lib.hid hc
              by_cases hlo : c.toNat < 48
              · have hlo' : (c.toNat : Int) < 48 := by omega
                have HF := Lib.hid (show num9 (45 :: t) = none by rw [HG.out, decFrom_bad t k hkl (by rw [HC.out]; exact digitVal_out (.inl hlo))]; rfl)
                clear hc hlo
                go_wp2_with fail
                go_ret2
                exact ⟨HNO.out HF.out, rfl⟩
              · by_cases hhi : 57 < c.toNat
                · have hhi' : (57 : Int) < c.toNat := by omega
                  have hlo' : ¬ (c.toNat : Int) < 48 := by omega
                  have HF := Lib.hid (show num9 (45 :: t) = none by rw [HG.out, decFrom_bad t k hkl (by rw [HC.out]; exact digitVal_out (.inr hhi))]; rfl)
                  clear hc hlo hhi
                  go_wp2_with fail
                  go_ret2
                  exact ⟨HNO.out HF.out, rfl⟩
                · have hhi' : ¬ (57 : Int) < c.toNat := by omega
                  have hlo' : ¬ (c.toNat : Int) < 48 := by omega
                  have HNX := Lib.hid (decFrom_take t k hkl m HD.out (c.toNat - 48) (by rw [HC.out]; exact digitVal_in (by omega) (by omega)))
                  have hcl : 48 ≤ c.toNat := by omega
                  have hch : c.toNat ≤ 57 := by omega
                  clear hc hlo hhi
                  go_wp2_with fail
                  go_round
                  case rel => exact ⟨k + 1, 10 * m + (c.toNat - 48), by go_num, by go_num, hlt, HNX.out⟩
                  case measure => simp [intOf]; omega
            · obtain rfl : k = n := by omega
              have HF := Lib.hid (show num9 (45 :: t) = some (-(m : Int)) by
                have := HD.out
                rw [HFULL.out] at this
                rw [HG.out, this]
                rfl)
              go_wp2_with fail
              go_ret2
              exact ⟨HYES.out _ HF.out, rfl⟩

theorem number_r (l : List UInt8) (w : World) (hl : l.length ≤ 1000) :
    Calls Tryz.prog 35 #[.string (str l)] w fun e w' => e = .returned (.tuple #[.int .i64 (numV l), .bool (numB l)]) ∧ w = w' := by
  by_cases h : l.head? = some 45
  · rcases l with _ | ⟨c, t⟩
    · cases h
    · injection h with h
      subst h
      exact number_neg t w (by rw [List.length_cons] at hl; omega)
  · exact number_pos l w hl h
end Go.Proofs.YtjfmnflcgenpaaaGreatDoor

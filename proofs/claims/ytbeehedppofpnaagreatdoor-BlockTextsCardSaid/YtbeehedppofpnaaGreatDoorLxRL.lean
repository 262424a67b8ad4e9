/- Contract: the document's Lines. -/
import Derived.Test.YtbeehedppofpnaaGreatDoorLxC
namespace Go.Proofs.YtbeehedppofpnaaGreatDoor
open Go.RowKit

theorem goes_app (T : Tx) {C : Tx} (h : goes C = true) : goes (T ++ C) = true ∧ (T ++ C).dropLast = T ++ C.dropLast ∧ C ≠ [] := by
  rcases List.eq_nil_or_concat C with rfl | ⟨c, y, rfl⟩
  · cases h
  · rw [List.concat_eq_append] at h ⊢
    rw [goes_snoc] at h
    rw [← List.append_assoc, goes_snoc, List.dropLast_concat, List.dropLast_concat]
    exact ⟨h, rfl, by simp⟩
theorem goes_take (l : Tx) (k : Nat) (x : UInt8) (r : Tx) (h : l.drop k = x :: r) : goes (l.take (k + 1)) = (x == 92) := by
  have hk : k < l.length := by
    rcases Nat.lt_or_ge k l.length with h' | h'
    · exact h'
    · rw [List.drop_eq_nil_of_le h'] at h
      cases h
  rw [List.drop_eq_getElem_cons hk] at h
  injection h with h _
  rw [List.take_succ_eq_append_getElem hk, goes_snoc, h]
theorem u8_eq10 (x : UInt8) : (((x.toNat : Int)) == 10) = (x == 10) := by
  rw [Bool.eq_iff_iff]
  simp only [beq_iff_eq]
  exact ⟨fun e => UInt8.toNat_inj.1 (by have : (10 : UInt8).toNat = 10 := rfl; omega), fun e => by rw [e]; rfl⟩
theorem u8_eq59 (x : UInt8) : (((x.toNat : Int)) == 59) = (x == 59) := by
  rw [Bool.eq_iff_iff]
  simp only [beq_iff_eq]
  exact ⟨fun e => UInt8.toNat_inj.1 (by have : (59 : UInt8).toNat = 59 := rfl; omega), fun e => by rw [e]; rfl⟩
theorem u8_eq35 (x : UInt8) : (((x.toNat : Int)) == 35) = (x == 35) := by
  rw [Bool.eq_iff_iff]
  simp only [beq_iff_eq]
  exact ⟨fun e => UInt8.toNat_inj.1 (by have : (35 : UInt8).toNat = 35 := rfl; omega), fun e => by rw [e]; rfl⟩
theorem ahead_take (t : Tx) (j : Nat) (r : Tx) (hd : t.drop j = 59 :: r) (hn : 59 ∉ t.take j) : ahead t = t.take j := by
  have := ahead_at (t.take j) r hn
  rw [← hd, List.take_append_drop] at this
  exact this
theorem slice_to (S D : ByteArray) (k n : Nat) (hs : S.size = n) (hk : k ≤ n) (_ : n ≤ 4611686018427387904) (hc : S.extract 0 k = D) (W : World) :
    (Instr.slice 9 (.string S) none (some (.int .i64 (k : Int))) none).run Tryz.prog W = .ok (.string D) W := by
  have h := run_slice_string_h (P := Tryz.prog) (w := W) (t := 9) (s := S) (ht := Tryz.underlying9) .i64 (k : Int) (by omega) (by rw [hs]; omega)
  rw [show ((k : Int)).toNat = k by omega, hc] at h
  exact h
theorem refInfo : (Tryz.prog.info? 64).map (fun i => (i.zero, i.size, i.bytes)) = some (some (.agg #[.int .i64 0, .string ⟨#[]⟩]), 2, 24) := by kernel_rfl
/-- What the document's Lines answers. -/
def TR (R : List (Nat × Tx) × Nat × Nat) (w : World) (e : Ending) (w' : World) : Prop :=
  ∃ v, e = .returned (.tuple #[v, .int .i64 R.2.1, .int .i64 R.2.2]) ∧ RowL w' v R.1 ∧ Below w.heap.size w w'
theorem tr_long {w w' : World} {R : List (Nat × Tx) × Nat × Nat} {n : Nat} (hR : ([], n, 2) = R) (h : Below w.heap.size w w') : TR R w (.returned (.tuple #[.slice none 0 0, .int .i64 n, .int .i64 2])) w' := by
  subst hR
  exact ⟨_, rfl, RowL.nil w', h⟩
theorem tr_all {w w' : World} {R : List (Nat × Tx) × Nat × Nat} {L : List (Nat × Tx)} {v : Value} (hR : (L, 0, 0) = R) (hv : RowL w' v L) (h : Below w.heap.size w w') : TR R w (.returned (.tuple #[v, .int .i64 0, .int .i64 0])) w' := by
  subst hR
  exact ⟨_, rfl, hv, h⟩
set_option maxHeartbeats 2000000 in
set_option maxRecDepth 100000 in
theorem refLines_any (l : Tx) (w : World) (hl : l.length ≤ 9223372036854775807) :
    Calls Tryz.prog 19 #[.string (str l)] w (TR (ans l) w) := by
  by_cases hlong : 65536 < l.length
  · have HR : Hid (([], 0, 2) = ans l) := by unfold Hid ans; rw [if_pos hlong]
    have hsz : (str l).size = l.length := rfl
    obtain ⟨n, hn⟩ : ∃ n, l.length = n := ⟨_, rfl⟩
    rw [hn] at hsz hl hlong
    generalize ans l = R at *
    generalize str l = S at *
    clear hn
    have q : (65536 : Int) < n := by omega
    go_enter Tryz.func19, Tryz.ntmps19
    go_wp2_with fail
    go_ret3
    exact tr_long HR.out (Below.refl _ _)
  · have hs : l.length ≤ 65536 := by omega
    have HR : Hid (scan [] (rf (l ++ [10]) [] [] 1 1) = ans l) := by unfold Hid ans; rw [if_neg hlong, rf_whole]
    obtain ⟨s, hse⟩ : ∃ s, l ++ [10] = s := ⟨_, rfl⟩
    obtain ⟨n, hn⟩ : ∃ n, s.length = n := ⟨_, rfl⟩
    have hln : l.length + 1 = n := by rw [← hn, ← hse, List.length_append]; rfl
    have hsl : (str l).size + 1 = n := hln
    have hJ : str l ++ { data := #[10] } = str s := by rw [← hse]; exact str_append l [10]
    rw [hse] at HR
    have hsz : (str s).size = n := hn
    have hn6 : n ≤ 65537 := by omega
    have HN := Lib.hid hn
    have q : ¬ ((65536 : Int) < (str l).size) := by omega
    obtain ⟨L0, hL0⟩ : ∃ L0, str l = L0 := ⟨_, rfl⟩
    rw [hL0] at hJ hsl q ⊢
    generalize ans l = R at *
    obtain ⟨S, hS⟩ : ∃ S, str s = S := ⟨_, rfl⟩
    have HS := Lib.hid hS
    rw [hS] at hJ hsz
    have HJ := Lib.hid hJ
    have hsl2 : L0.size ≤ 65536 := by omega
    clear hln hn hlong hl hs hse hL0 hS hsl hJ
    go_enter Tryz.func19, Tryz.ntmps19
    go_wp2_with fail
    rw [HJ.out]
    go_loopw [5, 6, 7, 8, 9] (fun o t a nb i wr => ∃ (k at_ num : Nat) (T C : Tx) (acc : List (Nat × Tx)), i = .int .i64 k ∧ k ≤ n ∧ t = .string (str (T ++ C)) ∧ a = .int .i64 at_ ∧ nb = .int .i64 num ∧ num ≤ k + 1 ∧ (T ++ C).length ≤ k ∧ acc.length ≤ k ∧ wr.ownsRow w.heap.size 64 2 o acc.length (acc.flatMap lnCells) ∧ Below w.heap.size w wr ∧ goes (s.take k) = goes C ∧ scan acc (rf (s.drop k) T C at_ num) = R) (fun _ _ _ _ i _ => n - (intOf i).toNat)
    case atStart => exact ⟨0, 1, 1, [], [], [], rfl, Nat.zero_le _, rfl, rfl, rfl, Nat.le_refl _, Nat.le_refl _, Nat.le_refl _, World.ownsRow_nil _ _ _ _, Below.refl _ _, rfl, HR.out⟩
    case round =>
      obtain ⟨k, at_, num, T, C, acc, rfl, hk, rfl, rfl, rfl, hnum, hTl, hA, ho, hb, hgo, hd⟩ := hrel
      rcases Nat.lt_or_ge k n with hlt | hge
      · obtain ⟨x, r, e1, e2, S', e3, hs', hx, hc⟩ := at_facts s n k HN.out hlt
        obtain rfl : S' = S := e3.symm.trans HS.out
        have q0 : (0 : Int) ≤ k := by omega
        have q1 : (k : Int) < n := by omega
        have hk6 : k ≤ 65537 := by omega
        obtain ⟨m, hm⟩ : ∃ m, (T ++ C).length = m := ⟨_, rfl⟩
        have hws : (str (T ++ C)).size = m := hm
        rw [hm] at hTl
        have hgt := goes_take s k x r e1
        rw [e1] at hd
        have HM := Lib.hid hm
        clear hm
        by_cases hx10 : x = 10
        · have hxe : (x.toNat : Int) = 10 := by rw [hx10]; rfl
          have hg2 : goes (s.take (k + 1)) = goes [] := by rw [hgt, hx10]; rfl
          have hE := fun D hD W => slice_to S' D k n hs' (Nat.le_of_lt hlt) (by omega) hD W
          have hEn := Lib.hid (fun W => refEnds_any (s.take k) W (by rw [List.length_take]; omega))
          rw [hgo] at hEn
          have hEe : S'.extract 0 k = str (s.take k) := by rw [← HS.out, str_cut]; simp
          have hR := fun W => hE _ hEe W
          clear hE hEe
          obtain ⟨E, hEE⟩ : ∃ E, str (s.take k) = E := ⟨_, rfl⟩
          rw [hEE] at hR hEn
          rw [rf, if_pos hx10] at hd
          have hrl : r.length + (k + 1) = n := by
            have h1 := HN.out
            have h2 := congrArg List.length e1
            rw [List.length_drop, List.length_cons] at h2
            omega
          have HA := Lib.hid hA
          have key : (goes C = true ∧ r ≠ []) ∨ (goes C = true ∧ r = []) ∨ (goes C = false ∧ T ++ C = []) ∨ (goes C = false ∧ goes (T ++ C) = false ∧ T ++ C ≠ []) ∨ (goes C = false ∧ goes (T ++ C) = true) := by
            cases goes C
            · cases hz : goes (T ++ C)
              · by_cases h : T ++ C = []
                · exact .inr (.inr (.inl ⟨rfl, h⟩))
                · exact .inr (.inr (.inr (.inl ⟨rfl, rfl, h⟩)))
              · exact .inr (.inr (.inr (.inr ⟨rfl, rfl⟩)))
            · by_cases h : r = []
              · exact .inr (.inl ⟨rfl, h⟩)
              · exact .inl ⟨rfl, h⟩
          have hnum' : num ≤ 65538 := by omega
          have HB2 := Lib.hid (And.intro ho (And.intro hb (And.intro hg2 e2)))
          clear ho hb hg2 e2 e1 e3 hgo hgt hEE hA
          rcases key with ⟨hg, hr⟩ | ⟨hg, hr⟩ | ⟨hg, hz⟩ | ⟨hg, hz, hne⟩ | ⟨hg, hz⟩
          case' inl =>
            obtain ⟨g1, g2, g3⟩ := goes_app T hg
            rw [if_pos hg, if_neg hr] at hd
            have hr0 : 0 < r.length := List.length_pos_iff.2 hr
            have q2 : (k : Int) + 1 < n := by omega
            obtain ⟨m1, hm1⟩ : ∃ m1, m = m1 + 1 := ⟨m - 1, by
              have := HM.out
              rw [List.length_append] at this
              have h0 := List.length_pos_iff.2 g3
              omega⟩
            subst hm1
            obtain ⟨t, y, ht, htl, hty⟩ := last_at (T ++ C) m1 HM.out
            rw [ht, goes_snoc] at g1
            rw [ht, List.dropLast_concat] at g2
            have hy : ((y.toNat : Int) == 92) = true := by rw [u8_eq92]; exact g1
            obtain ⟨Z, hZ, hZs, hZy, hZc⟩ := snoc_facts t y m1 htl
            have hRZ := fun W => slice_to Z (str t) m1 (m1 + 1) hZs (Nat.le_succ _) (by omega) hZc W
            have HD := Lib.hid (And.intro hd (And.intro g2 htl))
            rw [ht, hZ] at hws ⊢
            rw [hg] at hEn
            have hm1' : m1 + 1 ≤ 65537 := by omega
            obtain ⟨Y, hY⟩ : ∃ Y, str t = Y := ⟨_, rfl⟩
            have HY := Lib.hid hY
            rw [hY] at hRZ
            clear hd g1 g2 g3 ht hty hZ hZc hr hg hr0 htl hY
            go_wp2_with fail
            refine (hEn.out _).mono ?_
            rintro e w' ⟨rfl, rfl⟩
            go_wp2_with fail
            refine ⟨⟨k + 1, at_, num + 1, T ++ C.dropLast, [], acc, by go_num, hlt, ?_, rfl, by go_num, by omega, ?_, Nat.le_succ_of_le HA.out, HB2.out.1, HB2.out.2.1, HB2.out.2.2.1, ?_⟩, by simp [intOf]; omega⟩
            · rw [List.append_nil, ← HD.out.2.1, HY.out]
            · rw [List.append_nil, ← HD.out.2.1, HD.out.2.2]
              omega
            · rw [HB2.out.2.2.2]
              exact HD.out.1
          case' inr.inl =>
            obtain ⟨g1, g2, g3⟩ := goes_app T hg
            rw [if_pos hg, if_pos hr] at hd
            rw [hr, List.length_nil] at hrl
            have q2 : ¬ ((k : Int) + 1 < n) := by omega
            obtain ⟨m1, hm1⟩ : ∃ m1, m = m1 + 1 := ⟨m - 1, by
              have := HM.out
              rw [List.length_append] at this
              have h0 := List.length_pos_iff.2 g3
              omega⟩
            subst hm1
            obtain ⟨t, y, ht, htl, hty⟩ := last_at (T ++ C) m1 HM.out
            rw [ht, goes_snoc] at g1
            rw [ht, List.dropLast_concat] at g2
            have hy : ((y.toNat : Int) == 92) = true := by rw [u8_eq92]; exact g1
            obtain ⟨Z, hZ, hZs, hZy, hZc⟩ := snoc_facts t y m1 htl
            have hRZ := fun W => slice_to Z (str t) m1 (m1 + 1) hZs (Nat.le_succ _) (by omega) hZc W
            rw [ht, hZ] at hws ⊢
            rw [hg] at hEn
            have hm1' : m1 + 1 ≤ 65537 := by omega
            have HX : Hid (scan acc ((at_, t) :: rf (s.drop (k + 1)) [] [] (num + 1) (num + 1)) = R) := by
              unfold Hid
              rw [HB2.out.2.2.2, hr, rf, g2]
              exact hd
            have HXl : Hid (t.length ≤ 65537) := by unfold Hid; omega
            obtain ⟨X, hX⟩ : ∃ X, t = X := ⟨_, rfl⟩
            rw [hX] at HX HXl hRZ
            obtain ⟨Y, hY⟩ : ∃ Y, str X = Y := ⟨_, rfl⟩
            have HY := Lib.hid hY
            rw [hY] at hRZ
            clear hd g1 g2 g3 ht hty hZ hZc hr hg htl hY hX
            go_wp2_with fail
            refine (hEn.out _).mono ?_
            rintro e w' ⟨rfl, rfl⟩
            go_wp2_with fail
          case' inr.inr.inl =>
            rw [if_neg (by rw [hg]; simp)] at hd
            obtain rfl : m = 0 := by
              have := HM.out
              rw [hz] at this
              exact this.symm
            have HX : Hid (scan acc ((at_, T ++ C) :: rf (s.drop (k + 1)) [] [] (num + 1) (num + 1)) = R) := by unfold Hid; rw [HB2.out.2.2.2]; exact hd
            have HXl : Hid ((T ++ C).length ≤ 65537) := by unfold Hid; rw [HM.out]; exact Nat.zero_le _
            obtain ⟨X, hX⟩ : ∃ X, T ++ C = X := ⟨_, rfl⟩
            rw [hX] at HX HXl hws ⊢
            obtain ⟨Y, hY⟩ : ∃ Y, str X = Y := ⟨_, rfl⟩
            have HY := Lib.hid hY
            rw [hY] at hws ⊢
            clear hd hg hz hY hX
            go_wp2_with fail
          case' inr.inr.inr.inl =>
            rw [if_neg (by rw [hg]; simp)] at hd
            have HX : Hid (scan acc ((at_, T ++ C) :: rf (s.drop (k + 1)) [] [] (num + 1) (num + 1)) = R) := by unfold Hid; rw [HB2.out.2.2.2]; exact hd
            have HXl : Hid ((T ++ C).length ≤ 65537) := by unfold Hid; rw [HM.out]; omega
            obtain ⟨m1, hm1⟩ : ∃ m1, m = m1 + 1 := ⟨m - 1, by
              have := HM.out
              have h0 := List.length_pos_iff.2 hne
              omega⟩
            subst hm1
            obtain ⟨t, y, ht, htl, hty⟩ := last_at (T ++ C) m1 HM.out
            rw [hz] at hty
            have hy : ((y.toNat : Int) == 92) = false := by rw [u8_eq92]; exact hty.symm
            obtain ⟨Z, hZ, hZs, hZy, hZc⟩ := snoc_facts t y m1 htl
            obtain ⟨X, hX⟩ : ∃ X, T ++ C = X := ⟨_, rfl⟩
            rw [hX] at HX HXl hws ht ⊢
            have hY : str X = Z := by rw [ht, hZ]
            have HY := Lib.hid hY
            rw [hY] at hws ⊢
            have hm1' : m1 + 1 ≤ 65537 := by omega
            clear hd ht hty hZ hZc hg hz hne htl hY hX
            go_wp2_with fail
          case' inr.inr.inr.inr =>
            rw [if_neg (by rw [hg]; simp)] at hd
            have HX : Hid (scan acc ((at_, T ++ C) :: rf (s.drop (k + 1)) [] [] (num + 1) (num + 1)) = R) := by unfold Hid; rw [HB2.out.2.2.2]; exact hd
            have HXl : Hid ((T ++ C).length ≤ 65537) := by unfold Hid; rw [HM.out]; omega
            obtain ⟨m1, hm1⟩ : ∃ m1, m = m1 + 1 := ⟨m - 1, by
              have := HM.out
              have h0 : T ++ C ≠ [] := fun h => by rw [h] at hz; cases hz
              have h0 := List.length_pos_iff.2 h0
              omega⟩
            subst hm1
            obtain ⟨t, y, ht, htl, hty⟩ := last_at (T ++ C) m1 HM.out
            rw [hz] at hty
            have hy : ((y.toNat : Int) == 92) = true := by rw [u8_eq92]; exact hty.symm
            obtain ⟨Z, hZ, hZs, hZy, hZc⟩ := snoc_facts t y m1 htl
            obtain ⟨X, hX⟩ : ∃ X, T ++ C = X := ⟨_, rfl⟩
            rw [hX] at HX HXl hws ht ⊢
            have hY : str X = Z := by rw [ht, hZ]
            have HY := Lib.hid hY
            rw [hY] at hws ⊢
            rw [hg] at hEn
            have hm1' : m1 + 1 ≤ 65537 := by omega
            clear hd ht hty hZ hZc hg hz htl hY hX
            go_wp2_with fail
            refine (hEn.out _).mono ?_
            rintro e w' ⟨rfl, rfl⟩
            go_wp2_with fail
          all_goals
            have HTr := Lib.hid (fun W => refTrim_any X W (by have := HXl.out; omega))
            rw [HY.out] at HTr
            have hTX : (trim X).length ≤ 65537 := Nat.le_trans (trim_len X) HXl.out
            have HTX := Lib.hid hTX
            obtain ⟨V, hV⟩ : ∃ V, str (trim X) = V := ⟨_, rfl⟩
            have HV := Lib.hid hV
            rw [hV] at HTr
            clear hV hTX
            refine (HTr.out _).mono ?_
            rintro e w' ⟨rfl, rfl⟩
            go_wp2_with fail
            go_loop [10, 11] (fun t j => ∃ (q : Nat) (u : Tx), j = .int .i64 q ∧ t = .string (str u) ∧ q ≤ 65537 ∧ u.length ≤ 65537 ∧ 59 ∉ u.take q ∧ trim (ahead u) = trim (ahead X) ∧ trim u = u) (fun t j => szOf t - (intOf j).toNat)
            case atStart => exact ⟨0, trim X, rfl, congrArg Value.string HV.out.symm, Nat.zero_le _, HTX.out, by simp, trim_ahead X, trim_trim X⟩
            case round =>
              obtain ⟨q, u, rfl, rfl, hq, hul, hno, hta, htt⟩ := hrel
              obtain ⟨p, hp⟩ : ∃ p, u.length = p := ⟨_, rfl⟩
              have HP := Lib.hid hp
              rw [hp] at hul
              clear hp
              rcases Nat.lt_or_ge q p with hlt2 | hge2
              · obtain ⟨y', r', f1, f2, S2, f3, hs2, hx2, hc2⟩ := at_facts u p q HP.out hlt2
                have g0 : (0 : Int) ≤ q := by omega
                have g1 : (q : Int) < p := by omega
                by_cases hy59 : y' = 59
                · have hye : (y'.toNat : Int) = 59 := by rw [hy59]; rfl
                  have hah := ahead_take u q r' (by rw [f1, hy59]) hno
                  have hcu : S2.extract 0 q = str (u.take q) := by rw [← f3, str_cut]; simp
                  have hR2 := fun W => slice_to S2 (str (u.take q)) q p hs2 (Nat.le_of_lt hlt2) (by omega) hcu W
                  have HT2 := Lib.hid (fun W => refTrim_any (u.take q) W (by rw [List.length_take]; omega))
                  have HU : Hid (trim (ahead (trim (u.take q))) = trim (ahead X) ∧ 59 ∉ (trim (u.take q)).take (q + 1) ∧ (trim (u.take q)).length ≤ q) := by
                    refine ⟨?_, fun h => hno (trim_mem (List.mem_of_mem_take h)), ?_⟩
                    · rw [trim_ahead, ahead_of_no _ hno, ← hta, hah]
                    · have := trim_len (u.take q)
                      rw [List.length_take] at this
                      omega
                  obtain ⟨V2, hV2⟩ : ∃ V2, str (trim (u.take q)) = V2 := ⟨_, rfl⟩
                  have HV2 := Lib.hid hV2
                  rw [hV2] at HT2
                  generalize str (u.take q) = Y2 at *
                  rw [f3]
                  clear f1 f2 f3 hy59 hah hno hta htt hcu hV2 hc2
                  go_wp2_with fail
                  refine (HT2.out _).mono ?_
                  rintro e w' ⟨rfl, rfl⟩
                  go_wp2_with fail
                  go_round
                  case rel => exact ⟨q + 1, trim (u.take q), by go_num, congrArg Value.string HV2.out.symm, by omega, by have := HU.out.2.2; omega, HU.out.2.1, HU.out.1, trim_trim _⟩
                  case measure =>
                    have h1 := HU.out.2.2
                    have h2 : V2.size = (trim (u.take q)).length := by rw [← HV2.out]; rfl
                    simp only [szOf, intOf]
                    omega
                · have hyn : ¬ ((y'.toNat : Int) = 59) := fun h => hy59 (UInt8.toNat_inj.1 (by have : (59 : UInt8).toNat = 59 := rfl; omega))
                  have hyb : (((y'.toNat : Int)) == 59) = false := by simpa using hyn
                  have HU : Hid (59 ∉ u.take (q + 1) ∧ trim (ahead u) = trim (ahead X) ∧ trim u = u) := by
                    refine ⟨?_, hta, htt⟩
                    have hqu : q < u.length := by rw [HP.out]; exact hlt2
                    rw [List.take_succ_eq_append_getElem hqu]
                    rw [List.drop_eq_getElem_cons hqu] at f1
                    injection f1 with f1 _
                    rw [f1]
                    simp only [List.mem_append, List.mem_singleton, not_or]
                    exact ⟨hno, fun h => hy59 h.symm⟩
                  have Hf3 := Lib.hid f3
                  rw [f3]
                  clear f1 f2 f3 hy59 hno hta htt hc2
                  go_wp2_with fail
                  go_round
                  case rel => exact ⟨q + 1, u, by go_num, congrArg Value.string Hf3.out.symm, by omega, by rw [HP.out]; exact hul, HU.out.1, HU.out.2.1, HU.out.2.2⟩
                  case measure =>
                    simp only [szOf, intOf]
                    omega
              · have hno2 : 59 ∉ u := by
                  rw [List.take_of_length_le (by rw [HP.out]; exact hge2)] at hno
                  exact hno
                have hu : u = trim (ahead X) := by
                  rw [← hta, ahead_of_no u hno2, htt]
                have hsd : said X = if u.head? = some 35 then [] else u := by rw [hu]; rfl
                have HSd := Lib.hid hsd
                have g1 : ¬ ((q : Int) < p) := by omega
                clear hno hta htt hno2 hu hsd
                have hk3 : (u = [] ∨ ∃ z r', u = z :: r' ∧ z = 35) ∨ ∃ z r', u = z :: r' ∧ z ≠ 35 := by
                  rcases u with _ | ⟨z, r'⟩
                  · exact .inl (.inl rfl)
                  · by_cases hz : z = 35
                    · exact .inl (.inr ⟨z, r', rfl, hz⟩)
                    · exact .inr ⟨z, r', rfl, hz⟩
                rcases hk3 with hnil | ⟨z, r', rfl, hz⟩
                · have HRes : Hid (scan acc (rf (s.drop (k + 1)) [] [] (num + 1) (num + 1)) = R) := by
                    have h0 : said X = [] := by
                      rw [HSd.out]
                      rcases hnil with rfl | ⟨z, r', rfl, rfl⟩
                      · rfl
                      · exact if_pos rfl
                    have h1 := HX.out
                    rw [scan, h0, if_neg (by decide), if_pos rfl] at h1
                    exact h1
                  rcases hnil with rfl | ⟨z, r', rfl, hz⟩
                  · obtain rfl : p = 0 := HP.out.symm
                    have e0 : str [] = { data := #[] } := rfl
                    rw [e0]
                    clear e0
                    have hz0 : ({ data := #[] } : ByteArray).size = 0 := rfl
                    go_wp2_with fail
                    exact ⟨⟨k + 1, num + 1, num + 1, [], [], acc, by go_num, hlt, rfl, by go_num, by go_num, by omega, Nat.zero_le _, Nat.le_succ_of_le HA.out, HB2.out.1, HB2.out.2.1, HB2.out.2.2.1, HRes.out⟩, by simp [intOf]; omega⟩
                  · obtain ⟨m2, hm2⟩ : ∃ m2, r'.length = m2 := ⟨_, rfl⟩
                    obtain ⟨S3, hS3, hs3, hz3, _⟩ := cons_facts z r' m2 hm2
                    obtain rfl : p = m2 + 1 := by rw [← hm2]; exact HP.out.symm
                    have hem := str_ne8 (l := z :: r') (b := false) rfl
                    have hze : (z.toNat : Int) = 35 := by rw [hz]; rfl
                    rw [hS3] at hem ⊢
                    clear hS3 hm2 hz
                    go_wp2_with fail
                    exact ⟨⟨k + 1, num + 1, num + 1, [], [], acc, by go_num, hlt, rfl, by go_num, by go_num, by omega, Nat.zero_le _, Nat.le_succ_of_le HA.out, HB2.out.1, HB2.out.2.1, HB2.out.2.2.1, HRes.out⟩, by simp [intOf]; omega⟩
                · have hsd2 : said X = z :: r' := by
                    rw [HSd.out, if_neg (by simpa using hz)]
                  have hX2 := HX.out
                  rw [scan, hsd2] at hX2
                  obtain ⟨m2, hm2⟩ : ∃ m2, r'.length = m2 := ⟨_, rfl⟩
                  obtain ⟨S3, hS3, hs3, hz3, _⟩ := cons_facts z r' m2 hm2
                  obtain rfl : p = m2 + 1 := by rw [← hm2]; exact HP.out.symm
                  have hem := str_ne8 (l := z :: r') (b := false) rfl
                  have hzn : ¬ ((z.toNat : Int) = 35) := fun h => hz (UInt8.toNat_inj.1 (by have : (35 : UInt8).toNat = 35 := rfl; omega))
                  have hzb : (((z.toNat : Int)) == 35) = false := by simpa using hzn
                  have HS3 := Lib.hid hS3
                  rw [hS3] at hem ⊢
                  by_cases h4 : 4096 < m2 + 1
                  · rw [if_pos (by rw [List.length_cons, hm2]; exact h4)] at hX2
                    have HRes := Lib.hid hX2
                    have g2 : (4096 : Int) < (m2 : Int) + 1 := by omega
                    clear hS3 hm2 hz hX2 hsd2
                    go_wp2_with fail
                    go_ret3
                    exact tr_long HRes.out HB2.out.2.1
                  · rw [if_neg (by rw [List.length_cons, hm2]; exact h4), if_neg (by simp)] at hX2
                    have HRes := Lib.hid hX2
                    have g2 : ¬ ((4096 : Int) < (m2 : Int) + 1) := by omega
                    have HAl := Lib.hid hS3
                    clear hS3 hm2 hz hX2 hsd2
                    have hA9 := HA.out
                    go_wp2_with
                      (at_builtin
                       refine wpList_appL rfl (.tmp 92) (.tmp 96) Tryz.underlying61 refInfo rfl w.heap.size u5 acc.length acc rfl (HB2.out.1.alloc _) wr.heap.size (at_, z :: r') rfl (by rw [HS3.out]; exact (MapKept.heap_alloc wr (.cells #[.int .i64 at_, .string S3] 64)).1) (by omega) (by rw [World.size_alloc]; have := HB2.out.2.1.size; omega) ?_)
                    intro v' w5 ho hgr _
                    have H5 := Lib.hid (And.intro ho hgr)
                    clear ho hgr
                    go_wp2_with fail
                    refine ⟨⟨k + 1, num + 1, num + 1, [], [], acc ++ [(at_, z :: r')], by go_num, hlt, rfl, by go_num, by go_num, by omega, Nat.zero_le _, by rw [List.length_append]; exact Nat.add_le_add_right hA9 1, ?_, (HB2.out.2.1.alloc HB2.out.2.1.size _).grown H5.out.2 (by rw [World.size_alloc]; have := HB2.out.2.1.size; omega) (fun k hk => (HB2.out.1.lt k hk).1), HB2.out.2.2.1, HRes.out⟩, by simp [intOf]; omega⟩
                    rw [List.length_append, lncat_snoc]
                    exact H5.out.1
        · have hx' : (((x.toNat : Int)) == 10) = false := by rw [u8_eq10]; simpa using hx10
          have hxne : ¬ ((x.toNat : Int) = 10) := by simpa using hx'
          rw [rf, if_neg hx10, ← e2] at hd
          have HK := Lib.hid (And.intro ho (And.intro hb (And.intro hgt hd)))
          have hR := fun W => slice_run S' (str [x]) k n hs' hlt (by omega) hc W
          have hd1 : (str [x]).size = 1 := rfl
          have HJ2 := Lib.hid (str_append (T ++ C) [x])
          have HA := Lib.hid hA
          generalize str [x] = D at *
          generalize str (T ++ C) = Z at *
          clear ho hb hgt hd hgo e1 e2 e3 hx10 hA
          go_wp2_with fail
          refine ⟨⟨k + 1, at_, num, T, C ++ [x], acc, by go_num, hlt, congrArg Value.string (HJ2.out.trans (by rw [List.append_assoc])), rfl, rfl, by omega, by rw [← List.append_assoc, List.length_append, HM.out]; exact Nat.add_le_add_right hTl 1, Nat.le_succ_of_le HA.out, HK.out.1, HK.out.2.1, ?_, HK.out.2.2.2⟩, by simp [intOf]; omega⟩
          rw [HK.out.2.2.1, goes_snoc]
      · obtain rfl : k = n := by omega
        have q1 : ¬ ((k : Int) < k) := by omega
        have HK := Lib.hid (And.intro ho (And.intro hb hd))
        clear ho hb hd hgo
        generalize str (T ++ C) = Z at *
        go_wp2_with fail
        go_ret3
        have h2 := HK.out.2.2
        rw [List.drop_eq_nil_of_le (by rw [HN.out]; exact Nat.le_refl _), rf, scan] at h2
        exact tr_all h2 (RowL.owned rfl HK.out.1) HK.out.2.1
end Go.Proofs.YtbeehedppofpnaaGreatDoor

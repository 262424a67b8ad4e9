/- Contracts: value's isNumber, Int. -/
import Derived.Test.YtencapplbedcmaaGreatDoorVaInt
import Derived.Test.YtencapplbedcmaaGreatDoorVaFn
namespace Go.Proofs.YtencapplbedcmaaGreatDoor
open Go.RowKit

/-- The library's two errors of numbers are errors. -/
def EsV (w : World) : Prop := (∃ t p, w.cell? ⟨2, 0, none⟩ = some (.iface t p)) ∧ ∃ t p, w.cell? ⟨3, 0, none⟩ = some (.iface t p)
theorem EsV.below {w w' : World} (h : EsV w) (hb : Below w.heap.size w w') : EsV w' := by
  obtain ⟨⟨t, p, h1⟩, u, q, h2⟩ := h
  exact ⟨⟨t, p, (World.cell?_of_block (a := ⟨2, 0, none⟩) (hb.block _ (World.block_lt_of_cell? w _ h1))).trans h1⟩, u, q, (World.cell?_of_block (a := ⟨3, 0, none⟩) (hb.block _ (World.block_lt_of_cell? w _ h2))).trans h2⟩
theorem atoi_ok (s : Tx) (v : Int) (w : World) (hs : s.length ≤ 1000) (h : Lib.atoiAll s = .ok v) :
    Calls Tryz.prog 26 #[.string (str s)] w fun e w' => e = .returned (.tuple #[.int .i64 v, .nilIface]) ∧ Below w.heap.size w w' := by
  refine (show Calls Tryz.prog 26 #[.string (str s)] w _ from Any.strconv_Atoi_ok Tryz.atoiL (str s) (by rw [str_size]; omega) v h w).mono ?_
  rintro e w' ⟨rfl, hw⟩
  refine ⟨rfl, ?_⟩
  rcases hw with rfl | ⟨t, rfl⟩
  · exact Below.refl _ _
  · exact Lib.bytesWorld_below _ _ _
theorem atoi_range (s : Tx) (w : World) (hs : s.length ≤ 1000) (h : Lib.atoiAll s = .range) (he : EsV w) :
    Calls Tryz.prog 26 #[.string (str s)] w fun e w' => ∃ v t p, e = .returned (.tuple #[.int .i64 v, .iface t p]) ∧ Below w.heap.size w w' := by
  obtain ⟨_, u, q, h2⟩ := he
  refine (show Calls Tryz.prog 26 #[.string (str s)] w _ from Any.strconv_Atoi_range Tryz.atoiL (str s) (by rw [str_size]; omega) h (.iface u q) w h2 (.inr ⟨u, q, rfl⟩)).mono ?_
  rintro e w' ⟨N, rfl, _, _, hb⟩
  exact ⟨_, _, _, rfl, hb⟩
theorem noDg_int (r : Nat) : (decide ((r : Int) < 48) = true ∧ noDg r = true) ∨ (decide ((r : Int) < 48) = false ∧ decide ((57 : Int) < r) = noDg r) := by
  unfold noDg
  by_cases h : r < 48
  · exact .inl ⟨decide_eq_true (by omega), by rw [decide_eq_true h]; rfl⟩
  · refine .inr ⟨decide_eq_false (by omega), ?_⟩
    rw [decide_eq_false h, Bool.false_or]
    by_cases h2 : 57 < r
    · rw [decide_eq_true h2, decide_eq_true (by omega)]
    · rw [decide_eq_false h2, decide_eq_false (by omega)]
theorem isNumber1_pred (w : World) : PredAtRunes Tryz.prog 44 #[] noDg w := fun W r _ _ => by
  unfold FnGives
  have HR := Lib.hid (noDg_int r)
  have hB : ∃ B, noDg r = B := ⟨_, rfl⟩
  obtain ⟨B, hB⟩ := hB
  rw [hB] at HR ⊢
  clear hB
  show Calls Tryz.prog 44 #[.int .i32 (r : Int)] W _
  rcases HR.out with ⟨e1, e2⟩ | ⟨e1, e2⟩
  · have d1 : (r : Int) < 48 := of_decide_eq_true e1
    clear HR e1
    go_enter Tryz.func44, Tryz.ntmps44
    go_wp2_with fail
    go_ret
    exact ⟨ret_bool8 e2.symm, 0, rfl⟩
  · have d1 : ¬ (r : Int) < 48 := of_decide_eq_false e1
    have E2 := Lib.hid e2
    clear HR e1 e2
    by_cases h2 : (57 : Int) < r
    · go_enter Tryz.func44, Tryz.ntmps44
      go_wp2_with fail
      go_ret
      exact ⟨ret_bool8 (by rw [← E2.out, decide_eq_true h2]), 0, rfl⟩
    · go_enter Tryz.func44, Tryz.ntmps44
      go_wp2_with fail
      go_ret
      exact ⟨ret_bool8 (by rw [← E2.out, decide_eq_false (by omega)]), 0, rfl⟩
theorem noDigit_any (l : Tx) (w : World) : Calls Tryz.prog 46 #[.string (str l), .func (.func 44) #[] #[]] w fun e w' => e = .returned (.bool (!(l.all dgB))) ∧ Below w.heap.size w w' := by
  refine (show Calls Tryz.prog 46 #[.string (str l), .func (.func 44) #[] #[]] w _ from Any.strings_ContainsFunc_runes Tryz.hasFuncL 44 #[] (enters_of Tryz.func44 (by kernel_rfl) rfl) noDg (str l) w (isNumber1_pred w)).mono ?_
  rintro e w' ⟨rfl, hb⟩
  exact ⟨by rw [idx_noDg], hb⟩
theorem ret_boolI {a b : Bool} {w w' : World} (h : a = b) (hb : Below w.heap.size w w') : Ending.returned (.bool a) = .returned (.bool b) ∧ Below w.heap.size w w' := ⟨by rw [h], hb⟩
set_option maxHeartbeats 1000000 in
set_option maxRecDepth 100000 in
theorem isNumber_any (s : Tx) (w : World) : Calls Tryz.prog 25 #[.string (str s)] w fun e w' => e = .returned (.bool (numT s)) ∧ Below w.heap.size w w' := by
  by_cases h0 : s = [48]
  · subst h0
    have hB : Hid (true = numT [48]) := rfl
    have t0 : str [48] = { data := #[48] } := rfl
    rw [t0]
    generalize numT [48] = B at *
    clear t0
    go_enter Tryz.func25, Tryz.ntmps25
    go_wp2_with fail
    go_ret
    exact ret_boolI hB.out (Below.refl _ _)
  · have e0 : ((str s).toList == [48]) = false := by rw [str_toList]; exact beq_eq_false_iff_ne.2 h0
    have hN : numT s = (!(digs s).isEmpty && !((digs s).head? == some 48) && (digs s).all dgB) := by
      have : (s == [48]) = false := beq_eq_false_iff_ne.2 h0
      rw [numT, this, Bool.false_or]
    have HTP := Lib.hid (fun W => trimPre_any s _ W rfl)
    change Hid (∀ W : World, Calls Tryz.prog 43 #[.string (str s), .string (str [45])] W fun e w' => e = .returned (.string (str (digs s))) ∧ W = w') at HTP
    have HHP := Lib.hid (fun W => hasPre_any (digs s) _ W rfl)
    have HCF := Lib.hid (fun W => noDigit_any (digs s) W)
    have HN := Lib.hid hN
    generalize numT s = B at *
    generalize str s = S at *
    clear hN h0
    generalize digs s = d at *
    rcases d with _ | ⟨c, r⟩
    · have t0 : str ([] : Tx) = { data := #[] } := rfl
      have hB : Hid (false = B) := HN.out.symm
      rw [t0] at HTP
      clear HHP HCF HN t0
      go_enter Tryz.func25, Tryz.ntmps25
      go_wp2_with fail
      refine (HTP.out _).mono ?_
      rintro e w' ⟨rfl, rfl⟩
      go_wp2_with fail
      go_ret
      exact ret_boolI hB.out (Below.refl _ _)
    · have t1 : (str (c :: r)).toList.isEmpty = false := by rw [str_toList]; rfl
      have hemp : (c :: r).isEmpty = false := rfl
      rw [hemp, Bool.not_false, Bool.true_and] at HN
      generalize (c :: r) = d at *
      cases hp : (d.head? == some 48) <;> rw [hp] at HHP HN
      · rw [Bool.not_false, Bool.true_and] at HN
        generalize str d = D at *
        clear hemp hp
        cases hq : d.all dgB <;> rw [hq] at HCF HN
        · rw [Bool.not_false] at HCF
          go_enter Tryz.func25, Tryz.ntmps25
          go_wp2_with fail
          refine (HTP.out _).mono ?_
          rintro e w' ⟨rfl, rfl⟩
          go_wp2_with fail
          refine (HHP.out _).mono ?_
          rintro e w' ⟨rfl, rfl⟩
          go_wp2_with fail
          refine (HCF.out _).mono ?_
          rintro e w' ⟨rfl, hb⟩
          have HB := Lib.hid hb
          clear hb
          go_wp2_with fail
          go_ret
          exact ret_boolI HN.out.symm HB.out
        · rw [Bool.not_true] at HCF
          go_enter Tryz.func25, Tryz.ntmps25
          go_wp2_with fail
          refine (HTP.out _).mono ?_
          rintro e w' ⟨rfl, rfl⟩
          go_wp2_with fail
          refine (HHP.out _).mono ?_
          rintro e w' ⟨rfl, rfl⟩
          go_wp2_with fail
          refine (HCF.out _).mono ?_
          rintro e w' ⟨rfl, hb⟩
          have HB := Lib.hid hb
          clear hb
          go_wp2_with fail
          go_ret
          exact ret_boolI HN.out.symm HB.out
      · have hB : Hid (false = B) := by rw [HN.out]; rfl
        generalize str d = D at *
        clear hemp hp HN HCF
        go_enter Tryz.func25, Tryz.ntmps25
        go_wp2_with fail
        refine (HTP.out _).mono ?_
        rintro e w' ⟨rfl, rfl⟩
        go_wp2_with fail
        refine (HHP.out _).mono ?_
        rintro e w' ⟨rfl, rfl⟩
        go_wp2_with fail
        go_ret
        exact ret_boolI hB.out (Below.refl _ _)
/-- How Int ends. -/
def IntE (R : Int × Nat) (w : World) (e : Ending) (w' : World) : Prop := e = .returned (.tuple #[.int .i64 R.1, errE R.2]) ∧ Below w.heap.size w w'
theorem intE_of {R : Int × Nat} {w w' : World} {v : Int} {ev : Value} {k : Nat} (hR : R = (v, k)) (he : errE k = ev) (hb : Below w.heap.size w w') : IntE R w (.returned (.tuple #[.int .i64 v, ev])) w' := by
  subst hR
  subst he
  exact ⟨rfl, hb⟩
set_option maxHeartbeats 1000000 in
set_option maxRecDepth 100000 in
theorem int_any (s : Tx) (lo hi : Int) (w : World) (hl : s.length ≤ 1000000) (he : EsV w) : Calls Tryz.prog 9 #[.string (str s), .int .i64 lo, .int .i64 hi] w (IntE (intT s lo hi) w) := by
  obtain ⟨R, hR⟩ : ∃ R, intT s lo hi = R := ⟨_, rfl⟩
  rw [hR]
  by_cases h0 : s = []
  · have HR : Hid (R = (0, 13)) := by unfold Hid; rw [← hR, intT, if_pos h0]
    subst h0
    have t0 : str ([] : Tx) = { data := #[] } := rfl
    rw [t0]
    clear hR hl he t0
    go_enter Tryz.func9, Tryz.ntmps9
    go_wp2_with fail
    go_ret2
    exact intE_of HR.out rfl (Below.refl _ _)
  · have t1 : (str s).toList.isEmpty = false := by rw [str_toList]; simpa using h0
    have hsz : (str s).size = s.length := rfl
    obtain ⟨n, hn⟩ : ∃ n, s.length = n := ⟨_, rfl⟩
    by_cases hlen : 19 < s.length
    · have HR : Hid (R = (0, 3)) := by unfold Hid; rw [← hR, int_bad h0 (.inl hlen)]
      rw [hn] at hsz hlen hl
      have d1 : (19 : Int) < n := by omega
      generalize str s = S at *
      clear hR hn hlen h0 he
      go_enter Tryz.func9, Tryz.ntmps9
      go_wp2_with fail
      go_ret2
      exact intE_of HR.out rfl (Below.refl _ _)
    · have HN := Lib.hid (fun W => isNumber_any s W)
      cases hnum : numT s <;> rw [hnum] at HN
      · have HR : Hid (R = (0, 3)) := by unfold Hid; rw [← hR, int_bad h0 (.inr hnum)]
        rw [hn] at hsz hlen hl
        have d1 : ¬ (19 : Int) < n := by omega
        generalize str s = S at *
        clear hR hn hlen h0 he hnum
        go_enter Tryz.func9, Tryz.ntmps9
        go_wp2_with fail
        refine (HN.out _).mono ?_
        rintro e w' ⟨rfl, hb⟩
        have HB := Lib.hid hb
        clear hb
        go_wp2_with fail
        go_ret2
        exact intE_of HR.out rfl HB.out
      · have HE := Lib.hid he
        rcases int_num lo hi h0 (by omega) hnum with ⟨v, h1, h2, h3, h4⟩ | ⟨h1, h2⟩
        · have HA := Lib.hid (fun W => atoi_ok s v W (by omega) h1)
          rw [hR] at h2
          rw [hn] at hsz hlen hl
          have d1 : ¬ (19 : Int) < n := by omega
          generalize str s = S at *
          have H2 := Lib.hid h2
          clear hR hn hlen h0 he hnum h1 h2 h3 h4
          by_cases c1 : v < lo
          · have HR : Hid (R = (0, 5)) := by unfold Hid; rw [H2.out, if_pos (.inl c1)]
            go_enter Tryz.func9, Tryz.ntmps9
            go_wp2_with fail
            refine (HN.out _).mono ?_
            rintro e w1 ⟨rfl, hb⟩
            have HB := Lib.hid hb
            clear hb
            go_wp2_with fail
            refine (HA.out _).mono ?_
            rintro e w2 ⟨rfl, hb⟩
            have HB2 := Lib.hid (HB.out.trans (hb.mono HB.out.size))
            clear hb
            go_wp2_with fail
            go_ret2
            exact intE_of HR.out rfl HB2.out
          · by_cases c2 : hi < v
            · have HR : Hid (R = (0, 5)) := by unfold Hid; rw [H2.out, if_pos (.inr c2)]
              go_enter Tryz.func9, Tryz.ntmps9
              go_wp2_with fail
              refine (HN.out _).mono ?_
              rintro e w1 ⟨rfl, hb⟩
              have HB := Lib.hid hb
              clear hb
              go_wp2_with fail
              refine (HA.out _).mono ?_
              rintro e w2 ⟨rfl, hb⟩
              have HB2 := Lib.hid (HB.out.trans (hb.mono HB.out.size))
              clear hb
              go_wp2_with fail
              go_ret2
              exact intE_of HR.out rfl HB2.out
            · have HR : Hid (R = (v, 0)) := by unfold Hid; rw [H2.out, if_neg (by omega)]
              go_enter Tryz.func9, Tryz.ntmps9
              go_wp2_with fail
              refine (HN.out _).mono ?_
              rintro e w1 ⟨rfl, hb⟩
              have HB := Lib.hid hb
              clear hb
              go_wp2_with fail
              refine (HA.out _).mono ?_
              rintro e w2 ⟨rfl, hb⟩
              have HB2 := Lib.hid (HB.out.trans (hb.mono HB.out.size))
              clear hb
              go_wp2_with fail
              go_ret2
              exact intE_of HR.out errE_zero HB2.out
        · have HA := Lib.hid (fun W hW => atoi_range s W (by omega) h1 hW)
          rw [hR] at h2
          rw [hn] at hsz hlen hl
          have d1 : ¬ (19 : Int) < n := by omega
          generalize str s = S at *
          have HR := Lib.hid h2
          clear hR hn hlen h0 he hnum h1 h2
          go_enter Tryz.func9, Tryz.ntmps9
          go_wp2_with fail
          refine (HN.out _).mono ?_
          rintro e w1 ⟨rfl, hb⟩
          have HB := Lib.hid hb
          clear hb
          go_wp2_with fail
          refine (HA.out _ (HE.out.below HB.out)).mono ?_
          rintro e w2 ⟨v, t, p, rfl, hb⟩
          have HB2 := Lib.hid (HB.out.trans (hb.mono HB.out.size))
          clear hb
          go_wp2_with fail
          go_ret2
          exact intE_of HR.out rfl HB2.out
/-- How Flag ends. -/
def FlagE (R : Bool × Nat) (w : World) (e : Ending) (w' : World) : Prop := e = .returned (.tuple #[.bool R.1, errE R.2]) ∧ Below w.heap.size w w'
theorem flagE_of {R : Bool × Nat} {w w' : World} {v : Bool} {ev : Value} {k : Nat} (hR : R = (v, k)) (he : errE k = ev) (hb : Below w.heap.size w w') : FlagE R w (.returned (.tuple #[.bool v, ev])) w' := by
  subst hR
  subst he
  exact ⟨rfl, hb⟩
set_option maxRecDepth 100000 in
theorem flag_any (s : Tx) (w : World) : Calls Tryz.prog 11 #[.string (str s)] w (FlagE (flagT s) w) := by
  obtain ⟨R, hR⟩ : ∃ R, flagT s = R := ⟨_, rfl⟩
  rw [hR]
  by_cases h0 : s = []
  · have HR : Hid (R = (false, 13)) := by unfold Hid; rw [← hR, flagT, if_pos h0]
    subst h0
    have t0 : str ([] : Tx) = { data := #[] } := rfl
    rw [t0]
    clear hR t0
    go_enter Tryz.func11, Tryz.ntmps11
    go_wp2_with fail
    go_ret2
    exact flagE_of HR.out rfl (Below.refl _ _)
  · by_cases h1 : s = [48]
    · have HR : Hid (R = (false, 0)) := by unfold Hid; rw [← hR, flagT, if_neg h0, if_pos h1]
      subst h1
      have t0 : str ([48] : Tx) = { data := #[48] } := rfl
      rw [t0]
      clear hR t0 h0
      go_enter Tryz.func11, Tryz.ntmps11
      go_wp2_with fail
      go_ret2
      exact flagE_of HR.out errE_zero (Below.refl _ _)
    · by_cases h2 : s = [49]
      · have HR : Hid (R = (true, 0)) := by unfold Hid; rw [← hR, flagT, if_neg h0, if_neg h1, if_pos h2]
        subst h2
        have t0 : str ([49] : Tx) = { data := #[49] } := rfl
        rw [t0]
        clear hR t0 h0 h1
        go_enter Tryz.func11, Tryz.ntmps11
        go_wp2_with fail
        go_ret2
        exact flagE_of HR.out errE_zero (Below.refl _ _)
      · have HR : Hid (R = (false, 3)) := by unfold Hid; rw [← hR, flagT, if_neg h0, if_neg h1, if_neg h2]
        have t1 : (str s).toList.isEmpty = false := by rw [str_toList]; simpa using h0
        have t2 : ((str s).toList == [48]) = false := by rw [str_toList]; exact beq_eq_false_iff_ne.2 h1
        have t3 : ((str s).toList == [49]) = false := by rw [str_toList]; exact beq_eq_false_iff_ne.2 h2
        generalize str s = S at *
        clear hR h0 h1 h2
        go_enter Tryz.func11, Tryz.ntmps11
        go_wp2_with fail
        go_ret2
        exact flagE_of HR.out rfl (Below.refl _ _)
end Go.Proofs.YtencapplbedcmaaGreatDoor

/- Contract: block.wrong, block.Parse. -/
import Derived.Test.YtbeehedppofpnaaGreatDoorBkG
import Derived.Test.YtbeehedppofpnaaGreatDoorErr
namespace Go.Proofs.YtbeehedppofpnaaGreatDoor
open Go.RowKit Go.Maps

/-- Three results, the second of which lies in memory. -/
theorem results_tct {P : Program} {fn : Func} {p q u : Tmp} {ty : TypeId} (h : fn.results = #[.tmp p, .cell q ty, .tmp u]) (tmps : Array Value) (w : World) (g : Nat) (t : TypeId) (cs : Array Value) (fr : Nat × Nat) (d : TypeDesc)
    (hp : tmps.getD q undef = .pointer (some ⟨g, 0, none⟩)) (hg : w.heap[g]? = some (.cells cs t fr))
    (hu : P.underlying ty = some d) (hd : (match d with | .struct _ | .array _ _ => true | _ => false) = true) (hi : (P.info? ty).map (·.size) = some cs.size) :
    (results fn tmps).run P w = .ok (.tuple #[tmps.getD p undef, .agg cs, tmps.getD u undef]) w := by
  have hp' : tmps[q]?.getD undef = .pointer (some ⟨g, 0, none⟩) := by simpa using hp
  simp only [results, h]
  simp [Sem.run_bind, Result.andThen, hp', asAddr, run_loadVar_row w g t ty cs fr d hg hu hd hi]
theorem set2 {w : World} {g : Nat} {a b x y : Value} {t : TypeId} (h : w.heap[g]? = some (.cells #[a, b] t (0, 0))) : ((w.setCell ⟨g, 0, none⟩ x).setCell ⟨g, 1, none⟩ y).heap[g]? = some (.cells #[x, y] t (0, 0)) :=
  heap_setCell_same _ g 1 _ t y (heap_setCell_same w g 0 _ t x h)
theorem plInfo : (Tryz.prog.info? 26).map (·.size) = some 2 := by kernel_rfl
set_option maxHeartbeats 1000000 in
set_option maxRecDepth 100000 in
theorem wrong_any (l n : Int) (w : World) (hg : ErrT w) :
    Calls Tryz.prog 16 #[.int .i64 l, errK n] w fun e w' => e = .returned (.tuple #[.slice none 0 0, .agg #[.int .i64 l, .int .i64 n], errK n]) ∧ Below w.heap.size w w' := by
  have HG := Lib.hid hg
  clear hg
  unfold errK
  go_enter Tryz.func16, Tryz.ntmps16
  go_wp2_with fail
  have hw1 : Below w.heap.size w ((w.alloc (.cells #[.int .i64 0, .int .i64 0] 26)).alloc (.cells #[.int .i64 0] 24)) := ((Below.refl _ w).alloc (Nat.le_refl _) _).alloc (by simp) _
  refine (as_any n ⟨w.heap.size + 1, 0, none⟩ (.int .i64 0) (w.heap.size + 1) _ (HG.out.below hw1) (by simp) (by simp) (Nat.le_refl _)).mono ?_
  rintro e w1 ⟨rfl, hb, hc⟩
  have hpl : w1.heap[w.heap.size]? = some (.cells #[.int .i64 0, .int .i64 0] 26 (0, 0)) := by
    refine (hb.block _ (Nat.lt_succ_self _)).trans ?_
    refine (Below.heap_alloc _ _ _ (by rw [World.size_alloc]; exact Nat.lt_succ_self _)).trans ?_
    exact (MapKept.heap_alloc w _).1
  have HB := Lib.hid (hw1.trans (hb.mono (Nat.le_succ _)))
  have HP := Lib.hid hpl
  have p0 := cell_blk hpl 0 (v := .int .i64 0) rfl
  have p1 := cell_blk hpl 1 (v := .int .i64 0) rfl
  have q0 := frz_blk hpl 0
  have q1 := frz_blk hpl 1
  clear hb hpl hw1
  go_wp2_with fail
  go_region_with (fail)
  all_goals
    go_wp2_with fail
    refine bodyPost_ret (results_tct rfl _ _ w.heap.size _ #[.int .i64 l, .int .i64 n] (0, 0) _ rfl (set2 HP.out) Tryz.underlying26 rfl (by kernel_rfl)) rfl ?_
    have hB := (HB.out.setCell (p := ⟨w.heap.size, 0, none⟩) (Nat.le_refl _) (.int .i64 l)).setCell (p := ⟨w.heap.size, 1, none⟩) (Nat.le_refl _) (.int .i64 n)
    exact ⟨rfl, hB.os, hB.tape, hB.output, hB.size, hB.block⟩
theorem Bld.other {w w' : World} {base hi : Nat} {eB eF : TypeId} {v : Value} {Z : List (MB × Value)} (h : Bld w base hi eB eF v Z) (hk : ∀ i, base ≤ i → w'.heap[i]? = w.heap[i]?) : Bld w' base hi eB eF v Z :=
  ⟨own_block h.own fun i hi => hk i (h.own.lt i hi).1, fun p hp => (h.rows p hp).keep (Nat.le_refl _) (Nat.le_refl _) fun b _ _ h1 _ _ => hk b h1⟩
/-- What Parse answers. -/
def TP (R : List Bk × Nat × Nat) (w : World) (e : Ending) (w' : World) : Prop :=
  ∃ v, e = .returned (.tuple #[v, .agg #[.int .i64 (R.2.1 : Int), .int .i64 (R.2.2 : Int)], errE R.2.2]) ∧ RowB w' v (R.1.map iB) ∧ Below w.heap.size w w'
theorem tp_no {w w' : World} {R : List Bk × Nat × Nat} {n k : Nat} (hR : ([], n, k) = R) (hk : k ≠ 0) (h : Below w.heap.size w w') : TP R w (.returned (.tuple #[.slice none 0 0, .agg #[.int .i64 (n : Int), .int .i64 (k : Int)], errK (k : Int)])) w' := by
  subst hR
  exact ⟨_, by rw [errE_num hk], RowB.nil w', h⟩
theorem tp_all {w w' : World} {R : List Bk × Nat × Nat} {L : List Bk} {v : Value} (hR : (L, 0, 0) = R) (hv : RowB w' v (L.map iB)) (h : Below w.heap.size w w') : TP R w (.returned (.tuple #[v, .agg #[.int .i64 0, .int .i64 0], .nilIface])) w' := by
  subst hR
  exact ⟨_, rfl, hv, h⟩
theorem ErrT.below' {w w' : World} (h : ErrT w) (hb : Below w.heap.size w w') : ErrT w' := h.below hb
set_option maxHeartbeats 4000000 in
set_option maxRecDepth 100000 in
theorem parse_any (l : Tx) (w : World) (hl : l.length ≤ 9223372036854775807) (hm : Mx w) (hg : ErrT w) :
    Calls Tryz.prog 7 #[.string (str l)] w (TP (parseT l) w) := by
  have hbox := (Below.refl w.heap.size w).alloc (Nat.le_refl _) (.cells #[.int .i64 0, .int .i64 0] 26)
  have HLn := Lib.hid (lines_any l (w.alloc (.cells #[.int .i64 0, .int .i64 0] 26)) hl (hm.below hbox))
  have HP0 : Hid (∀ W, Below (w.alloc (.cells #[.int .i64 0, .int .i64 0] 26)).heap.size (w.alloc (.cells #[.int .i64 0, .int .i64 0] 26)) W → W.heap[w.heap.size]? = some (.cells #[.int .i64 0, .int .i64 0] 26 (0, 0)) ∧ Below w.heap.size w W ∧ Mx W ∧ ErrT W ∧ w.heap.size < W.heap.size) := by
    intro W hW
    have h1 := hbox.trans (hW.mono hbox.size)
    exact ⟨(hW.block _ (by rw [World.size_alloc]; exact Nat.lt_succ_self _)).trans (MapKept.heap_alloc w _).1, h1, hm.below h1, hg.below h1, by have := hW.size; rw [World.size_alloc] at this; omega⟩
  have HR : Hid (parseT l = if (ans l).2.2 ≠ 0 then ([], (ans l).2.1, (ans l).2.2) else prs (ans l).1 [] none) := rfl
  have HSo := Lib.hid (ans_solid l)
  have hL6 := ans_len l
  obtain ⟨R, hR⟩ : ∃ R, parseT l = R := ⟨_, rfl⟩
  rw [hR] at HR ⊢
  obtain ⟨An, hAn⟩ : ∃ An, ans l = An := ⟨_, rfl⟩
  rw [hAn] at HLn HR HSo hL6
  clear hR hAn hbox hm hg hl
  obtain ⟨L, la, lc⟩ := An
  dsimp only at *
  generalize str l = S at *
  obtain ⟨n, hn⟩ : ∃ n, L.length = n := ⟨_, rfl⟩
  rw [hn] at hL6
  have HN := Lib.hid hn
  clear hn
  by_cases hc : lc = 0
  · subst hc
    rw [if_neg (by simp)] at HR
    unfold TL at HLn
    rw [errE_zero] at HLn
    go_enter Tryz.func7, Tryz.ntmps7
    go_wp2_with fail
    refine HLn.out.mono ?_
    rintro e w1 ⟨v, rfl, ⟨A, c, rfl, hc1, hc2, hrd⟩, hb⟩
    rw [HN.out] at hc1 ⊢
    have HH := Lib.hid (And.intro hrd (HP0.out w1 hb))
    have hz1 : w.heap.size < w1.heap.size := HH.out.2.2.2.2.2
    clear hrd hb
    go_wp2_with fail
    have H0 : Hid (Rd9 (w1.alloc (.cells #[.slice none 0 0, .bool false, .map none] 55)) w1.heap.size w1.heap.size [] none) := by
      refine ⟨Nat.le_refl _, .slice none 0 0, .map none, [], (MapKept.heap_alloc w1 _).1, rfl, Bld.nil _ _ _ _ _⟩
    go_loopw [28] (fun i wr => ∃ k : Nat, i = .int .i64 k ∧ k ≤ n ∧ Below w1.heap.size w1 wr ∧ w1.heap.size ≤ wr.heap.size ∧ ∃ out cur, Ok9 out cur ∧ Rd9 wr w1.heap.size w1.heap.size out cur ∧ prs (L.drop k) out cur = R) (fun i _ => n - (intOf i).toNat)
    case atStart => exact ⟨0, rfl, Nat.zero_le _, (Below.refl _ _).alloc (Nat.le_refl _) _, by simp, [], none, Nat.zero_le _, H0.out, HR.out.symm⟩
    case round =>
      obtain ⟨k, rfl, hk, hb, hsz, out, cur, hok, hrd, hp⟩ := hrel
      rcases Nat.lt_or_ge k n with hlt | hge
      · have hkl : k < L.length := by rw [HN.out]; exact hlt
        obtain ⟨ad, X, rfl, hX, k0, k1⟩ := (HH.out.1.below hb).two k hkl
        obtain ⟨p, hpe⟩ : ∃ p, L[k] = p := ⟨_, rfl⟩
        have hdr : L.drop k = p :: L.drop (k + 1) := by rw [List.drop_eq_getElem_cons hkl, hpe]
        rw [hdr, prs_st9] at hp
        have hsol : Solid p.2 := HSo.out p (by rw [← hpe]; exact List.getElem_mem hkl)
        rw [hpe] at k0 k1
        obtain ⟨pa, pt⟩ := p
        dsimp only at k0 k1 hsol
        have hal := (Below.refl wr.heap.size wr).alloc (Nat.le_refl _) (.cells #[.int .i64 (pa : Int), .string (str pt)] 57)
        have HT := Lib.hid (take_any w1.heap.size w1.heap.size out cur pa pt _ hsol hok (by rw [World.size_alloc]; omega) (hrd.below hal))
        have hbl := (MapKept.heap_alloc wr (.cells #[.int .i64 (pa : Int), .string (str pt)] 57)).1
        have hokn := ok_step (p := (pa, pt)) hok
        have HAl := Lib.hid (And.intro hbl (And.intro (hb.alloc hsz (.cells #[.int .i64 (pa : Int), .string (str pt)] 57)) hokn))
        obtain ⟨T, hT⟩ : ∃ T, str pt = T := ⟨_, rfl⟩
        obtain ⟨Q, hQ⟩ : ∃ Q, st9 out cur (pa, pt) = Q := ⟨_, rfl⟩
        rw [hT, hQ] at HT
        rw [hT, hQ] at HAl
        rw [hT] at k1
        rw [hQ] at hp
        clear hT hQ hbl hal hok hrd hdr hpe hsol hokn
        obtain ⟨qc, qo, qr⟩ := Q
        dsimp only at HT HAl hp
        have q0 : (0 : Int) ≤ k := by omega
        have q1 : (k : Int) < n := by omega
        have HB := Lib.hid (And.intro hb hsz)
        clear hb hsz
        by_cases hqc : qc = 0
        · subst hqc
          rw [if_pos rfl] at hp
          rw [errE_zero] at HT
          have HPr := Lib.hid hp
          clear hp
          go_wp2_with fail
          refine HT.out.mono ?_
          rintro e w2 ⟨rfl, hk9, hr9⟩
          have HK := Lib.hid (And.intro hk9 (hr9 trivial))
          clear hk9 hr9
          go_wp2_with fail
          refine ⟨⟨k + 1, by go_num, hlt, HAl.out.2.1.trans HK.out.1.below, ?_, qo, qr, HAl.out.2.2 trivial, HK.out.2, HPr.out⟩, by simp [intOf]; omega⟩
          have h1 := HK.out.1.below.size
          rw [World.size_alloc] at h1
          have h2 := HB.out.2
          omega
        · rw [if_neg hqc] at hp
          have he := errE_num hqc
          have HPr := Lib.hid (And.intro hp hqc)
          unfold errK at he
          rw [he] at HT
          clear hp hqc he
          go_wp2_with fail
          refine HT.out.mono ?_
          rintro e w2 ⟨rfl, hk9, _⟩
          have hline := hk9.kept _ _ _ _ HAl.out.1 (by decide) (by decide) (by decide)
          have kl := cell_blk hline 0 (v := .int .i64 (pa : Int)) rfl
          have hb2 := HAl.out.2.1.trans hk9.below
          have HB2 := Lib.hid hb2
          have HW := Lib.hid (wrong_any pa qc w2 (HH.out.2.2.2.2.1.below (hb2.mono (Nat.le_refl _))))
          unfold errK at HW
          clear hk9 hline hb2
          go_wp2_with fail
          refine HW.out.mono ?_
          rintro e w3 ⟨rfl, hb3⟩
          have hB3 : Below w1.heap.size w1 w3 := HB2.out.trans (hb3.mono HB2.out.size)
          have hpl := (hB3.block _ hz1).trans HH.out.2.1
          have HP := Lib.hid (And.intro hpl (HH.out.2.2.1.trans (hB3.mono (Nat.le_of_lt hz1))))
          have p0 := cell_blk hpl 0 (v := .int .i64 0) rfl
          have p1 := cell_blk hpl 1 (v := .int .i64 0) rfl
          have q0 := frz_blk hpl 0
          have q1 := frz_blk hpl 1
          clear hpl hb3 hB3 kl
          go_wp2_with fail
          refine bodyPost_ret (results_tct rfl _ _ w.heap.size _ #[.int .i64 (pa : Int), .int .i64 (qc : Int)] (0, 0) _ rfl (set2 HP.out.1) Tryz.underlying26 rfl (by kernel_rfl)) rfl ?_
          have hB := (HP.out.2.setCell (p := ⟨w.heap.size, 0, none⟩) (Nat.le_refl _) (.int .i64 (pa : Int))).setCell (p := ⟨w.heap.size, 1, none⟩) (Nat.le_refl _) (.int .i64 (qc : Int))
          exact tp_no HPr.out.1 HPr.out.2 hB
      · obtain rfl : k = n := by omega
        have q1 : ¬ ((k : Int) < k) := by omega
        rw [List.drop_eq_nil_of_le (by rw [HN.out]; exact Nat.le_refl _)] at hp
        have hpl := (hb.block _ hz1).trans HH.out.2.1
        have HP := Lib.hid (And.intro hpl (HH.out.2.2.1.trans (hb.mono (Nat.le_of_lt hz1))))
        cases cur with
        | none =>
          rw [prs] at hp
          obtain ⟨v, m, Z, hc, hzs, hbd⟩ := (show Out9 wr w1.heap.size w1.heap.size out from hrd).st
          have c0 := cell_blk hc 0 (v := v) rfl
          have c1 := cell_blk hc 1 (v := .bool false) rfl
          have hrow := hbd.rowB
          rw [hzs] at hrow
          obtain ⟨A9, c9, hv9, hrow9⟩ := hrow.form
          have HRW := Lib.hid (And.intro hp (And.intro hbd hzs))
          rw [hv9] at c0
          have p0 := cell_blk hpl 0 (v := .int .i64 0) rfl
          have p1 := cell_blk hpl 1 (v := .int .i64 0) rfl
          have q0 := frz_blk hpl 0
          have q1' := frz_blk hpl 1
          obtain ⟨nn, hnn⟩ : ∃ nn, (out.map iB).length = nn := ⟨_, rfl⟩
          rw [hnn] at c0
          have HV9 := Lib.hid (And.intro hv9 hnn)
          clear hrow hrow9 hp hc hzs hbd hrd hok hpl hb hsz hnn hv9
          go_wp2_with fail
          refine bodyPost_ret (results_tct rfl _ _ w.heap.size _ #[.int .i64 0, .int .i64 0] (0, 0) _ rfl (set2 HP.out.1) Tryz.underlying26 rfl (by kernel_rfl)) rfl ?_
          have hB := (HP.out.2.setCell (p := ⟨w.heap.size, 0, none⟩) (Nat.le_refl _) (.int .i64 0)).setCell (p := ⟨w.heap.size, 1, none⟩) (Nat.le_refl _) (.int .i64 0)
          have hrw := (HRW.out.2.1.other (w' := (wr.setCell ⟨w.heap.size, 0, none⟩ (.int .i64 0)).setCell ⟨w.heap.size, 1, none⟩ (.int .i64 0)) fun i hi => (heap_setCell_other _ _ i _ (show i ≠ w.heap.size by omega)).trans (heap_setCell_other _ _ i _ (show i ≠ w.heap.size by omega))).rowB
          rw [HRW.out.2.2, HV9.out.1, HV9.out.2] at hrw
          exact tp_all HRW.out.1 hrw hB
        | some b =>
          rw [prs] at hp
          obtain ⟨v, vF, mb, B, Z, hi⟩ := (show ∃ v vF mb B Z, In9 wr w1.heap.size w1.heap.size out b v vF mb B Z from hrd)
          obtain ⟨gb, cap, rfl, _⟩ := hi.own.form (by omega)
          obtain ⟨m, hm⟩ : ∃ m, Z.length = m := ⟨_, rfl⟩
          have hmo : m ≤ 1024 := by
            have h1 := congrArg List.length hi.same
            have h2 := (show out.length < 1024 ∧ b.2.2.length ≤ 64 from hok).1
            simp at h1
            omega
          have hc := hi.cell
          rw [hm] at hc
          have hx : wr.cell? ⟨gb, m * 3 + 0, none⟩ = some (.int .i64 (b.1 : Int)) := by
            have ho := hi.own
            rw [hm] at ho
            have hq : ((Z ++ [(iB b, vF)]).flatMap bkC)[m * 3 + 0]? = some (.int .i64 (b.1 : Int)) := by rw [← hm]; exact bkcat_last Z (iB b, vF) 0 (by omega)
            exact (ho.cellAt (m * 3 + 0) (by omega)).trans hq
          have HL := Lib.hid (last_any w1.heap.size m (m + 1) cap ⟨gb, 0, none⟩ (.bool true) (.map (some mb)) wr rfl (by omega) hc)
          rw [add_at0] at HL
          obtain ⟨K, hK⟩ : ∃ K, m * 3 = K := ⟨_, rfl⟩
          rw [hK] at HL hx
          have c1 := cell_blk hc 1 (v := .bool true) rfl
          have HE := Lib.hid (And.intro hp (HH.out.2.2.2.2.1.below hb))
          clear hi hc hrd hok hpl hb hsz hp hm hmo hK
          have hx' : wr.cell? ⟨gb, K, none⟩ = some (.int .i64 (b.1 : Int)) := hx
          clear hx
          go_wp2_with fail
          refine HL.out.mono ?_
          rintro e w2 ⟨rfl, q, rfl⟩
          have HW := Lib.hid (wrong_any b.1 4 (wr.drewN q) (HE.out.2.drewN q))
          unfold errK at HW
          have hx2 : (wr.drewN q).cell? ⟨gb, K, none⟩ = some (.int .i64 (b.1 : Int)) := hx'
          clear hx'
          go_wp2_with fail
          refine HW.out.mono ?_
          rintro e w3 ⟨rfl, hb3⟩
          have hb4 : Below wr.heap.size wr w3 := (below_dr wr q).trans hb3
          have hpl := (hb4.block _ (blk_lt HP.out.1)).trans HP.out.1
          have HP3 := Lib.hid (And.intro hpl (HP.out.2.trans (hb4.mono (Nat.le_of_lt (blk_lt HP.out.1)))))
          have p0 := cell_blk hpl 0 (v := .int .i64 0) rfl
          have p1 := cell_blk hpl 1 (v := .int .i64 0) rfl
          have q0 := frz_blk hpl 0
          have q1' := frz_blk hpl 1
          clear hpl hb3 hb4 hx2
          go_wp2_with fail
          refine bodyPost_ret (results_tct rfl _ _ w.heap.size _ #[.int .i64 (b.1 : Int), .int .i64 4] (0, 0) _ rfl (set2 HP3.out.1) Tryz.underlying26 rfl (by kernel_rfl)) rfl ?_
          have hB := (HP3.out.2.setCell (p := ⟨w.heap.size, 0, none⟩) (Nat.le_refl _) (.int .i64 (b.1 : Int))).setCell (p := ⟨w.heap.size, 1, none⟩) (Nat.le_refl _) (.int .i64 4)
          exact tp_no HE.out.1 (by decide) hB
  · rw [if_pos hc] at HR
    have he := errE_num hc
    have HCn := Lib.hid hc
    unfold errK at he
    unfold TL at HLn
    rw [he] at HLn
    clear he hc hL6
    go_enter Tryz.func7, Tryz.ntmps7
    go_wp2_with fail
    refine HLn.out.mono ?_
    rintro e w1 ⟨v, rfl, hv, hb⟩
    have HH := Lib.hid (And.intro hv (HP0.out w1 hb))
    have HW := Lib.hid (wrong_any la lc w1 HH.out.2.2.2.2.1)
    unfold errK at HW
    clear hv hb
    go_wp2_with fail
    refine HW.out.mono ?_
    rintro e w2 ⟨rfl, hb2⟩
    have hpl := (hb2.block _ HH.out.2.2.2.2.2).trans HH.out.2.1
    have HP := Lib.hid (And.intro hpl (HH.out.2.2.1.trans (hb2.mono (Nat.le_of_lt HH.out.2.2.2.2.2))))
    have p0 := cell_blk hpl 0 (v := .int .i64 0) rfl
    have p1 := cell_blk hpl 1 (v := .int .i64 0) rfl
    have q0 := frz_blk hpl 0
    have q1 := frz_blk hpl 1
    clear hpl hb2
    go_wp2_with fail
    refine bodyPost_ret (results_tct rfl _ _ w.heap.size _ #[.int .i64 (la : Int), .int .i64 (lc : Int)] (0, 0) _ rfl (set2 HP.out.1) Tryz.underlying26 rfl (by kernel_rfl)) rfl ?_
    have hB := (HP.out.2.setCell (p := ⟨w.heap.size, 0, none⟩) (Nat.le_refl _) (.int .i64 (la : Int))).setCell (p := ⟨w.heap.size, 1, none⟩) (Nat.le_refl _) (.int .i64 (lc : Int))
    exact tp_no HR.out.symm HCn.out hB
end Go.Proofs.YtbeehedppofpnaaGreatDoor

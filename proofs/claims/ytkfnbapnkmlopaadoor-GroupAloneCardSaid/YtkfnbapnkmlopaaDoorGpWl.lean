/- GpWy, GpLf, GpPt, in one text. -/
import Derived.Test.YtkfnbapnkmlopaaDoorGpFi
import Derived.Test.YtkfnbapnkmlopaaDoorGrRp
import Derived.Test.YtkfnbapnkmlopaaDoorGpGi
/- Plain: the ways that the program hands to layer 12: from a group's groups to it. -/
namespace Go.Proofs.YtkfnbapnkmlopaaDoor

def wyR (g : List Grp) (i : Nat) : Wt := (List.range i).flatMap fun k => (ptL g k).map fun p => (p, k)
theorem ptL_lt {g : List Grp} {i p : Nat} (h : p ∈ ptL g i) : p < g.length := List.mem_range.1 (List.mem_filter.1 h).1
theorem ptL_len (g : List Grp) (i : Nat) : (ptL g i).length ≤ g.length := by
  unfold ptL
  have := List.length_filter_le (fdS (gN g) (grG g i)) (List.range g.length)
  rwa [List.length_range] at this
theorem wyR_succ (g : List Grp) (i : Nat) : wyR g (i + 1) = wyR g i ++ (ptL g i).map fun p => (p, i) := by
  unfold wyR
  rw [List.range_succ, List.flatMap_append]
  simp
theorem wyR_len (g : List Grp) : ∀ i, (wyR g i).length ≤ i * g.length
  | 0 => by simp [wyR]
  | i + 1 => by
    have h1 := wyR_len g i
    have h2 := ptL_len g i
    rw [wyR_succ, List.length_append, List.length_map, Nat.succ_mul]
    omega
theorem wyR_mem {g : List Grp} {n i p : Nat} : (p, i) ∈ wyR g n ↔ i < n ∧ p ∈ ptL g i := by
  unfold wyR
  rw [List.mem_flatMap]
  constructor
  · rintro ⟨k, hk, h⟩
    obtain ⟨q, hq, e⟩ := List.mem_map.1 h
    injection e with e1 e2
    subst e1 e2
    exact ⟨List.mem_range.1 hk, hq⟩
  · rintro ⟨h1, h2⟩
    exact ⟨i, List.mem_range.2 h1, List.mem_map.2 ⟨p, h2, rfl⟩⟩
theorem wyR_ok (g : List Grp) : Okw g.length (wyR g g.length) := fun p hp => by
  obtain ⟨a, b⟩ := p
  obtain ⟨h1, h2⟩ := wyR_mem.1 hp
  exact ⟨ptL_lt h2, h1⟩
theorem ptL_eG {g : List Grp} {x : List Itm} {i p : Nat} (hno : nonB g x i = false) (hi : i < g.length) : p ∈ ptL g i ↔ p ∈ eG g i := by
  have ha : g[i]? = some g[i] := List.getElem?_eq_getElem hi
  rw [nonB_eq ha, Bool.or_eq_false_iff] at hno
  have hn := hno.2
  unfold noS at hn
  rw [List.any_eq_false] at hn
  unfold ptL
  rw [List.mem_filter, List.mem_range, grG_at ha, eG_at ha, List.mem_map]
  unfold fdS
  rw [List.any_eq_true]
  constructor
  · rintro ⟨_, s, hs, e⟩
    exact ⟨s, hs, by rw [of_decide_eq_true e]; rfl⟩
  · rintro ⟨s, hs, e⟩
    have h0 : ¬ ixI (gN g) s < 0 := fun h => hn s hs (decide_eq_true h)
    have e2 : ixI (gN g) s = p := by omega
    have hl := ixI_lt e2
    rw [gN_len] at hl
    exact ⟨hl, s, hs, decide_eq_true e2⟩
theorem wy_sub {E E' : Nat → List Nat} (h : ∀ i j, j ∈ E i → j ∈ E' i) {i j : Nat} (hw : Wy E i j) : Wy E' i j := by
  induction hw with
  | one h1 => exact .one (h _ _ h1)
  | more h1 _ ih => exact .more (h _ _ h1) ih
theorem wyR_iff {g : List Grp} {x : List Itm} (hno : ∀ i, i < g.length → nonB g x i = false) {p i : Nat} : (p, i) ∈ wyR g g.length ↔ (i, p) ∈ wyG g := by
  rw [wyR_mem, wyG_mem]
  constructor
  · rintro ⟨h1, h2⟩
    exact (ptL_eG (hno i h1) h1).1 h2
  · intro h
    have hi : i < g.length := Classical.byContradiction fun hn => by rw [eG_out (by omega)] at h; cases h
    exact ⟨hi, (ptL_eG (hno i hi) hi).2 h⟩
theorem wyR_loop {g : List Grp} {x : List Itm} (hno : ∀ i, i < g.length → nonB g x i = false) (i : Nat) : Wy (eM (wyR g g.length)) i i ↔ Wy (eM (wyG g)) i i := by
  have h1 : ∀ a b, b ∈ eM (wyR g g.length) a ↔ b ∈ eM (rvM (wyG g)) a := fun a b => by rw [eM_mem, eM_mem, rv_mem, wyR_iff hno]
  constructor
  · intro h
    exact rv_iff.1 (wy_sub (fun a b => (h1 a b).1) h)
  · intro h
    exact wy_sub (fun a b => (h1 a b).2) (rv_iff.2 h)
theorem wyR_cyc {g : List Grp} {x : List Itm} (hno : ∀ i, i < g.length → nonB g x i = false) (hl : fiN g.length (lopB g) = none) : ¬ Cyc (eM (wyR g g.length)) := by
  rintro ⟨i, hi⟩
  have hlt := (hi.lt (wyR_ok g)).1
  exact lopB_no.1 (fiN_none hl i hlt) ((wyR_loop hno i).1 hi)
theorem lpT_wyR {g : List Grp} {x : List Itm} (hno : ∀ i, i < g.length → nonB g x i = false) : lpT (wyR g g.length) g.length = fiN g.length (lopB g) := by
  cases h : fiN g.length (lopB g) with
  | some i =>
    obtain ⟨h1, h2, h3⟩ := fiN_some h
    exact lpT_of h1 ((wyR_loop hno i).2 (lopB_yes.1 h2)) fun y hy hw => lopB_no.1 (h3 y hy) ((wyR_loop hno y).1 hw)
  | none => exact (lpT_none (wyR_ok g)).2 (wyR_cyc hno h)
theorem ntW_cst (M : Wt) : ntW (cst M) = M := by
  unfold ntW cst
  rw [List.map_map]
  conv => rhs; rw [← List.map_id M]
  exact List.map_congr_left fun p _ => rfl
theorem ckW_cst {n : Nat} {M : Wt} (hn : n ≤ 4096) (hl : M.length ≤ 1048576) (hM : Okw n M) : ckW (n : Int) (cst M) = 0 := by
  rw [ckW_eq, if_neg (by rw [cst_len]; omega), if_neg]
  rw [Bool.not_eq_true, List.any_eq_false]
  intro p hp
  unfold cst at hp
  obtain ⟨q, hq, rfl⟩ := List.mem_map.1 hp
  have h := hM q hq
  unfold badE
  simp
  omega
end Go.Proofs.YtkfnbapnkmlopaaDoor
/- Contract: lookForLoops. -/
namespace Go.Proofs.YtkfnbapnkmlopaaDoor
open Go.RowKit

/-- What lookForLoops answers. -/
def LfE (ps : Nat) (gv xv c d e f : Value) (g : List Grp) (w : World) (en : Ending) (w' : World) : Prop := w.grownBy w' (some ps) ∧ match fiN g.length (lopB g) with
  | some i => en = .returned (.tuple #[.int .i64 (i : Nat), errE 9])
  | none => en = .returned (.tuple #[.int .i64 0, .nilIface]) ∧ ∃ ov, w'.heap[ps]? = some (whC gv xv c d e f ov) ∧ RowN w' ov (ordT (wyR g g.length) g.length)
section
variable {ps : Nat} {gv xv c d e f : Value} {g : List Grp} {w w' : World} {en : Ending}
theorem LfE.no {i : Nat} (hg : w.grownBy w' (some ps)) (h : fiN g.length (lopB g) = some i) (he : en = .returned (.tuple #[.int .i64 (i : Nat), errK 9])) : LfE ps gv xv c d e f g w en w' := by
  unfold LfE
  rw [h]
  exact ⟨hg, he⟩
theorem LfE.ok {ov : Value} (hg : w.grownBy w' (some ps)) (h : fiN g.length (lopB g) = none) (he : en = .returned (.tuple #[.int .i64 0, .nilIface])) (hb : w'.heap[ps]? = some (whC gv xv c d e f ov)) (hr : RowN w' ov (ordT (wyR g g.length) g.length)) : LfE ps gv xv c d e f g w en w' := by
  unfold LfE
  rw [h]
  exact ⟨hg, he, ov, hb, hr⟩
end
theorem rowN_set {W : World} {p : Addr} {v u : Value} {L : List Nat} (h : RowN W v L) (hp : W.cell? p = some nilS) : RowN (W.setCell p u) v L := by
  obtain ⟨A, c, e, h1, h2, h3⟩ := h
  refine ⟨A, c, e, h1, h2, fun h4 => ?_⟩
  obtain ⟨ad, ea, hc⟩ := h3 h4
  refine ⟨ad, ea, fun j y hy => ?_⟩
  have h5 := hc j y hy
  rw [World.cell?_setCell_other]
  · exact h5
  · intro e2
    rw [← e2, hp] at h5
    rw [List.getElem?_map] at hy
    obtain ⟨k, _, rfl⟩ := Option.map_eq_some_iff.1 hy
    cases h5
set_option maxRecDepth 100000 in
set_option maxHeartbeats 8000000 in
theorem loops_any (ps : Nat) (A : Option Addr) (n ca : Nat) (xv c d e f : Value) (g : List Grp) (x : List Itm) (w : World) (hn : g.length = n)
    (h : w.heap[ps]? = some (whC (.slice A n ca) xv c d e f nilS)) (hp : RowLL w f ((List.range n).map (ptL g))) (hl : n ≤ 1024) (hno : ∀ i, i < n → nonB g x i = false) :
    Calls Tryd.prog 20 #[.pointer (some ⟨ps, 0, none⟩)] w (LfE ps (.slice A n ca) xv c d e f g w) := by
  obtain ⟨B, cb, rfl, hr⟩ := hp.form
  have hlen : ((List.range n).map (ptL g)).length = n := by rw [List.length_map, List.length_range]
  rw [hlen] at hr h ⊢
  have hwl := wyR_len g n
  have hwok := wyR_ok g
  have hlp := lpT_wyR (g := g) (x := x) (by rw [hn]; exact hno)
  rw [hn] at hwl hwok hlp
  have hml : (wyR g n).length ≤ 1048576 := Nat.le_trans hwl (Nat.mul_le_mul hl hl)
  have hck := ckW_cst (n := n) (by omega) hml hwok
  have hpb := h
  unfold whC at hpb
  have c5 := cell9_blk hpb 5 (v := .slice B n cb) rfl
  have hpl := blk9_lt h
  have HA := Lib.hid (And.intro h (And.intro hr (And.intro hn (And.intro hpl (And.intro hck hlp)))))
  clear h hr hp hlen hpb hpl hwl hwok hck hlp hml hno
  go_enter Tryd.func20, Tryd.ntmps20
  go_wp2_with fail
  clear c5
  go_loopw [4, 17] (fun wv iv wr => ∃ (i k : Nat), iv = .int .i64 i ∧ i ≤ n ∧ Below w.heap.size w wr ∧ (wyR g i).length = k ∧ wr.ownsRow w.heap.size 87 2 wv k ((cst (wyR g i)).flatMap wyC)) (fun _ iv _ => n - (intOf iv).toNat)
  case atStart => exact ⟨0, 0, rfl, Nat.zero_le _, Below.refl _ _, rfl, World.ownsRow_nil _ _ _ _⟩
  case round =>
    obtain ⟨i, k, rfl, hi, hb, hk, ho⟩ := hrel
    by_cases hin : i < n
    · have q0 : (0 : Int) ≤ i := by omega
      have q1 : (i : Int) < n := by omega
      obtain ⟨ad, l, Al, cl, rfl, hl2, k0w, hrl⟩ := HA.out.2.1.at9.2.2.2 i hin
      have k0 := cell9_below k0w hb
      have hle : l = ptL g i := by
        rw [List.getElem?_map, List.getElem?_range hin] at hl2
        exact (Option.some.inj hl2).symm
      have hll := ptL_len g i
      rw [← hle, HA.out.2.2.1] at hll
      obtain ⟨ll, hlle⟩ : ∃ y, l.length = y := ⟨_, rfl⟩
      rw [hlle] at k0 hrl hll
      have hki := wyR_len g i
      rw [hk, HA.out.2.2.1] at hki
      have hkb : k + ll ≤ 1048576 := by
        have h1 : (i + 1) * n ≤ 1024 * 1024 := Nat.mul_le_mul (by omega) hl
        rw [Nat.succ_mul] at h1
        omega
      have HK := Lib.hid (And.intro hb (And.intro hk (And.intro ho (And.intro hle (And.intro hlle hrl)))))
      clear hb hk ho hle hlle hrl hki hl2 k0w
      go_wp2_with fail
      clear k0
      go_loopw [4, 24] (fun wv tv wr => ∃ t : Nat, tv = .int .i64 t ∧ t ≤ ll ∧ Below w.heap.size w wr ∧ wr.ownsRow w.heap.size 87 2 wv (k + t) ((cst (wyR g i ++ (l.take t).map fun p => (p, i))).flatMap wyC)) (fun _ tv _ => ll - (intOf tv).toNat)
      case atStart => exact ⟨0, rfl, Nat.zero_le _, HK.out.1, by rw [List.take_zero, List.map_nil, List.append_nil]; exact HK.out.2.2.1⟩
      case round =>
        obtain ⟨t, rfl, ht, hb, ho⟩ := hrel
        by_cases htl : t < ll
        · have s0 : (0 : Int) ≤ t := by omega
          have s1 : (t : Int) < ll := by omega
          obtain ⟨al, p, rfl, hpt, cp⟩ := (HK.out.2.2.2.2.2.below hb).at9.2.2.2 t htl
          have htk : l.take (t + 1) = l.take t ++ [p] := by
            obtain ⟨h1, h2⟩ := List.getElem?_eq_some_iff.1 hpt
            rw [List.take_succ_eq_append_getElem h1, h2]
          have hsz := hb.size
          have HT := Lib.hid (And.intro hb (And.intro ho htk))
          clear hb ho htk hpt
          go_wp2_with
            (at_builtin
             refine wpList_appG rfl (.tmp 28) (.tmp 32) 86 rfl Tryd.underlying86 infoW rfl (by omega) w.heap.size u4 (k + t) ((cst (wyR g i ++ (l.take t).map fun p => (p, i))).flatMap wyC) rfl (own_sameO HT.out.2.1 ((Below.refl wr.heap.size wr).alloc (Nat.le_refl _) _)) (some ⟨wr.heap.size, 0, none⟩) 1 1 [.int .i64 (p : Nat), .int .i64 (i : Nat)] rfl rfl (rd_oneW wr p i) (one_two _ _) (by unfold maxLen; omega) (by omega) (by rw [World.size_alloc]; omega) ?_
             intro v' w9 ho hg hob
             have HN2 := Lib.hid (And.intro ho hg)
             clear ho hg hob)
          have hal : Below w.heap.size w (wr.alloc (.cells #[.int .i64 (p : Nat), .int .i64 (i : Nat)] 87)) := HT.out.1.alloc HT.out.1.size _
          refine ⟨⟨t + 1, by go_num, htl, Below.grown hal HN2.out.2 hal.size (fun b hb => (HT.out.2.1.lt b hb).1), ?_⟩, by simp [intOf]; omega⟩
          have e : (cst (wyR g i ++ (l.take (t + 1)).map fun p => (p, i))).flatMap wyC = (cst (wyR g i ++ (l.take t).map fun p => (p, i))).flatMap wyC ++ [.int .i64 (p : Nat), .int .i64 (i : Nat)] := by
            rw [HT.out.2.2]
            unfold cst
            simp [wyC]
          rw [e]
          exact HN2.out.1
        · obtain rfl : ll = t := by omega
          have s1 : ¬ (ll : Int) < ll := by omega
          rw [List.take_of_length_le (by rw [HK.out.2.2.2.2.1]; exact Nat.le_refl _), HK.out.2.2.2.1, ← wyR_succ] at ho
          have HT := Lib.hid (And.intro hb ho)
          clear hb ho
          go_wp2_with fail
          refine ⟨⟨i + 1, k + ll, by go_num, hin, HT.out.1, ?_, HT.out.2⟩, by simp [intOf]; omega⟩
          rw [wyR_succ, List.length_append, List.length_map, HK.out.2.1, ← HK.out.2.2.2.1, HK.out.2.2.2.2.1]
    · obtain rfl : n = i := by omega
      have r1 : ¬ (n : Int) < n := by omega
      have hrw : RowW wr u4 (cst (wyR g n)) := RowW.owned (by rw [cst_len]; exact hk) ho
      have hlp := pg_lp (n : Int) u4 (cst (wyR g n)) wr ⟨by omega, by omega⟩ hrw
      have hor := fun V (hV : Below wr.heap.size wr V) => pg_or (n : Int) u4 (cst (wyR g n)) V ⟨by omega, by omega⟩ (hrw.below hV)
      have hpb := (hb.block ps HA.out.2.2.2.1).trans HA.out.1
      unfold whC at hpb
      have c0 := cell9_blk hpb 0 (v := .slice A n ca) rfl
      cases hc : fiN n (lopB g) with
      | some i =>
        have hc2 := HA.out.2.2.2.2.2
        rw [hc] at hc2
        rw [lpA_yes (x := i) HA.out.2.2.2.2.1 (by rw [nt_cst, Int.toNat_natCast]; exact hc2), errE_zero] at hlp
        have HL := Lib.hid hlp
        have HT := Lib.hid (And.intro hb hc)
        clear hlp hor hb ho hk hrw hpb hc hc2
        go_wp2_with fail
        with_reducible refine HL.out.mono ?_
        rintro en w2 ⟨rfl, hb2⟩
        have HB2 := Lib.hid (HT.out.1.trans (hb2.mono HT.out.1.size))
        clear hb2
        go_wp2_with fail
        go_ret2
        exact LfE.no (grown_ofBW HB2.out _) (by rw [HA.out.2.2.1]; exact HT.out.2) rfl
      | none =>
        have hc2 := HA.out.2.2.2.2.2
        rw [hc] at hc2
        rw [lpA_no HA.out.2.2.2.2.1 (by rw [nt_cst, Int.toNat_natCast]; exact hc2), errE_zero] at hlp
        rw [orA_ok HA.out.2.2.2.2.1 (by rw [nt_cst, Int.toNat_natCast]; exact hc2), nt_cst, Int.toNat_natCast] at hor
        unfold AnsL at hor
        dsimp only at hor
        rw [errE_zero] at hor
        have HL := Lib.hid hlp
        have HO := Lib.hid hor
        have HT := Lib.hid (And.intro hb hc)
        clear hlp hor hb ho hk hrw hpb hc hc2
        go_wp2_with fail
        with_reducible refine HL.out.mono ?_
        rintro en w2 ⟨rfl, hb2⟩
        have hbw2 := HT.out.1.trans (hb2.mono HT.out.1.size)
        have hp2 := (hbw2.block ps HA.out.2.2.2.1).trans HA.out.1
        have d0 := cell9_blk hp2 0 (v := .slice A n ca) rfl
        have HB2 := Lib.hid (And.intro hbw2 hb2)
        clear hb2 hbw2 hp2 c0
        go_wp2_with fail
        with_reducible refine (HO.out _ HB2.out.2).mono ?_
        rintro en w3 ⟨Ao, co, rfl, hro, hb3⟩
        have hbw3 := HB2.out.1.trans (hb3.mono HB2.out.1.size)
        have hp3 := (hbw3.block ps HA.out.2.2.2.1).trans HA.out.1
        have d6 := cell9_blk hp3 6 (v := .slice none 0 0) rfl
        have f6 := frz9_blk hp3 6
        have HB3 := Lib.hid (And.intro hbw3 (And.intro hp3 hro))
        clear hb3 hbw3 hp3 hro d0
        go_wp2_with fail
        go_ret2
        refine LfE.ok (ov := .slice Ao (ordT (wyR g n) n).length co) (grown_setW (grown_ofBW HB3.out.1 _)) (by rw [HA.out.2.2.1]; exact HT.out.2) rfl (heap_setCell_same _ ps 6 _ _ _ HB3.out.2.1) ?_
        rw [HA.out.2.2.1]
        exact rowN_set HB3.out.2.2 (cell9_blk HB3.out.2.1 6 (v := nilS) rfl)
end Go.Proofs.YtkfnbapnkmlopaaDoor
/- Plain: members by name and word are the document's; groups take over from their groups, these first. -/
namespace Go.Proofs.YtkfnbapnkmlopaaDoor

theorem fdS_name {L l : List Tx} {p : Nat} (hp : p < L.length) (ht : twB L p = false) : fdS L l p = l.contains L[p] := by
  unfold twB at ht
  have hd : L.getD p [] = L[p] := by rw [List.getD_eq_getElem?_getD, List.getElem?_eq_getElem hp]; rfl
  rw [hd] at ht
  have hix : ixI L L[p] = p := by simpa using ht
  unfold fdS
  rw [Bool.eq_iff_iff, List.any_eq_true, List.contains_iff_mem]
  constructor
  · rintro ⟨s, hs, e⟩
    have h1 := (ixI_at (of_decide_eq_true e)).1
    rw [List.getElem?_eq_getElem hp] at h1
    rw [Option.some.inj h1]
    exact hs
  · intro h
    exact ⟨_, h, decide_eq_true hix⟩
theorem F2_dir {g : List Grp} {x : List Itm} (tg : ∀ i, i < g.length → twB (gN g) i = false) (ti : ∀ i, i < x.length → twB (iN x) i = false) {i : Nat} (hi : i < g.length) (p : Nat) : F2 g x x.length i p = dirB g x i p := by
  have ha : g[i]? = some g[i] := List.getElem?_eq_getElem hi
  unfold F2 mbF dirB
  rw [mG_at ha, ha]
  by_cases hp : p < x.length
  · have hb : x[p]? = some x[p] := List.getElem?_eq_getElem hp
    have h1 := fdS_name (l := g[i].2.1) (show p < (iN x).length by rw [iN_len]; exact hp) (ti p hp)
    have h2 := fdS_name (l := x[p].2) (show i < (gN g).length by rw [gN_len]; exact hi) (tg i hi)
    have e1 : (iN x)[p]'(by rw [iN_len]; exact hp) = x[p].1 := by unfold iN; rw [List.getElem_map]
    have e2 : (gN g)[i]'(by rw [gN_len]; exact hi) = g[i].1 := by unfold gN; rw [List.getElem_map]
    rw [e1] at h1
    rw [e2] at h2
    rw [h1, decide_eq_true hp, Bool.true_and, iG_at hb, h2, hb]
    rfl
  · rw [decide_eq_false hp, Bool.false_and, Bool.or_false, List.getElem?_eq_none (by omega)]
    cases h : fdS (iN x) g[i].2.1 p with
    | false => rfl
    | true =>
      have := fdS_lt h
      rw [iN_len] at this
      omega
/-- t groups of the order have all their members, the next one those of s of its groups. -/
def PtI (g : List Grp) (x : List Itm) (D : List Nat) (t s : Nat) (F : Nat → Nat → Bool) : Prop :=
  ∀ a, a < g.length → ∀ p, F a p = true ↔ (if a ∈ D.take t then memB g x a p else if D[t]? = some a then (dirB g x a p = true ∨ ∃ q ∈ (ptL g a).take s, memB g x q p) else dirB g x a p = true)
section
variable {g : List Grp} {x : List Itm} {D : List Nat} {t s : Nat} {F F' : Nat → Nat → Bool}
theorem PtI.start (hF : ∀ a, a < g.length → ∀ p, F a p = dirB g x a p) : PtI g x D 0 0 F := fun a ha p => by
  rw [hF a ha p, if_neg (by simp)]
  split
  · simp
  · rfl
theorem PtI.step (h : PtI g x D t s F) (ho : Orw (wyR g g.length) g.length D) {i q : Nat} (hi : D[t]? = some i) (hq : (ptL g i)[s]? = some q) (hF : ∀ a, a < g.length → ∀ p, F' a p = if a = i then (F i p || F q p) else F a p) : PtI g x D t (s + 1) F' := fun a ha p => by
  have hil := ho.lt i (List.mem_of_getElem? hi)
  have hqm := List.mem_of_getElem? hq
  have hqt : q ∈ D.take t := ho.pre t i hi q (wyR_mem.2 ⟨hil, hqm⟩)
  have hit : i ∉ D.take t := nodup_take ho.nd hi
  rw [hF a ha p]
  by_cases e : a = i
  · subst e
    have h1 := h a ha p
    have h2 := h q (ptL_lt hqm) p
    rw [if_neg hit, if_pos hi] at h1
    rw [if_pos hqt] at h2
    rw [if_pos rfl, Bool.or_eq_true, h1, h2, if_neg hit, if_pos hi]
    obtain ⟨k1, k2⟩ := List.getElem?_eq_some_iff.1 hq
    rw [List.take_succ_eq_append_getElem k1, k2]
    constructor
    · rintro ((hd | ⟨z, hz, hm⟩) | hm)
      · exact .inl hd
      · exact .inr ⟨z, List.mem_append.2 (.inl hz), hm⟩
      · exact .inr ⟨q, List.mem_append.2 (.inr (List.mem_singleton.2 rfl)), hm⟩
    · rintro (hd | ⟨z, hz, hm⟩)
      · exact .inl (.inl hd)
      · rcases List.mem_append.1 hz with hz | hz
        · exact .inl (.inr ⟨z, hz, hm⟩)
        · rw [List.mem_singleton.1 hz] at hm
          exact .inr hm
  · rw [if_neg e, h a ha p]
    have e2 : ¬ D[t]? = some a := fun h3 => e (by rw [hi] at h3; exact (Option.some.inj h3).symm)
    rw [if_neg e2, if_neg e2]
theorem PtI.next (hno : ∀ i, i < g.length → nonB g x i = false) (ho : Orw (wyR g g.length) g.length D) {i : Nat} (hi : D[t]? = some i) (h : PtI g x D t (ptL g i).length F) : PtI g x D (t + 1) 0 F := fun a ha p => by
  have hil := ho.lt i (List.mem_of_getElem? hi)
  have hit : i ∉ D.take t := nodup_take ho.nd hi
  obtain ⟨k1, k2⟩ := List.getElem?_eq_some_iff.1 hi
  rw [h a ha p, List.take_succ_eq_append_getElem k1, k2]
  by_cases e : a = i
  · subst e
    rw [if_neg hit, if_pos hi, if_pos (List.mem_append.2 (.inr (List.mem_singleton.2 rfl))), List.take_length, memB_iff]
    constructor
    · rintro (hd | ⟨z, hz, hm⟩)
      · exact .inl hd
      · exact .inr ⟨z, (ptL_eG (hno a ha) ha).1 hz, hm⟩
    · rintro (hd | ⟨z, hz, hm⟩)
      · exact .inl hd
      · exact .inr ⟨z, (ptL_eG (hno a ha) ha).2 hz, hm⟩
  · have e2 : ¬ D[t]? = some a := fun h3 => e (by rw [hi] at h3; exact (Option.some.inj h3).symm)
    rw [if_neg e2]
    by_cases hm : a ∈ D.take t
    · rw [if_pos hm, if_pos (List.mem_append.2 (.inl hm))]
    · rw [if_neg hm, if_neg (fun h4 => by
        rcases List.mem_append.1 h4 with h4 | h4
        · exact hm h4
        · exact e (List.mem_singleton.1 h4))]
      split
      · simp
      · rfl
theorem orw_all {M : Wt} {n : Nat} (ho : Orw M n D) (hl : D.length = n) (a : Nat) (ha : a < n) : a ∈ D := Classical.byContradiction fun hn => by
  have h1 : (a :: D).Nodup := List.nodup_cons.2 ⟨hn, ho.nd⟩
  have h2 := List.Nodup.length_le_of_subset (l₂ := List.range n) h1 (fun y hy => by
    rcases List.mem_cons.1 hy with rfl | hy
    · exact List.mem_range.2 ha
    · exact List.mem_range.2 (ho.lt y hy))
  rw [List.length_cons, List.length_range] at h2
  omega
open Classical in
theorem PtI.done (h : PtI g x D g.length 0 F) (ho : Orw (wyR g g.length) g.length D) (hl : D.length = g.length) (a : Nat) (ha : a < g.length) : (List.range x.length).filter (F a) = memL g x a := by
  unfold memL
  refine List.filter_congr fun p _ => ?_
  have h1 := h a ha p
  rw [List.take_of_length_le (by omega), if_pos (orw_all ho hl a ha)] at h1
  rw [Bool.eq_iff_iff, h1, decide_eq_true_iff]
theorem memB_lt {a p : Nat} (h : memB g x a p) : p < x.length := by
  obtain ⟨j, _, hd⟩ := h
  unfold dirB at hd
  refine Classical.byContradiction fun hn => ?_
  rw [List.getElem?_eq_none (by omega)] at hd
  cases h : g[j]? with
  | none => rw [h] at hd; simp at hd
  | some a => rw [h] at hd; simp at hd
theorem PtI.lt (h : PtI g x D g.length 0 F) (ho : Orw (wyR g g.length) g.length D) (hl : D.length = g.length) (a : Nat) (ha : a < g.length) (p : Nat) (hp : F a p = true) : p < x.length := by
  have h1 := h a ha p
  rw [List.take_of_length_le (by omega), if_pos (orw_all ho hl a ha)] at h1
  exact memB_lt (h1.1 hp)
end
end Go.Proofs.YtkfnbapnkmlopaaDoor

/- Contract: findNames. -/
import Derived.Test.YtkfnbapnkmlopaaDoorGpFs
import Derived.Deep.RegionLaw
namespace Go.Proofs.YtkfnbapnkmlopaaDoor
open Go.RowKit

theorem infoLi : (Tryd.prog.info? 48).map (fun i => (i.zero, i.size, i.bytes)) = some (some nilS, 1, 24) := by kernel_rfl
def mG (g : List Grp) (i : Nat) : List Tx := ((g[i]?).map (·.2.1)).getD []
def grG (g : List Grp) (i : Nat) : List Tx := ((g[i]?).map (·.2.2)).getD []
def iG (x : List Itm) (p : Nat) : List Tx := ((x[p]?).map (·.2)).getD []
theorem mG_at {g : List Grp} {i : Nat} {a : Grp} (h : g[i]? = some a) : mG g i = a.2.1 := by unfold mG; rw [h]; rfl
theorem grG_at {g : List Grp} {i : Nat} {a : Grp} (h : g[i]? = some a) : grG g i = a.2.2 := by unfold grG; rw [h]; rfl
theorem iG_at {x : List Itm} {p : Nat} {a : Itm} (h : x[p]? = some a) : iG x p = a.2 := by unfold iG; rw [h]; rfl
theorem entPl : Ent1 22 := enters_of Tryd.func22 (by kernel_rfl) rfl
/-- A call of one argument in a region that draws, by its contract. -/
theorem step_call1 {w : World} {ops : Array Oper} {o : Oper} {a : Go.Act} {K : Go.Act → World → Prop} {Q : Exit → Go.Act → World → Prop} {E : Prop} (hgd : o.guard = none) (f : FuncId) (he : Ent1 f) (x : Operand) (t : TypeId)
    (ho : o.op = .call { callee := .value (.func f), args := #[x], argTypes := #[t] }) (v : Value) (hx : a.eval x = v) {R : Value → World → Prop}
    (hc : Calls Tryd.prog f #[v] w fun e w' => ∃ u, e = .returned u ∧ R u w') (h : ∀ u w', R u w' → K (a.put o.dst u) w') :
    if Region.wanted o (yielded ops a.tmps) = true then Oper.wp Tryd.prog o a w K Q else E := by
  rw [if_pos (by simp [Region.wanted, hgd])]
  unfold Ent1 at he
  have hf : a.eval (.func f) = .func (.func f) #[] #[] := rfl
  unfold Oper.wp execOp
  simp only [ho, resolve, Deferred.ofValue, invoke, Sem.run_bind, Sem.run_pure, Result.andThen_ok, List.map_toArray, List.map_cons, List.map_nil, hf, hx]
  have e : (#[] ++ #[v] ++ #[] : Array Value) = #[v] := by simp
  rw [e, he]
  refine Calls.mono hc ?_
  rintro e w' ⟨u, rfl, hr⟩
  exact h u w' hr
/-- The places of a group's groups. -/
def ptL (g : List Grp) (i : Nat) : List Nat := (List.range g.length).filter (fdS (gN g) (grG g i))
def mbF (g : List Grp) (x : List Itm) (i p : Nat) : Bool := fdS (iN x) (mG g i) p
/-- Members by name, and by the words of the items ahead of q. -/
def F2 (g : List Grp) (x : List Itm) (q i p : Nat) : Bool := mbF g x i p || (decide (p < q) && fdS (gN g) (iG x p) i)
def F3 (g : List Grp) (x : List Itm) (q : Nat) (L : List Nat) (t i p : Nat) : Bool := F2 g x q i p || (decide (p = q) && (L.take t).contains i)
theorem nonB_eq {g : List Grp} {x : List Itm} {i : Nat} {a : Grp} (h : g[i]? = some a) : nonB g x i = (noS (iN x) a.2.1 || noS (gN g) a.2.2) := by unfold nonB; rw [h]; rfl
theorem noiB_eq {g : List Grp} {x : List Itm} {i : Nat} {a : Itm} (h : x[i]? = some a) : noiB g x i = noS (gN g) a.2 := by unfold noiB; rw [h]; rfl
theorem find_no (b : Nat) (v : Value) (L l : List Tx) (w : World) (hb : NamB w b L) (hv : RowS w v l) (hL : L.length ≤ 1024) (hS : ∀ s ∈ l, SmN s) (hn : noS L l = true) :
    Calls Tryd.prog 35 #[.map (some b), v] w fun e w' => e = .returned (.tuple #[.map none, errK 8]) ∧ Below w.heap.size w w' := by
  refine (find13_any b v L l w hb hv hL hS).mono ?_
  rintro e w' ⟨h1, h2⟩
  rw [if_pos hn] at h2
  exact ⟨h2, h1⟩
theorem find_ok (b : Nat) (v : Value) (L l : List Tx) (w : World) (hb : NamB w b L) (hv : RowS w v l) (hL : L.length ≤ 1024) (hS : ∀ s ∈ l, SmN s) (hn : noS L l = false) :
    Calls Tryd.prog 35 #[.map (some b), v] w fun e w' => ∃ bs, e = .returned (.tuple #[.map (some bs), .nilIface]) ∧ w.heap.size ≤ bs ∧ SetM w' bs (fdS L l) ∧ Below w.heap.size w w' := by
  refine (find13_any b v L l w hb hv hL hS).mono ?_
  rintro e w' ⟨h1, h2⟩
  rw [if_neg (by rw [hn]; decide)] at h2
  obtain ⟨bs, h3, h4, h5⟩ := h2
  exact ⟨bs, h3, h4, h5, h1⟩
theorem F3_step {g : List Grp} {x : List Itm} {q t k : Nat} {L : List Nat} (h : L[t]? = some k) (i p : Nat) : F3 g x q L (t + 1) i p = if i = k then F3 g x q L t k p || decide (p = q) else F3 g x q L t i p := by
  obtain ⟨h1, h2⟩ := List.getElem?_eq_some_iff.1 h
  unfold F3
  rw [List.take_succ_eq_append_getElem h1, h2, List.contains_eq_any_beq, List.any_append, ← List.contains_eq_any_beq]
  by_cases e : i = k
  · subst e
    rw [if_pos rfl]
    cases F2 g x q i p <;> cases (L.take t).contains i <;> cases decide (p = q) <;> simp
  · rw [if_neg e]
    have e2 : [k].any (fun y => i == y) = false := by simp [e]
    rw [e2, Bool.or_false]
theorem F3_done {g : List Grp} {x : List Itm} {q n : Nat} {L : List Nat} {a : Itm} (ha : x[q]? = some a) (hL : ∀ k, k ∈ L ↔ k < n ∧ fdS (gN g) a.2 k = true) (i p : Nat) (hi : i < n) : F2 g x (q + 1) i p = F3 g x q L L.length i p := by
  unfold F3 F2
  rw [List.take_length]
  have hc : L.contains i = fdS (gN g) a.2 i := by
    rw [Bool.eq_iff_iff, List.contains_iff_mem, hL]
    exact ⟨fun h => h.2, fun h => ⟨hi, h⟩⟩
  rw [hc]
  by_cases e : p = q
  · subst e
    rw [decide_eq_true (Nat.lt_succ_self p), decide_eq_false (Nat.lt_irrefl p), iG_at ha]
    simp
  · rw [decide_eq_false e, show decide (p < q + 1) = decide (p < q) by rw [decide_eq_decide]; omega]
    simp
/-- What findNames answers. -/
def FnE (ps b1 b2 : Nat) (gv xv o : Value) (g : List Grp) (x : List Itm) (w : World) (en : Ending) (w' : World) : Prop := w.grownBy w' (some ps) ∧ match fiN g.length (nonB g x) with
  | some i => en = .returned (.tuple #[.int .i64 (i : Nat), errE 8])
  | none => match fiN x.length (noiB g x) with
    | some i => en = .returned (.tuple #[.int .i64 ((g.length + i : Nat) : Int), errE 8])
    | none => en = .returned (.tuple #[.int .i64 0, .nilIface]) ∧ ∃ mv pv bl Z, w'.heap[ps]? = some (whC gv xv (.map (some b1)) (.map (some b2)) mv pv o) ∧ StsO w' w.heap.size mv g.length bl (F2 g x x.length) ∧ LsO w' w.heap.size pv ((List.range g.length).map (ptL g)) Z
section
variable {ps b1 b2 : Nat} {gv xv o : Value} {g : List Grp} {x : List Itm} {w w' : World} {en : Ending}
theorem FnE.no1 {i : Nat} (hg : w.grownBy w' (some ps)) (h : fiN g.length (nonB g x) = some i) (he : en = .returned (.tuple #[.int .i64 (i : Nat), errK 8])) : FnE ps b1 b2 gv xv o g x w en w' := by
  unfold FnE
  rw [h]
  exact ⟨hg, he⟩
theorem FnE.no2 {i r : Nat} (hg : w.grownBy w' (some ps)) (h : fiN g.length (nonB g x) = none) (h2 : fiN x.length (noiB g x) = some i) (hr : g.length + i = r) (he : en = .returned (.tuple #[.int .i64 (r : Nat), errK 8])) : FnE ps b1 b2 gv xv o g x w en w' := by
  unfold FnE
  rw [h, h2]
  dsimp only
  rw [hr]
  exact ⟨hg, he⟩
theorem FnE.ok {mv pv : Value} {bl : Nat → Nat} {Z : List Value} (hg : w.grownBy w' (some ps)) (h : fiN g.length (nonB g x) = none) (h2 : fiN x.length (noiB g x) = none) (he : en = .returned (.tuple #[.int .i64 0, .nilIface]))
    (hb : w'.heap[ps]? = some (whC gv xv (.map (some b1)) (.map (some b2)) mv pv o)) (hs : StsO w' w.heap.size mv g.length bl (F2 g x x.length)) (hl : LsO w' w.heap.size pv ((List.range g.length).map (ptL g)) Z) : FnE ps b1 b2 gv xv o g x w en w' := by
  unfold FnE
  rw [h, h2]
  exact ⟨hg, he, mv, pv, bl, Z, hb, hs, hl⟩
end
/-- Between two groups. -/
structure FnI (w : World) (ps b1 b2 : Nat) (gv xv o : Value) (g : List Grp) (x : List Itm) (i : Nat) (mv pv : Value) (bl : Nat → Nat) (Z : List Value) (F : Nat → Nat → Bool) (V : World) : Prop where
  gr : w.grownBy V (some ps)
  blk : V.heap[ps]? = some (whC gv xv (.map (some b1)) (.map (some b2)) mv pv o)
  sts : StsO V w.heap.size mv i bl F
  ls : LsO V w.heap.size pv ((List.range i).map (ptL g)) Z
theorem FnI.nam {w : World} {ps b1 b2 : Nat} {gv xv o : Value} {g : List Grp} {x : List Itm} {i : Nat} {mv pv : Value} {bl : Nat → Nat} {Z : List Value} {F : Nat → Nat → Bool} {V : World} (h : FnI w ps b1 b2 gv xv o g x i mv pv bl Z F V) {b : Nat} {L : List Tx} (hn : NamB w b L) (hne : b ≠ ps) : NamB V b L :=
  hn.block (h.gr.block b hn.lt fun e => hne (by injection e))
set_option maxRecDepth 100000 in
set_option maxHeartbeats 8000000 in
theorem fnames_any (W0 : World) (ps b1 b2 : Nat) (gv xv o : Value) (g : List Grp) (x : List Itm) (w : World) (hbel : Below W0.heap.size W0 w) (hps : W0.heap.size ≤ ps) (hT : Tz W0) (hv : RowG W0 gv g) (hu : RowX W0 xv x)
    (h : w.heap[ps]? = some (whC gv xv (.map (some b1)) (.map (some b2)) nilS nilS o)) (hn1 : NamB w b1 (gN g)) (hn2 : NamB w b2 (iN x)) (hl1 : g.length ≤ 1024) (hl2 : x.length ≤ 1024) (hS : SmG g x) :
    Calls Tryd.prog 19 #[.pointer (some ⟨ps, 0, none⟩)] w (FnE ps b1 b2 gv xv o g x w) := by
  obtain ⟨A, ca, rfl, hr⟩ := hv.form
  obtain ⟨B, cb, rfl, hs⟩ := hu.form
  have hne1 : b1 ≠ ps := fun e => by
    obtain ⟨_, _, h1⟩ := hn1.obj
    rw [e, h] at h1
    cases h1
  have hne2 : b2 ≠ ps := fun e => by
    obtain ⟨_, _, h1⟩ := hn2.obj
    rw [e, h] at h1
    cases h1
  have hI0 : FnI w ps b1 b2 (.slice A g.length ca) (.slice B x.length cb) o g x 0 nilS nilS (fun _ => 0) [] (mbF g x) w := ⟨World.grownBy.refl _ _, h, StsO.nil _ _ _ _, LsO.nil _ _⟩
  have hpl := blk9_lt h
  have hlg : (gN g).length ≤ 1024 := by rw [gN_len]; exact hl1
  have hlx : (iN x).length ≤ 1024 := by rw [iN_len]; exact hl2
  obtain ⟨n, hn⟩ : ∃ n, g.length = n := ⟨_, rfl⟩
  obtain ⟨m, hm⟩ : ∃ n, x.length = n := ⟨_, rfl⟩
  rw [hn] at h hI0 hr hl1 ⊢
  rw [hm] at h hI0 hs hl2 ⊢
  unfold whC at h
  have c0 := cell9_blk h 0 (v := .slice A n ca) rfl
  have HA := Lib.hid (And.intro hr (And.intro hs (And.intro hn (And.intro hm (And.intro hbel (And.intro hps (And.intro hT hS)))))))
  have HN := Lib.hid (And.intro hn1 (And.intro hn2 (And.intro hne1 (And.intro hne2 (And.intro hlg (And.intro hlx (And.intro hpl hI0)))))))
  have hbelV : Hid (∀ V, w.grownBy V (some ps) → Below W0.heap.size W0 V) := Lib.hid fun V hg => hbel.grown hg hbel.size (fun k hk => by injection hk with hk; omega)
  clear hr hs hn hm hbel hps hT hS hn1 hn2 hne1 hne2 hlg hlx hI0 hv hu h hpl
  go_enter Tryd.func19, Tryd.ntmps19
  go_wp2_with fail
  clear c0
  go_loopw [20] (fun iv wr => ∃ (i : Nat) (mv pv : Value) (bl : Nat → Nat) (Z : List Value), iv = .int .i64 i ∧ i ≤ n ∧ FnI w ps b1 b2 (.slice A n ca) (.slice B m cb) o g x i mv pv bl Z (mbF g x) wr ∧ ∀ j, j < i → nonB g x j = false) (fun iv _ => n - (intOf iv).toNat)
  case atStart => exact ⟨0, _, _, _, _, rfl, Nat.zero_le _, HN.out.2.2.2.2.2.2.2, fun j hj => absurd hj (Nat.not_lt_zero j)⟩
  case round =>
    obtain ⟨i, mv, pv, bl, Z, rfl, hi, hI, hno⟩ := hrel
    by_cases hin : i < n
    · have q0 : (0 : Int) ≤ i := by omega
      have q1 : (i : Int) < n := by omega
      obtain ⟨a, ha⟩ : ∃ a, g[i]? = some a := ⟨_, List.getElem?_eq_getElem (by rw [HA.out.2.2.1]; exact hin)⟩
      have hbw := hbelV.out wr hI.gr
      obtain ⟨ad, X, Am, cm, Ag, cg, rfl, hX, k0, k1, k2, rm, rg⟩ := (HA.out.1.below hbw).parts.2.2.2 i hin a ha
      obtain ⟨hs1, hs2, hs3⟩ := HA.out.2.2.2.2.2.2.2.1 a (List.mem_of_getElem? ha)
      obtain ⟨S, hSe⟩ : ∃ S, str a.1 = S := ⟨_, rfl⟩
      rw [hSe] at k0
      obtain ⟨W1, hW1⟩ : ∃ y, wr.alloc (.cells #[.string S, .slice Am a.2.1.length cm, .slice Ag a.2.2.length cg] 45) = y := ⟨_, rfl⟩
      have hbW : Below wr.heap.size wr W1 := by rw [← hW1]; exact (Below.refl _ _).alloc (Nat.le_refl _) _
      obtain ⟨gw, hgw⟩ : ∃ y, wr.heap.size = y := ⟨_, rfl⟩
      have hWb : W1.heap[gw]? = some (.cells #[.string S, .slice Am a.2.1.length cm, .slice Ag a.2.2.length cg] 45 (0, 0)) := by
        rw [← hW1, ← hgw]
        exact (MapKept.heap_alloc wr _).1
      have hpW := (hbW.block ps (blk9_lt hI.blk)).trans hI.blk
      have e3 := cell9_blk hpW 3 (v := .map (some b2)) rfl
      have e1 := cell9_blk hWb 1 (v := .slice Am a.2.1.length cm) rfl
      have hdr : Below wr.heap.size wr W1.drew := hbW.trans (below_dq _ 1)
      have HSS := Lib.hid (And.intro e3 e1)
      have HSt : Hid (∀ V, Below W1.drew.heap.size W1.drew V → V.cell? ⟨ps, 3, none⟩ = some (.map (some b2)) ∧ V.cell? ⟨gw, 1, none⟩ = some (.slice Am a.2.1.length cm)) := Lib.hid fun V h => ⟨cell9_below (w := W1.drew) e3 h, cell9_below (w := W1.drew) e1 h⟩
      have HK := Lib.hid (And.intro hI (And.intro hno (And.intro ha (And.intro hs2 (And.intro hs3 (And.intro rm (And.intro rg (And.intro hbW (And.intro hWb (And.intro hpW hdr))))))))))
      clear hI hno hs1 hs2 hs3 rm rg hbW hWb hpW hdr hbw hSe e3 e1
      cases hc1 : noS (iN x) a.2.1 with
      | true =>
        have HF := Lib.hid (find_no b2 _ (iN x) a.2.1 W1.drew ((HK.out.1.nam HN.out.2.1 HN.out.2.2.2.1).below HK.out.2.2.2.2.2.2.2.2.2.2) (HK.out.2.2.2.2.2.1.below HK.out.2.2.2.2.2.2.2.2.2.2) HN.out.2.2.2.2.2.1 HK.out.2.2.2.1 hc1)
        have HC1 := Lib.hid hc1
        clear hc1
        unfold errK at HF
        go_upto_region 4 with (fail)
        go_region_held3 (fun V => V.cell? ⟨ps, 3, none⟩ = some (.map (some b2)) ∧ V.cell? ⟨gw, 1, none⟩ = some (.slice Am a.2.1.length cm)) (first | exact HSS.out | exact HSt.out _ (by assumption)) (first
          | (go_at_call 35
             refine HF.out.mono ?_
             rintro e V1 ⟨rfl, hb1⟩))
        have HB := Lib.hid (show Below wr.heap.size wr V1 from ⟨hb1.os.trans HK.out.2.2.2.2.2.2.2.1.os, hb1.tape.trans HK.out.2.2.2.2.2.2.2.1.tape, hb1.output.trans HK.out.2.2.2.2.2.2.2.1.output, Nat.le_trans HK.out.2.2.2.2.2.2.2.1.size hb1.size, fun k hk => (hb1.block k (Nat.lt_of_lt_of_le hk HK.out.2.2.2.2.2.2.2.1.size)).trans (HK.out.2.2.2.2.2.2.2.1.block k hk)⟩)
        clear hb1
        go_wp2_with fail
        go_ret2
        have hbad : nonB g x i = true := by rw [nonB_eq HK.out.2.2.1, HC1.out]; rfl
        have hfi := fiN_hit (n := g.length) (by rw [HA.out.2.2.1]; exact hin) hbad HK.out.2.1
        refine FnE.no1 ⟨HB.out.os.trans HK.out.1.gr.os, HB.out.tape.trans HK.out.1.gr.tape, HB.out.output.trans HK.out.1.gr.output, Nat.le_trans HK.out.1.gr.size HB.out.size, fun k hk hne => (HB.out.block k (Nat.lt_of_lt_of_le hk HK.out.1.gr.size)).trans (HK.out.1.gr.block k hk hne)⟩ hfi rfl
      | false =>
        have HF := Lib.hid (find_ok b2 _ (iN x) a.2.1 W1.drew ((HK.out.1.nam HN.out.2.1 HN.out.2.2.2.1).below HK.out.2.2.2.2.2.2.2.2.2.2) (HK.out.2.2.2.2.2.1.below HK.out.2.2.2.2.2.2.2.2.2.2) HN.out.2.2.2.2.2.1 HK.out.2.2.2.1 hc1)
        have HC1 := Lib.hid hc1
        clear hc1
        go_upto_region 4 with (fail)
        go_region_held3 (fun V => V.cell? ⟨ps, 3, none⟩ = some (.map (some b2)) ∧ V.cell? ⟨gw, 1, none⟩ = some (.slice Am a.2.1.length cm)) (first | exact HSS.out | exact HSt.out _ (by assumption)) (first
          | (go_at_call 35
             refine HF.out.mono ?_
             rintro e V1 ⟨bs, rfl, hbs, hms, hb1⟩))
        have hbV1 : Below wr.heap.size wr V1 := ⟨hb1.os.trans HK.out.2.2.2.2.2.2.2.1.os, hb1.tape.trans HK.out.2.2.2.2.2.2.2.1.tape, hb1.output.trans HK.out.2.2.2.2.2.2.2.1.output, Nat.le_trans HK.out.2.2.2.2.2.2.2.1.size hb1.size, fun k hk => (hb1.block k (Nat.lt_of_lt_of_le hk HK.out.2.2.2.2.2.2.2.1.size)).trans (HK.out.2.2.2.2.2.2.2.1.block k hk)⟩
        have hbW1 : Below W1.heap.size W1 V1 := ⟨hb1.os, hb1.tape, hb1.output, hb1.size, hb1.block⟩
        have hpV := (hbV1.block ps (blk9_lt HK.out.1.blk)).trans HK.out.1.blk
        have hgV := (hbW1.block gw (blk9_lt HK.out.2.2.2.2.2.2.2.2.1)).trans HK.out.2.2.2.2.2.2.2.2.1
        have e2 := cell9_blk hpV 2 (v := .map (some b1)) rfl
        have e5 := cell9_blk hgV 2 (v := .slice Ag a.2.2.length cg) rfl
        have hbsw : wr.heap.size ≤ bs := Nat.le_trans HK.out.2.2.2.2.2.2.2.1.size hbs
        have HSS2 := Lib.hid (And.intro e2 e5)
        have HSt2 : Hid (∀ V, Below V1.drew.heap.size V1.drew V → V.cell? ⟨ps, 2, none⟩ = some (.map (some b1)) ∧ V.cell? ⟨gw, 2, none⟩ = some (.slice Ag a.2.2.length cg)) := Lib.hid fun V h => ⟨cell9_below (w := V1.drew) e2 h, cell9_below (w := V1.drew) e5 h⟩
        have HM := Lib.hid (And.intro hbV1 (And.intro hms (And.intro hbsw (And.intro hpV hgV))))
        clear hb1 hbV1 hbW1 hms hbs hbsw hpV hgV e2 e5
        cases hc2 : noS (gN g) a.2.2 with
        | true =>
          have HF2 := Lib.hid (find_no b1 _ (gN g) a.2.2 V1.drew ((HK.out.1.nam HN.out.1 HN.out.2.2.1).below (HM.out.1.trans (below_dq _ 1))) (HK.out.2.2.2.2.2.2.1.below (HM.out.1.trans (below_dq _ 1))) HN.out.2.2.2.2.1 HK.out.2.2.2.2.1 hc2)
          have HC2 := Lib.hid hc2
          clear hc2
          unfold errK at HF2
          go_upto_region 7 with (fail)
          go_region_held3 (fun V => V.cell? ⟨ps, 2, none⟩ = some (.map (some b1)) ∧ V.cell? ⟨gw, 2, none⟩ = some (.slice Ag a.2.2.length cg)) (first | exact HSS2.out | exact HSt2.out _ (by assumption)) (first
            | (go_at_call 35
               refine HF2.out.mono ?_
               rintro e V2 ⟨rfl, hb2⟩))
          have HB := Lib.hid (show Below wr.heap.size wr V2 from ⟨hb2.os.trans HM.out.1.os, hb2.tape.trans HM.out.1.tape, hb2.output.trans HM.out.1.output, Nat.le_trans HM.out.1.size hb2.size, fun k hk => (hb2.block k (Nat.lt_of_lt_of_le hk HM.out.1.size)).trans (HM.out.1.block k hk)⟩)
          clear hb2
          go_wp2_with fail
          go_ret2
          have hbad : nonB g x i = true := by rw [nonB_eq HK.out.2.2.1, HC2.out, Bool.or_true]
          have hfi := fiN_hit (n := g.length) (by rw [HA.out.2.2.1]; exact hin) hbad HK.out.2.1
          refine FnE.no1 ⟨HB.out.os.trans HK.out.1.gr.os, HB.out.tape.trans HK.out.1.gr.tape, HB.out.output.trans HK.out.1.gr.output, Nat.le_trans HK.out.1.gr.size HB.out.size, fun k hk hne => (HB.out.block k (Nat.lt_of_lt_of_le hk HK.out.1.gr.size)).trans (HK.out.1.gr.block k hk hne)⟩ hfi rfl
        | false =>
          have HF2 := Lib.hid (find_ok b1 _ (gN g) a.2.2 V1.drew ((HK.out.1.nam HN.out.1 HN.out.2.2.1).below (HM.out.1.trans (below_dq _ 1))) (HK.out.2.2.2.2.2.2.1.below (HM.out.1.trans (below_dq _ 1))) HN.out.2.2.2.2.1 HK.out.2.2.2.2.1 hc2)
          have HC2 := Lib.hid hc2
          clear hc2
          go_upto_region 7 with (fail)
          go_region_held3 (fun V => V.cell? ⟨ps, 2, none⟩ = some (.map (some b1)) ∧ V.cell? ⟨gw, 2, none⟩ = some (.slice Ag a.2.2.length cg)) (first | exact HSS2.out | exact HSt2.out _ (by assumption)) (first
            | (go_at_call 35
               refine HF2.out.mono ?_
               rintro e V2 ⟨bs2, rfl, hbs2, hms2, hb2⟩))
          have hbV2 : Below wr.heap.size wr V2 := ⟨hb2.os.trans HM.out.1.os, hb2.tape.trans HM.out.1.tape, hb2.output.trans HM.out.1.output, Nat.le_trans HM.out.1.size hb2.size, fun k hk => (hb2.block k (Nat.lt_of_lt_of_le hk HM.out.1.size)).trans (HM.out.1.block k hk)⟩
          have hpV := (hbV2.block ps (blk9_lt HK.out.1.blk)).trans HK.out.1.blk
          have hm2 : SetM V2 bs (fdS (iN x) a.2.1) := HM.out.2.1.block (hb2.block _ HM.out.2.1.lt)
          have hst2 := HK.out.1.sts.below hbV2
          have hls2 := HK.out.1.ls.below hbV2
          have hno2 : nonB g x i = false := by rw [nonB_eq HK.out.2.2.1, HC1.out, HC2.out]; rfl
          have e4 := cell9_blk hpV 4 (v := mv) rfl
          have f4 := frz9_blk hpV 4
          have hw2 : w.heap.size ≤ V2.heap.size := Nat.le_trans HK.out.1.gr.size hbV2.size
          have HM2 := Lib.hid (And.intro hbV2 (And.intro hm2 (And.intro hms2 (And.intro hpV (And.intro hst2 (And.intro hls2 (And.intro hno2 hw2)))))))
          clear hb2 hbV2 hm2 hms2 hbs2 hpV hst2 hls2 hno2 hw2
          go_upto_region 11 with
            (at_builtin
             refine wpList_app rfl (.tmp 57) (.tmp 59) 58 rfl elSt w.heap.size mv i ((List.range i).map fun j => .map (some (bl j))) rfl (own_sameO HM2.out.2.2.2.2.1.own ((Below.refl V2.heap.size V2).alloc (Nat.le_refl _) _)) (some ⟨V2.heap.size, 0, none⟩) 1 1 [.map (some bs)] rfl rfl (Rd.block (MapKept.heap_alloc V2 (.cells #[.map (some bs)] 65)).1) (fun u hu => by rw [List.mem_singleton.1 hu]; rfl) (by unfold maxLen; omega) (by omega) (by rw [World.size_alloc]; have := HM2.out.2.2.2.2.2.2.2; omega) ?_
             intro v' V3 ho hg hob
             obtain ⟨A3, c3, rfl, _⟩ := owns_form ho
             have hpa : (V2.alloc (.cells #[.map (some bs)] 65)).heap[ps]? = some (whC (.slice (some ad) n ca) (.slice B m cb) (.map (some b1)) (.map (some b2)) mv pv o) := (Below.heap_alloc _ _ _ (blk9_lt HM2.out.2.2.2.1)).trans HM2.out.2.2.2.1
             have hp3 : V3.heap[ps]? = some (whC (.slice (some ad) n ca) (.slice B m cb) (.map (some b1)) (.map (some b2)) mv pv o) := (hg.block ps (by have := blk9_lt HM2.out.2.2.2.1; rw [World.size_alloc]; omega) (fun e => by have h1 := (HM2.out.2.2.2.2.1.own.lt ps e.symm).1; have h2 := HN.out.2.2.2.2.2.2.1; omega)).trans hpa
             have e4b := cell9_blk hp3 4 (v := mv) rfl
             have f4b := frz9_blk hp3 4
             have HN3 := Lib.hid (And.intro ho (And.intro hg (And.intro hob hp3)))
             clear ho hg hob hpa hp3)
          obtain ⟨V4, hV4⟩ : ∃ y, V3.setCell ⟨ps, 4, none⟩ (.slice A3 (i + 1) c3) = y := ⟨_, rfl⟩
          have hoa := own_sameO HM2.out.2.2.2.2.1.own ((Below.refl V2.heap.size V2).alloc (Nat.le_refl _) (.cells #[.map (some bs)] 65))
          have hba : Below V2.heap.size V2 (V2.alloc (.cells #[.map (some bs)] 65)) := (Below.refl _ _).alloc (Nat.le_refl _) _
          have hwps := HN.out.2.2.2.2.2.2.1
          have g34 : V3.grownBy V4 (some ps) := by rw [← hV4]; exact grown_setW (World.grownBy.refl _ _)
          have hp4 : V4.heap[ps]? = some (whC (.slice (some ad) n ca) (.slice B m cb) (.map (some b1)) (.map (some b2)) (.slice A3 (i + 1) c3) pv o) := by
            rw [← hV4]
            exact heap_setCell_same _ ps 4 _ _ _ HN3.out.2.2.2
          have hst4 : StsO V4 w.heap.size (.slice A3 (i + 1) c3) (i + 1) (fun k => if k = i then bs else bl k) (fun k => if k = i then fdS (iN x) a.2.1 else mbF g x k) :=
            ((HM2.out.2.2.2.2.1.below hba).push (HM2.out.2.1.below hba) (Nat.le_trans HK.out.1.gr.size HM.out.2.2.1) (fun j hj => by have h1 := HK.out.1.sts.lt hj; have h2 := HM.out.2.2.1; omega) HN3.out.1 HN3.out.2.1).kept g34 (fun b hb => by injection hb with hb; exact .inl (by omega))
          have hls4 : LsO V4 w.heap.size pv ((List.range i).map (ptL g)) Z := ((HM2.out.2.2.2.2.2.1.below hba).grownT HN3.out.2.1 hoa (by decide) (by decide)).kept g34 (fun b hb => by injection hb with hb; exact .inl (by omega))
          have g1 : w.grownBy (V2.alloc (.cells #[.map (some bs)] 65)) (some ps) := HK.out.1.gr.andThen (grown_ofBW (HM2.out.1.trans (hba.mono HM2.out.1.size)) none) (fun j h => by cases h)
          have g2 : w.grownBy V3 (some ps) := g1.andThen HN3.out.2.1 (fun j hj => .inl (HM2.out.2.2.2.2.1.own.lt j hj).1)
          have g4 : w.grownBy V4 (some ps) := by rw [← hV4]; exact grown_setW g2
          have hms4 : SetM V4 bs2 (fdS (gN g) a.2.2) := by
            have h1 := HM2.out.2.2.1.below hba
            obtain ⟨es, c, h2⟩ := h1.obj
            have h3 : SetM V3 bs2 (fdS (gN g) a.2.2) := h1.block (HN3.out.2.1.block bs2 h1.lt fun e => own_map hoa h2 e.symm)
            refine h3.block (g34.block bs2 h3.lt fun e => ?_)
            injection e with e
            obtain ⟨es, c, h4⟩ := h3.obj
            rw [e, HN3.out.2.2.2] at h4
            cases h4
          have hfl : ∀ p, fdS (gN g) a.2.2 p = true → p < n := fun p hp => by have := fdS_lt hp; rw [gN_len, HA.out.2.2.1] at this; exact this
          have hZl : Z.length = i := by have := hls4.len; rwa [List.length_map, List.length_range] at this
          have HZl := Lib.hid hZl
          have HPl := Lib.hid (fun V (hb : Below V4.heap.size V4 V) => places_any bs2 n (fdS (gN g) a.2.2) V (HA.out.2.2.2.2.2.2.1.below ((hbelV.out V4 g4).trans (hb.mono (hbelV.out V4 g4).size))) (by omega) hfl (hms4.below hb))
          have hpt : ptL g i = (List.range n).filter (fdS (gN g) a.2.2) := by unfold ptL; rw [grG_at HK.out.2.2.1, HA.out.2.2.1]
          obtain ⟨L, hL⟩ : ∃ L, (List.range n).filter (fdS (gN g) a.2.2) = L := ⟨_, rfl⟩
          rw [hL] at hpt HPl
          obtain ⟨ll, hll⟩ : ∃ l, L.length = l := ⟨_, rfl⟩
          rw [hll] at HPl
          have e5 := cell9_blk hp4 5 (v := pv) rfl
          have hw4 : w.heap.size ≤ V4.heap.size := g4.size
          have H4 := Lib.hid (And.intro hp4 (And.intro hst4 (And.intro hls4 (And.intro g4 (And.intro hpt (And.intro hll (And.intro hw4 hwps)))))))
          rw [hV4]
          clear hoa hba g34 hp4 hst4 hls4 g1 g2 g4 hms4 hfl hpt hL hll hV4 hw4 hwps hZl
          go_region_law (first
            | (refine step_call1 (by rfl) 22 entPl (.tmp 68) 65 (by rfl) (.map (some bs2)) (by rfl) (HPl.out _ (below_dq _ 1)) ?_
               rintro pl V5 ⟨hop, hb5⟩
               obtain ⟨Al, cl, rfl, _⟩ := owns_form hop
               have hb5' : Below V4.heap.size V4 V5 := ⟨hb5.os, hb5.tape, hb5.output, hb5.size, hb5.block⟩
               have hp5 := (hb5'.block ps (blk9_lt H4.out.1)).trans H4.out.1
               have e5b := cell9_blk hp5 5 (v := pv) rfl
               have hba5 : Below V5.heap.size V5 (V5.alloc (.cells #[.slice Al ll cl] 48)) := (Below.refl _ _).alloc (Nat.le_refl _) _
               have e5c := cell9_below e5b hba5
               have hls5 := (H4.out.2.2.1.below hb5').below hba5
               have H5 := Lib.hid (And.intro hb5' (And.intro (own_base hop (Nat.le_trans H4.out.2.2.2.2.2.2.1 (Nat.le_refl _))) (And.intro hba5 hls5)))
               clear hb5 hb5' hop hp5 hba5 hls5)
            | (refine step_appK (by rfl) (.tmp 67) (.tmp 70) _ (by rfl) Tryd.underlying30 infoLi rfl (by omega) w.heap.size pv i Z (by rfl) (by have h := H5.out.2.2.2.own; rw [HZl.out] at h; exact h) (some ⟨V5.heap.size, 0, none⟩) 1 1 [.slice Al ll cl] (by rfl) rfl (Rd.block (MapKept.heap_alloc V5 (.cells #[.slice Al ll cl] 48)).1) (fun u hu => by rw [List.mem_singleton.1 hu]; rfl) (by unfold maxLen; omega) (by omega) (by have h1 := H5.out.1.size; have h2 := H4.out.2.2.2.2.2.2.1; simp; omega) ?_
               intro v6 V6 ho6 hg6 _
               obtain ⟨A6, c6, rfl, _⟩ := owns_form ho6
               have hpa : (V5.alloc (.cells #[.slice Al ll cl] 48)).heap[ps]? = some (whC (.slice (some ad) n ca) (.slice B m cb) (.map (some b1)) (.map (some b2)) (.slice A3 (i + 1) c3) pv o) := (H5.out.2.2.1.block ps (by have h1 := blk9_lt H4.out.1; have h2 := H5.out.1.size; omega)).trans ((H5.out.1.block ps (blk9_lt H4.out.1)).trans H4.out.1)
               have hp6 := (hg6.block ps (blk9_lt hpa) (fun e => by have h1 := (H5.out.2.2.2.own.lt ps e.symm).1; have h2 := H4.out.2.2.2.2.2.2.2; omega)).trans hpa
               have e6 := cell9_blk hp6 5 (v := pv) rfl
               have f6 := frz9_blk hp6 5
               have H6 := Lib.hid (And.intro ho6 (And.intro hg6 hp6))
               clear ho6 hg6 hp6 hpa))
          all_goals
            go_wp2_with fail
            have hg67 : V6.grownBy (V6.setCell ⟨ps, 5, none⟩ (.slice A6 (i + 1) c6)) (some ps) := grown_setW (World.grownBy.refl _ _)
            have h45 := H5.out.1.trans (H5.out.2.2.1.mono H5.out.1.size)
            have hpso := H4.out.2.2.2.2.2.2.2
            have hst5 := H4.out.2.1.below h45
            have hpvo := H5.out.2.2.2.own
            refine ⟨⟨i + 1, .slice A3 (i + 1) c3, .slice A6 (i + 1) c6, fun k => if k = i then bs else bl k, Z ++ [.slice Al ll cl], by go_num, hin, ⟨?_, ?_, ?_, ?_⟩, fun j hj => ?_⟩, by simp [intOf]; omega⟩
            · exact grown_setW ((H4.out.2.2.2.1.andThen (grown_ofBW h45 none) (fun j h => by cases h)).andThen H6.out.2.1 (fun j hj => .inl (hpvo.lt j hj).1))
            · exact heap_setCell_same _ ps 5 _ _ _ H6.out.2.2
            · refine ((hst5.kept H6.out.2.1 fun b hb => .inr ⟨own_other hpvo hst5.own (by decide) b hb, fun j hj e => ?_⟩).kept hg67 (fun b hb => by injection hb with hb; exact .inl (by omega))).same fun j hj p => ?_
              · obtain ⟨es, c, h1⟩ := (hst5.st j hj).obj
                rw [e] at h1
                exact own_map hpvo h1 hb
              · by_cases e : j = i
                · rw [if_pos e, e]
                  unfold mbF
                  rw [mG_at HK.out.2.2.1]
                · rw [if_neg e]
            · have hp1 := H5.out.2.2.2.push (L := L) (by rw [H4.out.2.2.2.2.2.1]; exact own_sameO H5.out.2.1 H5.out.2.2.1) (by rw [HZl.out]; exact H6.out.1) H6.out.2.1
              have e : (List.range (i + 1)).map (ptL g) = (List.range i).map (ptL g) ++ [L] := by rw [List.range_succ, List.map_append, List.map_singleton, H4.out.2.2.2.2.1]
              rw [e]
              exact hp1.kept hg67 (fun b hb => by injection hb with hb; exact .inl (by omega))
            · by_cases e : j = i
              · rw [e]; exact HM2.out.2.2.2.2.2.2.1
              · exact HK.out.2.1 j (by omega)
    · obtain rfl : n = i := by omega
      have r1 : ¬ (n : Int) < n := by omega
      obtain ⟨Av, cv, rfl, hnv, hmv, _⟩ := hI.sts.ld
      have hbw := hbelV.out wr hI.gr
      have hpb := hI.blk
      unfold whC at hpb
      have d1 := cell9_blk hpb 1 (v := .slice B m cb) rfl
      have hfn : fiN g.length (nonB g x) = none := fiN_no (by rw [HA.out.2.2.1]; exact hno)
      have hI2 : FnI w ps b1 b2 (.slice A n ca) (.slice B m cb) o g x n (.slice Av n cv) pv bl Z (F2 g x 0) wr := ⟨hI.gr, hI.blk, hI.sts.same fun i hi p => by unfold F2; simp, hI.ls⟩
      have HK := Lib.hid (And.intro hI2 hfn)
      clear hI hI2 hno hbw hpb hfn
      go_wp2_with fail
      clear d1
      go_loopw [80] (fun iv wr => ∃ q : Nat, iv = .int .i64 q ∧ q ≤ m ∧ FnI w ps b1 b2 (.slice A n ca) (.slice B m cb) o g x n (.slice Av n cv) pv bl Z (F2 g x q) wr ∧ ∀ j, j < q → noiB g x j = false) (fun iv _ => m - (intOf iv).toNat)
      case atStart => exact ⟨0, rfl, Nat.zero_le _, HK.out.1, fun j hj => absurd hj (Nat.not_lt_zero j)⟩
      case round =>
        obtain ⟨q, rfl, hq, hI, hno⟩ := hrel
        by_cases hqm : q < m
        · have q0 : (0 : Int) ≤ q := by omega
          have q1 : (q : Int) < m := by omega
          obtain ⟨a, ha⟩ : ∃ a, x[q]? = some a := ⟨_, List.getElem?_eq_getElem (by rw [HA.out.2.2.2.1]; exact hqm)⟩
          have hbw := hbelV.out wr hI.gr
          obtain ⟨ad, X, Ag, cg, rfl, hX, k0, k1, rg⟩ := (HA.out.2.1.below hbw).parts.2.2.2 q hqm a ha
          obtain ⟨hs1, hs2⟩ := HA.out.2.2.2.2.2.2.2.2 a (List.mem_of_getElem? ha)
          obtain ⟨S, hSe⟩ : ∃ S, str a.1 = S := ⟨_, rfl⟩
          rw [hSe] at k0
          obtain ⟨W1, hW1⟩ : ∃ y, wr.alloc (.cells #[.string S, .slice Ag a.2.length cg] 47) = y := ⟨_, rfl⟩
          have hbW : Below wr.heap.size wr W1 := by rw [← hW1]; exact (Below.refl _ _).alloc (Nat.le_refl _) _
          obtain ⟨gw, hgw⟩ : ∃ y, wr.heap.size = y := ⟨_, rfl⟩
          have hWb : W1.heap[gw]? = some (.cells #[.string S, .slice Ag a.2.length cg] 47 (0, 0)) := by
            rw [← hW1, ← hgw]
            exact (MapKept.heap_alloc wr _).1
          have hpW := (hbW.block ps (blk9_lt hI.blk)).trans hI.blk
          have e2 := cell9_blk hpW 2 (v := .map (some b1)) rfl
          have e1 := cell9_blk hWb 1 (v := .slice Ag a.2.length cg) rfl
          have hdr : Below wr.heap.size wr W1.drew := hbW.trans (below_dq _ 1)
          have HSS := Lib.hid (And.intro e2 e1)
          have HSt : Hid (∀ V, Below W1.drew.heap.size W1.drew V → V.cell? ⟨ps, 2, none⟩ = some (.map (some b1)) ∧ V.cell? ⟨gw, 1, none⟩ = some (.slice Ag a.2.length cg)) := Lib.hid fun V h => ⟨cell9_below (w := W1.drew) e2 h, cell9_below (w := W1.drew) e1 h⟩
          have HJ := Lib.hid (And.intro hI (And.intro hno (And.intro ha (And.intro hs2 (And.intro rg (And.intro hbW (And.intro hpW hdr)))))))
          clear hI hno hs1 hs2 rg hbW hWb hpW hdr hbw hSe e2 e1
          cases hc1 : noS (gN g) a.2 with
          | true =>
            have HF := Lib.hid (find_no b1 _ (gN g) a.2 W1.drew ((HJ.out.1.nam HN.out.1 HN.out.2.2.1).below HJ.out.2.2.2.2.2.2.2) (HJ.out.2.2.2.2.1.below HJ.out.2.2.2.2.2.2.2) HN.out.2.2.2.2.1 HJ.out.2.2.2.1 hc1)
            have HC1 := Lib.hid hc1
            obtain ⟨r, hr⟩ : ∃ r, n + q = r := ⟨_, rfl⟩
            have y2 : IntKind.i64.wrap ((n : Int) + q) = (r : Int) := by
              have e : (n : Int) + q = (r : Int) := by omega
              rw [e]
              exact IntWalk.i64_in _ (by omega)
            have HRr := Lib.hid hr
            clear hc1 hr
            unfold errK at HF
            go_upto_region 16 with (fail)
            go_region_held3 (fun V => V.cell? ⟨ps, 2, none⟩ = some (.map (some b1)) ∧ V.cell? ⟨gw, 1, none⟩ = some (.slice Ag a.2.length cg)) (first | exact HSS.out | exact HSt.out _ (by assumption)) (first
              | (go_at_call 35
                 refine HF.out.mono ?_
                 rintro e V1 ⟨rfl, hb1⟩))
            have hbV1 : Below wr.heap.size wr V1 := ⟨hb1.os.trans HJ.out.2.2.2.2.2.1.os, hb1.tape.trans HJ.out.2.2.2.2.2.1.tape, hb1.output.trans HJ.out.2.2.2.2.2.1.output, Nat.le_trans HJ.out.2.2.2.2.2.1.size hb1.size, fun k hk => (hb1.block k (Nat.lt_of_lt_of_le hk HJ.out.2.2.2.2.2.1.size)).trans (HJ.out.2.2.2.2.2.1.block k hk)⟩
            have hpV := (hbV1.block ps (blk9_lt HJ.out.1.blk)).trans HJ.out.1.blk
            have e0 := cell9_blk hpV 0 (v := .slice A n ca) rfl
            have HB := Lib.hid hbV1
            clear hb1 hbV1 hpV
            go_wp2_with fail
            go_ret2
            have hbad : noiB g x q = true := by rw [noiB_eq HJ.out.2.2.1, HC1.out]
            have hfi := fiN_hit (n := x.length) (by rw [HA.out.2.2.2.1]; exact hqm) hbad HJ.out.2.1
            exact FnE.no2 (HJ.out.1.gr.andThen (grown_ofBW HB.out none) (fun j h => by cases h)) HK.out.2 hfi (by rw [HA.out.2.2.1]; exact HRr.out) rfl
          | false =>
            have HF := Lib.hid (find_ok b1 _ (gN g) a.2 W1.drew ((HJ.out.1.nam HN.out.1 HN.out.2.2.1).below HJ.out.2.2.2.2.2.2.2) (HJ.out.2.2.2.2.1.below HJ.out.2.2.2.2.2.2.2) HN.out.2.2.2.2.1 HJ.out.2.2.2.1 hc1)
            have HC1 := Lib.hid hc1
            clear hc1
            go_upto_region 16 with (fail)
            go_region_held3 (fun V => V.cell? ⟨ps, 2, none⟩ = some (.map (some b1)) ∧ V.cell? ⟨gw, 1, none⟩ = some (.slice Ag a.2.length cg)) (first | exact HSS.out | exact HSt.out _ (by assumption)) (first
              | (go_at_call 35
                 refine HF.out.mono ?_
                 rintro e V1 ⟨bs, rfl, hbs, hms, hb1⟩))
            have hbV1 : Below wr.heap.size wr V1 := ⟨hb1.os.trans HJ.out.2.2.2.2.2.1.os, hb1.tape.trans HJ.out.2.2.2.2.2.1.tape, hb1.output.trans HJ.out.2.2.2.2.2.1.output, Nat.le_trans HJ.out.2.2.2.2.2.1.size hb1.size, fun k hk => (hb1.block k (Nat.lt_of_lt_of_le hk HJ.out.2.2.2.2.2.1.size)).trans (HJ.out.2.2.2.2.2.1.block k hk)⟩
            have hgV1 : w.grownBy V1 (some ps) := HJ.out.1.gr.andThen (grown_ofBW hbV1 none) (fun j h => by cases h)
            have hfl : ∀ p, fdS (gN g) a.2 p = true → p < n := fun p hp => by have := fdS_lt hp; rw [gN_len, HA.out.2.2.1] at this; exact this
            have hPl := places_any bs n (fdS (gN g) a.2) V1 (HA.out.2.2.2.2.2.2.1.below (hbelV.out V1 hgV1)) (by omega) hfl hms
            obtain ⟨L, hL⟩ : ∃ L, (List.range n).filter (fdS (gN g) a.2) = L := ⟨_, rfl⟩
            have hLm : ∀ k, k ∈ L ↔ k < n ∧ fdS (gN g) a.2 k = true := fun k => by rw [← hL, List.mem_filter, List.mem_range]
            rw [hL] at hPl
            obtain ⟨ll, hll⟩ : ∃ l, L.length = l := ⟨_, rfl⟩
            have hlb : ll ≤ n := by
              rw [← hll, ← hL]
              have := List.length_filter_le (fdS (gN g) a.2) (List.range n)
              rwa [List.length_range] at this
            rw [hll] at hPl
            have HPl := Lib.hid hPl
            have HM := Lib.hid (And.intro hbV1 (And.intro hgV1 (And.intro hLm hll)))
            clear hb1 hbV1 hgV1 hfl hPl hL hLm hll hms hbs
            go_wp2_with fail
            with_reducible refine HPl.out.mono ?_
            rintro e V2 ⟨pl, rfl, hop, hb2⟩
            obtain ⟨Al, cl, rfl, hlc, hcm, _⟩ := owns_form hop
            have hbV2 := HM.out.1.trans (hb2.mono HM.out.1.size)
            have hI3 : FnI w ps b1 b2 (.slice A n ca) (.slice (some ad) m cb) o g x n (.slice Av n cv) pv bl Z (F3 g x q L 0) V2 := ⟨HM.out.2.1.andThen (grown_ofBW hb2 none) (fun j h => by cases h), (hbV2.block ps (blk9_lt HJ.out.1.blk)).trans HJ.out.1.blk, (HJ.out.1.sts.below hbV2).same fun i hi p => by unfold F3; simp, HJ.out.1.ls.below hbV2⟩
            have hop2 := own_base hop (Nat.le_trans HM.out.2.1.size (Nat.le_refl _))
            have HO := Lib.hid (And.intro hI3 hop2)
            clear hop hb2 hbV2 hI3 hop2
            go_wp2_with fail
            go_loopw [108] (fun tv wr => ∃ t : Nat, tv = .int .i64 t ∧ t ≤ ll ∧ FnI w ps b1 b2 (.slice A n ca) (.slice (some ad) m cb) o g x n (.slice Av n cv) pv bl Z (F3 g x q L t) wr ∧ wr.ownsRow w.heap.size 3 1 (.slice Al ll cl) ll (L.map intC)) (fun tv _ => ll - (intOf tv).toNat)
            case atStart => exact ⟨0, rfl, Nat.zero_le _, HO.out.1, HO.out.2⟩
            case round =>
              obtain ⟨t, rfl, ht, hI, hop⟩ := hrel
              by_cases htl : t < ll
              · have s0 : (0 : Int) ≤ t := by omega
                have s1 : (t : Int) < ll := by omega
                obtain ⟨al, k, rfl, hk, ck⟩ := (RowN.owned HM.out.2.2.2 hop).at9.2.2.2 t htl
                have hkn := ((HM.out.2.2.1 k).1 (List.mem_of_getElem? hk)).1
                have k0' : (0 : Int) ≤ k := by omega
                have k1' : (k : Int) < n := by omega
                obtain ⟨Av', cv', ev, _, _, hld⟩ := hI.sts.ld
                injection ev with ev1 ev2 ev3
                subst ev1 ev3
                obtain ⟨av, rfl, cm2⟩ := hld k hkn
                have hpb := hI.blk
                unfold whC at hpb
                have d4 := cell9_blk hpb 4 (v := .slice (some av) n cv) rfl
                have hps1 := blk9_lt hI.blk
                have HA2 := Lib.hid (add_any (bl k) q (F3 g x q L t k) wr (by omega) (hI.sts.st k hkn))
                have HT := Lib.hid (And.intro hI (And.intro hop (And.intro hk (And.intro hps1 hkn))))
                clear hI hop hk hpb hps1 hld hkn
                go_wp2_with fail
                with_reducible refine HA2.out.mono ?_
                rintro e w3 ⟨rfl, hs3, hg3⟩
                have HW3 := Lib.hid (And.intro hs3 hg3)
                clear hs3 hg3 ck cm2 d4
                go_wp2_with fail
                have hge := HT.out.1.sts.ge k HT.out.2.2.2.2
                have hwps := HN.out.2.2.2.2.2.2.1
                obtain ⟨es, c, hob⟩ := (HT.out.1.sts.st k HT.out.2.2.2.2).obj
                refine ⟨⟨t + 1, by go_num, htl, ⟨?_, ?_, ?_, ?_⟩, ?_⟩, by simp [intOf]; omega⟩
                · exact HT.out.1.gr.andThen HW3.out.2 (fun j hj => by injection hj with hj; exact .inl (by omega))
                · exact (HW3.out.2.block ps HT.out.2.2.2.1 (fun e => by injection e with e; omega)).trans HT.out.1.blk
                · exact (HT.out.1.sts.turn HT.out.2.2.2.2 HW3.out.1 HW3.out.2).same fun i _ p => by
                    rw [F3_step HT.out.2.2.1]
                    by_cases e : i = k
                    · rw [if_pos e, if_pos e]
                    · rw [if_neg e, if_neg e]
                · exact HT.out.1.ls.kept HW3.out.2 (fun b hb => by injection hb with hb; exact .inr ⟨es, c, by rw [← hb]; exact hob⟩)
                · exact own_block9 HT.out.2.1 fun b hb => HW3.out.2.block b (HT.out.2.1.lt b hb).2 fun e => own_map HT.out.2.1 hob (by rw [hb, e])
              · obtain rfl : ll = t := by omega
                have s1 : ¬ (ll : Int) < ll := by omega
                have HT := Lib.hid hI
                clear hI hop
                go_wp2_with fail
                refine ⟨⟨q + 1, by go_num, hqm, ⟨HT.out.gr, HT.out.blk, HT.out.sts.same fun i hi p => ?_, HT.out.ls⟩, fun j hj => ?_⟩, by simp [intOf]; omega⟩
                · rw [F3_done HJ.out.2.2.1 HM.out.2.2.1 i p hi, HM.out.2.2.2]
                · by_cases e : j = q
                  · rw [e, noiB_eq HJ.out.2.2.1]; exact HC1.out
                  · exact HJ.out.2.1 j (by omega)
        · obtain rfl : m = q := by omega
          have r2 : ¬ (m : Int) < m := by omega
          have hfx : fiN x.length (noiB g x) = none := fiN_no (by rw [HA.out.2.2.2.1]; exact hno)
          have HT := Lib.hid (And.intro hI hfx)
          clear hI hno hfx
          go_wp2_with fail
          go_ret2
          exact FnE.ok HT.out.1.gr HK.out.2 HT.out.2 rfl HT.out.1.blk (by rw [HA.out.2.2.1, HA.out.2.2.2.1]; exact HT.out.1.sts) (by rw [HA.out.2.2.1]; exact HT.out.1.ls)
end Go.Proofs.YtkfnbapnkmlopaaDoor

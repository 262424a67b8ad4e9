/- GpAp, GpPg, in one text. -/
import Derived.Test.YtkfnbapnkmlopaaDoorGpWl
/- Contract: addParts. -/
namespace Go.Proofs.YtkfnbapnkmlopaaDoor
open Go.RowKit

/-- What is read of an elder world is read of the younger one, too. -/
def CK (w w' : World) : Prop := ∀ a u, w.cell? a = some u → w'.cell? a = some u
theorem Rd.ck {w w' : World} {A : Option Addr} {xs : List Value} (h : Rd w A xs) (hc : CK w w') : Rd w' A xs := fun hl => by
  obtain ⟨ad, e, h2⟩ := h hl
  exact ⟨ad, e, fun j u hu => hc _ _ (h2 j u hu)⟩
theorem RowN.ck {w w' : World} {v : Value} {L : List Nat} (h : RowN w v L) (hc : CK w w') : RowN w' v L := by
  obtain ⟨A, c, e, h1, h2, h3⟩ := h
  exact ⟨A, c, e, h1, h2, Rd.ck h3 hc⟩
theorem RowLL.ck {w w' : World} {v : Value} {L : List (List Nat)} (h : RowLL w v L) (hc : CK w w') : RowLL w' v L := by
  obtain ⟨A, c, Z, h1, h2, h3, h4, h5, h6⟩ := h
  exact ⟨A, c, Z, h1, h2, h3, Rd.ck h4 hc, h5, fun i u hu => (h6 i u hu).ck hc⟩
/-- All blocks but these sets' are as they were. -/
structure BlK (w V : World) (n : Nat) (bl : Nat → Nat) : Prop where
  os : V.os = w.os
  tape : V.tape = w.tape
  output : V.output = w.output
  size : w.heap.size ≤ V.heap.size
  block : ∀ k, k < w.heap.size → (∀ i, i < n → bl i ≠ k) → V.heap[k]? = w.heap[k]?
theorem BlK.refl (w : World) (n : Nat) (bl : Nat → Nat) : BlK w w n bl := ⟨rfl, rfl, rfl, Nat.le_refl _, fun _ _ _ => rfl⟩
theorem BlK.step {w V V' : World} {n i : Nat} {bl : Nat → Nat} (h : BlK w V n bl) (hi : i < n) (hg : V.grownBy V' (some (bl i))) : BlK w V' n bl :=
  ⟨hg.os.trans h.os, hg.tape.trans h.tape, hg.output.trans h.output, Nat.le_trans h.size hg.size, fun k hk hne => (hg.block k (Nat.lt_of_lt_of_le hk h.size) (fun e => by injection e with e; exact hne i hi e.symm)).trans (h.block k hk hne)⟩
theorem BlK.ck {w V : World} {n B : Nat} {v : Value} {bl : Nat → Nat} {F : Nat → Nat → Bool} (h : BlK w V n bl) (hs : StsO w B v n bl F) : CK w V := fun a u hu => by
  have hlt := World.block_lt_of_cell? _ _ hu
  refine (World.cell?_of_block (h.block a.block hlt fun i hi e => ?_)).trans hu
  obtain ⟨es, c, h1⟩ := (hs.st i hi).obj
  rw [e] at h1
  unfold World.cell? at hu
  rw [h1] at hu
  cases hu
theorem BlK.blk {w V : World} {n B b : Nat} {v : Value} {bl : Nat → Nat} {F : Nat → Nat → Bool} (h : BlK w V n bl) (hs : StsO w B v n bl F) {cs : Array Value} {t : TypeId} {fr : Nat × Nat} (hb : w.heap[b]? = some (.cells cs t fr)) : V.heap[b]? = some (.cells cs t fr) := by
  refine (h.block b (blk9_lt hb) fun i hi e => ?_).trans hb
  obtain ⟨es, c, h1⟩ := (hs.st i hi).obj
  rw [e, hb] at h1
  cases h1
set_option maxRecDepth 100000 in
set_option maxHeartbeats 8000000 in
theorem parts_any (ps B n : Nat) (gv xv c d mv pv ov : Value) (bl : Nat → Nat) (F : Nat → Nat → Bool) (g : List Grp) (x : List Itm) (D : List Nat) (w : World) (hn : g.length = n) (_ : n ≤ 1024)
    (h : w.heap[ps]? = some (whC gv xv c d mv pv ov)) (hs : StsO w B mv n bl F) (hp : RowLL w pv ((List.range n).map (ptL g))) (hd : RowN w ov D) (hno : ∀ i, i < g.length → nonB g x i = false) (hcy : ¬ Cyc (eM (wyR g g.length)))
    (ho : Orw (wyR g g.length) g.length D) (hF : PtI g x D 0 0 F) :
    Calls Tryd.prog 21 #[.pointer (some ⟨ps, 0, none⟩)] w fun e w' => e = .returned (.tuple #[]) ∧ BlK w w' n bl ∧ ∃ F', StsO w' B mv n bl F' ∧ PtI g x D D.length 0 F' := by
  obtain ⟨Ap, cp, rfl, hp2⟩ := hp.form
  obtain ⟨Ao, co, rfl, hd2⟩ := hd.form
  have hlen : ((List.range n).map (ptL g)).length = n := by rw [List.length_map, List.length_range]
  rw [hlen] at hp2 h
  obtain ⟨dl, hdl⟩ : ∃ y, D.length = y := ⟨_, rfl⟩
  rw [hdl] at hd2 h ⊢
  have hdm := hd2.at9.2.1
  have hdc := hd2.at9.2.2.1
  have hd9 : dl ≤ 9223372036854775807 := by unfold maxLen at hdc; omega
  obtain ⟨Av, cv, rfl, _, _, _⟩ := hs.ld
  have hpb := h
  unfold whC at hpb
  have c6 := cell9_blk hpb 6 (v := .slice Ao dl co) rfl
  have HA := Lib.hid (And.intro h (And.intro hs (And.intro hp2 (And.intro hd2 (And.intro hno (And.intro hcy (And.intro ho (And.intro hF (And.intro hn hdl)))))))))
  clear h hs hp hp2 hd hd2 hno hcy ho hF hn hdl hlen hpb hdm hdc
  go_enter Tryd.func21, Tryd.ntmps21
  go_wp2_with fail
  clear c6
  go_loopw [11] (fun tv wr => ∃ (t : Nat) (F' : Nat → Nat → Bool), tv = .int .i64 t ∧ t ≤ dl ∧ BlK w wr n bl ∧ StsO wr B (.slice Av n cv) n bl F' ∧ PtI g x D t 0 F') (fun tv _ => dl - (intOf tv).toNat)
  case atStart => exact ⟨0, F, rfl, Nat.zero_le _, BlK.refl _ _ _, HA.out.2.1, HA.out.2.2.2.2.2.2.2.1⟩
  case round =>
    obtain ⟨t, F', rfl, ht, hk, hst, hpt⟩ := hrel
    by_cases htl : t < dl
    · have s0 : (0 : Int) ≤ t := by omega
      have s1 : (t : Int) < dl := by omega
      have hck := hk.ck HA.out.2.1
      obtain ⟨al, i, rfl, hit, ck⟩ := (HA.out.2.2.2.1.ck hck).at9.2.2.2 t htl
      have hin : i < n := by have := HA.out.2.2.2.2.2.2.1.lt i (List.mem_of_getElem? hit); rw [HA.out.2.2.2.2.2.2.2.2.1] at this; exact this
      have i0 : (0 : Int) ≤ i := by omega
      have i1 : (i : Int) < n := by omega
      obtain ⟨ap, l, A2, c2, rfl, hl2, k0, hrl⟩ := HA.out.2.2.1.at9.2.2.2 i hin
      have k0' := hck _ _ k0
      have hle : l = ptL g i := by
        rw [List.getElem?_map, List.getElem?_range hin] at hl2
        exact (Option.some.inj hl2).symm
      have hpb := hk.blk HA.out.2.1 HA.out.1
      have d5 := cell9_blk hpb 5 (v := .slice (some ap) n cp) rfl
      obtain ⟨ll, hlle⟩ : ∃ y, l.length = y := ⟨_, rfl⟩
      rw [hlle] at k0' hrl
      have hl3 := hrl.at9.2.1
      have hl4 := hrl.at9.2.2.1
      have hl9 : ll ≤ 9223372036854775807 := by unfold maxLen at hl4; omega
      have HK := Lib.hid (And.intro hk (And.intro hst (And.intro hpt (And.intro hit (And.intro hin (And.intro hle (And.intro hlle hrl)))))))
      clear hk hst hpt hit hle hlle hrl hl2 hck hpb k0 hl3 hl4
      go_wp2_with fail
      clear k0' d5 ck
      go_loopw [23] (fun sv wr => ∃ (s : Nat) (F' : Nat → Nat → Bool), sv = .int .i64 s ∧ s ≤ ll ∧ BlK w wr n bl ∧ StsO wr B (.slice Av n cv) n bl F' ∧ PtI g x D t s F') (fun sv _ => ll - (intOf sv).toNat)
      case atStart => exact ⟨0, F', rfl, Nat.zero_le _, HK.out.1, HK.out.2.1, HK.out.2.2.1⟩
      case round =>
        obtain ⟨s, G, rfl, hs, hk, hst, hpt⟩ := hrel
        by_cases hsl : s < ll
        · have t0 : (0 : Int) ≤ s := by omega
          have t1 : (s : Int) < ll := by omega
          have hck := hk.ck HA.out.2.1
          obtain ⟨a2, q, rfl, hqs, cq⟩ := (HK.out.2.2.2.2.2.2.2.ck hck).at9.2.2.2 s hsl
          have hqp : (ptL g i)[s]? = some q := by rw [← HK.out.2.2.2.2.2.1]; exact hqs
          have hqn : q < n := by have := ptL_lt (List.mem_of_getElem? hqp); rw [HA.out.2.2.2.2.2.2.2.2.1] at this; exact this
          have hne : i ≠ q := fun e => HA.out.2.2.2.2.2.1 ⟨i, .one (eM_mem.2 (wyR_mem.2 ⟨by rw [HA.out.2.2.2.2.2.2.2.2.1]; exact hin, by have := List.mem_of_getElem? hqp; rw [← e] at this; exact this⟩))⟩
          have q0 : (0 : Int) ≤ q := by omega
          have q1 : (q : Int) < n := by omega
          obtain ⟨Av', cv', ev, _, _, hld⟩ := hst.ld
          injection ev with ev1 ev2 ev3
          subst ev1 ev3
          obtain ⟨av, rfl, ci⟩ := hld i hin
          obtain ⟨av2, e2, cj⟩ := hld q hqn
          injection e2 with e2
          subst e2
          have hpb := hk.blk HA.out.2.1 HA.out.1
          have d4 := cell9_blk hpb 4 (v := .slice (some av) n cv) rfl
          have HAd := Lib.hid (fun V (hV : Below wr.heap.size wr V) => addAll_any (bl i) (bl q) (G i) (G q) V (fun e => hne (hst.inj i q hin hqn e)) ((hst.st i hin).below hV) ((hst.st q hqn).below hV))
          have HT := Lib.hid (And.intro hk (And.intro hst (And.intro hpt (And.intro hqp hpb))))
          clear hk hst hpt hqs hqp hpb hld hck hne
          have HSS := Lib.hid (And.intro d4 (And.intro ci cj))
          have hob := (HT.out.2.1.st i hin).obj
          have HSt : Hid (∀ V, wr.drew.grownBy V (some (bl i)) → V.cell? ⟨ps, 4, none⟩ = some (.slice (some av) n cv) ∧ V.cell? (av.add i) = some (.map (some (bl i))) ∧ V.cell? (av.add q) = some (.map (some (bl q)))) := Lib.hid fun V hg => by
            have hcv : CK wr V := fun a u hu => by
              have hlt := World.block_lt_of_cell? _ _ hu
              refine (World.cell?_of_block (w := wr) (hg.block a.block hlt fun e => ?_)).trans hu
              injection e with e
              obtain ⟨es, c, h1⟩ := hob
              unfold World.cell? at hu
              rw [e, h1] at hu
              cases hu
            exact ⟨hcv _ _ d4, hcv _ _ ci, hcv _ _ cj⟩
          clear d4 ci cj hob
          go_upto_region 6 with (fail)
          go_region_held3 (fun V => V.cell? ⟨ps, 4, none⟩ = some (.slice (some av) n cv) ∧ V.cell? (av.add i) = some (.map (some (bl i))) ∧ V.cell? (av.add q) = some (.map (some (bl q)))) (first | exact HSS.out | exact HSt.out _ (by assumption)) (first
            | (go_at_call 39
               refine (HAd.out _ (below_dq _ 1)).mono ?_
               rintro e V1 ⟨rfl, hs1, hg1⟩))
          have hg2 : wr.grownBy V1 (some (bl i)) := ⟨hg1.os, hg1.tape, hg1.output, hg1.size, hg1.block⟩
          have HV := Lib.hid (And.intro hs1 hg2)
          clear hs1 hg1 hg2
          go_wp2_with fail
          refine ⟨⟨s + 1, fun a => if a = i then (fun p => G i p || G q p) else G a, by go_num, hsl, HT.out.1.step hin HV.out.2, HT.out.2.1.turn hin HV.out.1 HV.out.2, HT.out.2.2.1.step HA.out.2.2.2.2.2.2.1 HK.out.2.2.2.1 HT.out.2.2.2.1 fun a _ p => ?_⟩, by simp [intOf]; omega⟩
          by_cases e : a = i
          · rw [if_pos e, if_pos e]
          · rw [if_neg e, if_neg e]
        · obtain rfl : ll = s := by omega
          have r1 : ¬ (ll : Int) < ll := by omega
          have HT := Lib.hid (And.intro hk (And.intro hst hpt))
          clear hk hst hpt
          go_wp2_with fail
          refine ⟨⟨t + 1, G, by go_num, htl, HT.out.1, HT.out.2.1, ?_⟩, by simp [intOf]; omega⟩
          have h := HT.out.2.2
          rw [← HK.out.2.2.2.2.2.2.1, HK.out.2.2.2.2.2.1] at h
          exact h.next HA.out.2.2.2.2.1 HA.out.2.2.2.2.2.2.1 HK.out.2.2.2.1
    · obtain rfl : dl = t := by omega
      have r1 : ¬ (dl : Int) < dl := by omega
      have HT := Lib.hid (And.intro hk (And.intro hst hpt))
      clear hk hst hpt
      go_wp2_with fail
      go_end0
      exact ⟨rfl, HT.out.1, F', HT.out.2.1, HT.out.2.2⟩
end Go.Proofs.YtkfnbapnkmlopaaDoor
/- Contract: layer 13's package: Expand. -/
namespace Go.Proofs.YtkfnbapnkmlopaaDoor
open Go.RowKit

/-- What is known behind k looks. -/
def PhX (ps : Nat) (gv xv : Value) (g : List Grp) (x : List Itm) : Nat → World → Prop
  | 0, V => V.heap[ps]? = some (whC gv xv (.map none) (.map none) nilS nilS nilS)
  | 1, V => V.heap[ps]? = some (whC gv xv (.map none) (.map none) nilS nilS nilS) ∧ fullG g x = false
  | 2, V => ∃ b1 b2, V.heap[ps]? = some (whC gv xv (.map (some b1)) (.map (some b2)) nilS nilS nilS) ∧ NamB V b1 (gN g) ∧ NamB V b2 (iN x) ∧ fullG g x = false ∧ fiN g.length (twB (gN g)) = none ∧ fiN x.length (twB (iN x)) = none
  | 3, V => ∃ n1 n2 mv pv bl Z B, V.heap[ps]? = some (whC gv xv n1 n2 mv pv nilS) ∧ StsO V B mv g.length bl (F2 g x x.length) ∧ LsO V B pv ((List.range g.length).map (ptL g)) Z ∧ ps < B ∧ fullG g x = false ∧ fiN g.length (twB (gN g)) = none ∧ fiN x.length (twB (iN x)) = none ∧ fiN g.length (nonB g x) = none ∧ fiN x.length (noiB g x) = none
  | _ + 4, V => ∃ n1 n2 mv pv ov bl B, V.heap[ps]? = some (whC gv xv n1 n2 mv pv ov) ∧ StsO V B mv g.length bl (F2 g x x.length) ∧ RowLL V pv ((List.range g.length).map (ptL g)) ∧ RowN V ov (ordT (wyR g g.length) g.length) ∧ ps < B ∧ OkG g x
theorem PhX.below {ps k : Nat} {gv xv : Value} {g : List Grp} {x : List Itm} {V V' : World} (h : PhX ps gv xv g x k V) (hb : Below V.heap.size V V') : PhX ps gv xv g x k V' := by
  have hs : ∀ {y}, V.heap[ps]? = some y → V'.heap[ps]? = some y := fun h => (hb.block ps (blk9_lt h)).trans h
  match k, h with
  | 0, h => exact hs h
  | 1, h => exact ⟨hs h.1, h.2⟩
  | 2, ⟨b1, b2, h1, h2, h3, h4⟩ => exact ⟨b1, b2, hs h1, h2.below hb, h3.below hb, h4⟩
  | 3, ⟨n1, n2, mv, pv, bl, Z, B, h1, h2, h3, h4⟩ => exact ⟨n1, n2, mv, pv, bl, Z, B, hs h1, h2.below hb, h3.below hb, h4⟩
  | _ + 4, ⟨n1, n2, mv, pv, ov, bl, B, h1, h2, h3, h4, h5⟩ => exact ⟨n1, n2, mv, pv, ov, bl, B, hs h1, h2.below hb, h3.below hb, h4.below hb, h5⟩
def fnX : Nat → FuncId
  | 0 => 17
  | 1 => 18
  | 2 => 19
  | _ => 20
theorem fnX_enters (k : Nat) : Ent1 (fnX k) := by
  match k with
  | 0 => exact enters_of Tryd.func17 (by kernel_rfl) rfl
  | 1 => exact enters_of Tryd.func18 (by kernel_rfl) rfl
  | 2 => exact enters_of Tryd.func19 (by kernel_rfl) rfl
  | _ + 3 => exact enters_of Tryd.func20 (by kernel_rfl) rfl
theorem full_len {g : List Grp} {x : List Itm} (h : fullG g x = false) : g.length ≤ 1024 ∧ x.length ≤ 1024 := by
  rw [fullG_eq] at h
  simp only [Bool.or_eq_false_iff, decide_eq_false_iff_not] at h
  omega
/-- What a look answers. -/
def LkX (r : Nat × Nat) (e : Ending) : Prop := e = .returned (.tuple #[.int .i64 (r.1 : Nat), errE r.2])
theorem lookX (w : World) (ps : Nat) (gv xv : Value) (g : List Grp) (x : List Itm) (k : Nat) (V : World) (hk : k < 4) (hbel : Below w.heap.size w V) (hps : w.heap.size ≤ ps) (hT : Tz w) (hS : SmG g x) (hv : RowG w gv g) (hu : RowX w xv x) (h : PhX ps gv xv g x k V) :
    Calls Tryd.prog (fnX k) #[.pointer (some ⟨ps, 0, none⟩)] V fun e V' => V.grownBy V' (some ps) ∧ ((∃ r : Nat × Nat, ckG g x = r ∧ r.2 ≠ 0 ∧ LkX r e) ∨ (LkX (0, 0) e ∧ PhX ps gv xv g x (k + 1) V')) := by
  match k, h with
  | 0, h =>
    refine (sizes_any ps gv xv _ _ _ _ _ g x V h (hv.below hbel) (hu.below hbel)).mono ?_
    rintro e V' ⟨rfl, hb⟩
    refine ⟨grown_ofBW hb _, ?_⟩
    cases hf : fullG g x with
    | true => exact .inl ⟨(0, 10), ckG_full hf, by decide, rfl⟩
    | false => exact .inr ⟨rfl, (hb.block ps (blk9_lt h)).trans h, hf⟩
  | 1, ⟨h1, hf⟩ =>
    obtain ⟨l1, l2⟩ := full_len hf
    refine (tnames_any ps gv xv _ _ _ _ _ g x V h1 (hv.below hbel) (hu.below hbel) l1 l2 hS).mono ?_
    rintro e V' ⟨hg, h2⟩
    refine ⟨hg, ?_⟩
    cases c1 : fiN g.length (twB (gN g)) with
    | some i =>
      rw [c1] at h2
      exact .inl ⟨(i, 7), ckG_tw hf c1, by show (7 : Nat) ≠ 0; decide, h2⟩
    | none =>
      rw [c1] at h2
      cases c2 : fiN x.length (twB (iN x)) with
      | some i =>
        rw [c2] at h2
        exact .inl ⟨(g.length + i, 7), ckG_ti hf c1 c2, by show (7 : Nat) ≠ 0; decide, h2⟩
      | none =>
        rw [c2] at h2
        obtain ⟨h3, b1, b2, h4, h5, h6⟩ := h2
        exact .inr ⟨h3, b1, b2, h4, h5, h6, hf, c1, c2⟩
  | 2, ⟨b1, b2, h1, hn1, hn2, hf, c1, c2⟩ =>
    obtain ⟨l1, l2⟩ := full_len hf
    refine (fnames_any w ps b1 b2 gv xv nilS g x V hbel hps hT hv hu h1 hn1 hn2 l1 l2 hS).mono ?_
    rintro e V' ⟨hg, h2⟩
    refine ⟨hg, ?_⟩
    cases c3 : fiN g.length (nonB g x) with
    | some i =>
      rw [c3] at h2
      exact .inl ⟨(i, 8), ckG_no hf c1 c2 c3, by show (8 : Nat) ≠ 0; decide, h2⟩
    | none =>
      rw [c3] at h2
      cases c4 : fiN x.length (noiB g x) with
      | some i =>
        rw [c4] at h2
        exact .inl ⟨(g.length + i, 8), ckG_ni hf c1 c2 c3 c4, by show (8 : Nat) ≠ 0; decide, h2⟩
      | none =>
        rw [c4] at h2
        obtain ⟨h3, mv, pv, bl, Z, h4, h5, h6⟩ := h2
        exact .inr ⟨h3, _, _, mv, pv, bl, Z, V.heap.size, h4, h5, h6, blk9_lt h1, hf, c1, c2, c3, c4⟩
  | 3, ⟨n1, n2, mv, pv, bl, Z, B, h1, hst, hls, hB, hf, c1, c2, c3, c4⟩ =>
    obtain ⟨l1, l2⟩ := full_len hf
    obtain ⟨A, ca, rfl, _⟩ := hv.form
    refine (loops_any ps A g.length ca xv n1 n2 mv pv g x V rfl h1 hls.rowLL l1 (fiN_none c3)).mono ?_
    rintro e V' ⟨hg, h2⟩
    refine ⟨hg, ?_⟩
    cases c5 : fiN g.length (lopB g) with
    | some i =>
      rw [c5] at h2
      exact .inl ⟨(i, 9), ckG_lp hf c1 c2 c3 c4 c5, by show (9 : Nat) ≠ 0; decide, h2⟩
    | none =>
      rw [c5] at h2
      obtain ⟨h3, ov, h4, h5⟩ := h2
      exact .inr ⟨h3, n1, n2, mv, pv, ov, bl, B, h4, hst.kept hg (fun b hb => by injection hb with hb; exact .inl (by omega)), (hls.kept hg (fun b hb => by injection hb with hb; exact .inl (by omega))).rowLL, h5, hB,
        ⟨hf, fiN_none c1, fiN_none c2, fiN_none c3, fiN_none c4, fun i hi => lopB_no.1 (fiN_none c5 i hi)⟩⟩
/-- Between two looks. -/
structure ExI (w : World) (ps : Nat) (gv xv : Value) (g : List Grp) (x : List Itm) (k : Nat) (V : World) : Prop where
  bel : Below w.heap.size w V
  fns : V.heap[ps + 1]? = some (.cells #[.func (.func 17) #[.pointer (some ⟨ps, 0, none⟩)] #[], .func (.func 18) #[.pointer (some ⟨ps, 0, none⟩)] #[], .func (.func 19) #[.pointer (some ⟨ps, 0, none⟩)] #[], .func (.func 20) #[.pointer (some ⟨ps, 0, none⟩)] #[]] 61 (0, 0))
  ph : PhX ps gv xv g x k V
/-- What Expand answers. -/
def ExE (g : List Grp) (x : List Itm) (w : World) (e : Ending) (w' : World) : Prop := ∃ lv, e = .returned (.tuple #[lv, .int .i64 ((ckG g x).1 : Nat), errE (ckG g x).2]) ∧ RowLL w' lv (if (ckG g x).2 = 0 then exG g x else []) ∧ Below w.heap.size w w'
theorem ExE.no {g : List Grp} {x : List Itm} {w w' : World} {e : Ending} {r : Nat × Nat} (hr : ckG g x = r) (h0 : r.2 ≠ 0) (he : e = .returned (.tuple #[nilS, .int .i64 (r.1 : Nat), errK r.2])) (hb : Below w.heap.size w w') : ExE g x w e w' := by
  unfold ExE
  rw [hr]
  refine ⟨nilS, ?_, ?_, hb⟩
  · rw [errE_pos h0]
    exact he
  · rw [if_neg h0]
    exact RowLL.nil _
theorem ExE.ok {g : List Grp} {x : List Itm} {w w' : World} {e : Ending} {lv : Value} (hk : OkG g x) (he : e = .returned (.tuple #[lv, .int .i64 0, .nilIface])) (hr : RowLL w' lv (exG g x)) (hb : Below w.heap.size w w') : ExE g x w e w' := by
  unfold ExE
  rw [hk.ck]
  exact ⟨lv, he, by rw [if_pos rfl]; exact hr, hb⟩
set_option maxRecDepth 100000 in
set_option maxHeartbeats 4000000 in
theorem expand_any (gv xv : Value) (g : List Grp) (x : List Itm) (w : World) (hT : Tz w) (hS : SmG g x) (hv : RowG w gv g) (hu : RowX w xv x) :
    Calls Tryd.prog 10 #[gv, xv] w (ExE g x w) := by
  obtain ⟨A, ca, rfl, hr⟩ := hv.form
  obtain ⟨B, cb, rfl, hs⟩ := hu.form
  obtain ⟨n, hn⟩ : ∃ n, g.length = n := ⟨_, rfl⟩
  obtain ⟨m, hm⟩ : ∃ n, x.length = n := ⟨_, rfl⟩
  rw [hn] at hr ⊢
  rw [hm] at hs ⊢
  obtain ⟨ps, hps⟩ : ∃ y, w.heap.size = y := ⟨_, rfl⟩
  obtain ⟨V1, hV1⟩ : ∃ y, w.alloc (.cells #[.slice A n ca, .slice B m cb, .map none, .map none, .slice none 0 0, .slice none 0 0, .slice none 0 0] 60) = y := ⟨_, rfl⟩
  obtain ⟨V0, hV0⟩ : ∃ y, V1.alloc (.cells #[.func (.func 17) #[.pointer (some ⟨ps, 0, none⟩)] #[], .func (.func 18) #[.pointer (some ⟨ps, 0, none⟩)] #[], .func (.func 19) #[.pointer (some ⟨ps, 0, none⟩)] #[], .func (.func 20) #[.pointer (some ⟨ps, 0, none⟩)] #[]] 61) = y := ⟨_, rfl⟩
  have hb1 : Below w.heap.size w V1 := by rw [← hV1]; exact (Below.refl _ _).alloc (Nat.le_refl _) _
  have hs1 : V1.heap.size = ps + 1 := by rw [← hV1, World.size_alloc, hps]
  have hb0 : Below V1.heap.size V1 V0 := by rw [← hV0]; exact (Below.refl _ _).alloc (Nat.le_refl _) _
  have hI0 : ExI w ps (.slice A n ca) (.slice B m cb) g x 0 V0 := by
    refine ⟨hb1.trans (hb0.mono hb1.size), ?_, ?_⟩
    · have h := (MapKept.heap_alloc V1 (.cells #[.func (.func 17) #[.pointer (some ⟨ps, 0, none⟩)] #[], .func (.func 18) #[.pointer (some ⟨ps, 0, none⟩)] #[], .func (.func 19) #[.pointer (some ⟨ps, 0, none⟩)] #[], .func (.func 20) #[.pointer (some ⟨ps, 0, none⟩)] #[]] 61)).1
      rw [hV0, hs1] at h
      exact h
    · have h := (MapKept.heap_alloc w (.cells #[.slice A n ca, .slice B m cb, .map none, .map none, .slice none 0 0, .slice none 0 0, .slice none 0 0] 60)).1
      rw [hV1, hps] at h
      exact (hb0.block ps (by omega)).trans h
  have HA := Lib.hid (And.intro hT (And.intro hS (And.intro hr (And.intro hs (And.intro hn (And.intro hm hps))))))
  have HI0 := Lib.hid hI0
  clear hT hS hr hs hv hu hn hm hb1 hb0 hI0
  go_enter Tryd.func10, Tryd.ntmps10
  go_wp2_with fail
  clear hV0 hV1 hs1
  go_loopw [31] (fun kv wr => ∃ k : Nat, kv = .int .i64 k ∧ k ≤ 4 ∧ ExI w ps (.slice A n ca) (.slice B m cb) g x k wr) (fun kv _ => 4 - (intOf kv).toNat)
  case atStart => exact ⟨0, rfl, Nat.zero_le _, HI0.out⟩
  case round =>
    obtain ⟨k, rfl, hk, hI⟩ := hrel
    by_cases hlk : k < 4
    · have z2 : (0 : Int) ≤ k := by omega
      have z3 : (k : Int) < 4 := by omega
      have hst := lookX w ps (.slice A n ca) (.slice B m cb) g x k wr hlk hI.bel (by rw [HA.out.2.2.2.2.2.2]; exact Nat.le_refl _) HA.out.1 HA.out.2.1 HA.out.2.2.1 HA.out.2.2.2.1 hI.ph
      have cf := cell9_blk hI.fns k (v := .func (.func (fnX k)) #[.pointer (some ⟨ps, 0, none⟩)] #[]) (by rcases k with _ | _ | _ | _ | k <;> first | rfl | omega)
      have eg := fnX_enters k
      unfold Ent1 at eg
      have HC := Lib.hid hst
      have HI := Lib.hid hI
      generalize fnX k = fk at *
      clear hst hI
      go_wp2_with fail
      with_reducible refine HC.out.mono ?_
      rintro e V ⟨hg, ⟨r, hr, hr0, he⟩ | ⟨he, hph⟩⟩
      · unfold LkX at he
        rw [errE_pos hr0] at he
        unfold errK at he
        subst he
        have hbw : Below w.heap.size w V := HI.out.bel.grown hg HI.out.bel.size (fun j hj => by injection hj with hj; rw [HA.out.2.2.2.2.2.2]; omega)
        have HR := Lib.hid (And.intro hr (And.intro hr0 hbw))
        clear hg hr hr0 hbw
        go_wp2_with fail
        go_ret3
        exact ExE.no HR.out.1 HR.out.2.1 rfl HR.out.2.2
      · unfold LkX at he
        rw [errE_zero] at he
        subst he
        have hbw : Below w.heap.size w V := HI.out.bel.grown hg HI.out.bel.size (fun j hj => by injection hj with hj; rw [HA.out.2.2.2.2.2.2]; omega)
        have hfn := (hg.block (ps + 1) (blk9_lt HI.out.fns) (fun e => by injection e with e; omega)).trans HI.out.fns
        have HR := Lib.hid (And.intro hbw (And.intro hfn hph))
        clear hg hph hbw hfn
        go_wp2_with fail
        exact ⟨⟨k + 1, by go_num, hlk, HR.out.1, HR.out.2.1, HR.out.2.2⟩, by simp [intOf]; omega⟩
    · obtain rfl : k = 4 := by omega
      obtain ⟨n1, n2, mv, pv, ov, bl, B2, h1, hst, hrl, hrn, hB, hok⟩ := hI.ph
      obtain ⟨l1, l2⟩ := full_len hok.full
      have hno := hok.no
      have hcy := wyR_cyc hno (fiN_no fun i hi => lopB_no.2 (hok.lp i hi))
      obtain ⟨hor, hol⟩ := ordK_ok (wyR_ok g) hcy g.length (Nat.le_refl _)
      have hpa := parts_any ps B2 g.length (.slice A n ca) (.slice B m cb) n1 n2 mv pv ov bl (F2 g x x.length) g x (ordT (wyR g g.length) g.length) wr rfl l1 h1 hst hrl hrn hno hcy hor (PtI.start fun a ha p => F2_dir hok.tg hok.ti ha p)
      obtain ⟨Av, cv, rfl, _, _, _⟩ := hst.ld
      have hdl : (ordT (wyR g g.length) g.length).length = g.length := hol
      rw [hdl] at hpa
      have HK := Lib.hid (And.intro hI.bel (And.intro h1 (And.intro hst (And.intro hB (And.intro hok (And.intro hor hdl))))))
      have HP := Lib.hid hpa
      rw [HA.out.2.2.2.2.1] at l1 HP
      rw [HA.out.2.2.2.2.2.1] at l2
      clear hI h1 hst hrl hrn hB hok hno hcy hor hol hpa hdl
      go_wp2_with fail
      with_reducible refine HP.out.mono ?_
      rintro e V ⟨rfl, hbk, F', hst, hpt⟩
      have hp4 := hbk.blk (n := n) (B := B2) (by have h := HK.out.2.2.1; rw [HA.out.2.2.2.2.1] at h; exact h) HK.out.2.1
      unfold whC at hp4
      have d4 := cell9_blk hp4 4 (v := .slice Av n cv) (by rw [HA.out.2.2.2.2.1]; rfl)
      have hbw : Below w.heap.size w V := ⟨hbk.os.trans HK.out.1.os, hbk.tape.trans HK.out.1.tape, hbk.output.trans HK.out.1.output, Nat.le_trans HK.out.1.size hbk.size, fun j hj => (hbk.block j (Nat.lt_of_lt_of_le hj HK.out.1.size) (fun i hi e => by
        have h3 := HK.out.2.2.1.ge i (by rw [HA.out.2.2.2.2.1]; exact hi)
        have h4 := HK.out.2.2.2.1
        rw [HA.out.2.2.2.2.2.2] at hj
        omega)).trans (HK.out.1.block j hj)⟩
      have HV := Lib.hid (And.intro hst (And.intro hpt hbw))
      clear hst hpt hbk hp4 hbw
      go_wp2_with fail
      clear d4
      go_loopw [13, 52] (fun lv iv wr => ∃ (i : Nat) (Z : List Value), iv = .int .i64 i ∧ i ≤ n ∧ Below V.heap.size V wr ∧ LsO wr V.heap.size lv ((List.range i).map (memL g x)) Z) (fun _ iv _ => n - (intOf iv).toNat)
      case atStart => exact ⟨0, [], rfl, Nat.zero_le _, Below.refl _ _, LsO.nil _ _⟩
      case round =>
        obtain ⟨i, Z, rfl, hi, hb, hls⟩ := hrel
        by_cases hin : i < n
        · have q0 : (0 : Int) ≤ i := by omega
          have q1 : (i : Int) < n := by omega
          have hst := HV.out.1.below hb
          obtain ⟨Av', cv', ev, _, _, hld⟩ := hst.ld
          injection ev with ev1 ev2 ev3
          subst ev1 ev3
          have hig : i < g.length := by rw [HA.out.2.2.2.2.1]; exact hin
          obtain ⟨av, rfl, ci⟩ := hld i hin
          have hpt2 : PtI g x (ordT (wyR g g.length) g.length) g.length 0 F' := by rw [HA.out.2.2.2.2.1]; exact HV.out.2.1
          have hPl := places_any (bl i) m (F' i) wr (HA.out.1.below (HV.out.2.2.trans (hb.mono HV.out.2.2.size))) (by omega) (fun p hp => by have h := hpt2.lt HK.out.2.2.2.2.2.1 HK.out.2.2.2.2.2.2 i hig p hp; rw [HA.out.2.2.2.2.2.1] at h; exact h) (hst.st i hin)
          have hdn := hpt2.done HK.out.2.2.2.2.2.1 HK.out.2.2.2.2.2.2 i hig
          rw [HA.out.2.2.2.2.2.1] at hdn
          rw [hdn] at hPl
          obtain ⟨ll, hll⟩ : ∃ l, (memL g x i).length = l := ⟨_, rfl⟩
          rw [hll] at hPl
          have hZl : Z.length = i := by have h := hls.len; rwa [List.length_map, List.length_range] at h
          have how := hls.own
          rw [hZl] at how
          have HPl := Lib.hid hPl
          have HT := Lib.hid (And.intro hb (And.intro hls (And.intro hll (And.intro hZl how))))
          clear hst hld hpt2 hPl hdn hb hls hll hZl how
          go_wp2_with (first
            | (with_reducible refine HPl.out.mono ?_
               rintro e V5 ⟨pl, rfl, hop, hb5⟩
               obtain ⟨Al, cl, rfl, _⟩ := owns_form hop
               have hba5 : Below V5.heap.size V5 (V5.alloc (.cells #[.slice Al ll cl] 48)) := (Below.refl _ _).alloc (Nat.le_refl _) _
               have H5 := Lib.hid (And.intro hb5 (And.intro (own_base hop HT.out.1.size) hba5))
               clear hop hb5 hba5)
            | (at_builtin
               refine wpList_app rfl (.tmp 56) (.tmp 59) 30 rfl elL V.heap.size u13 i Z rfl (own_sameO (own_sameO HT.out.2.2.2.2 H5.out.1) H5.out.2.2) (some ⟨V5.heap.size, 0, none⟩) 1 1 [.slice Al ll cl] rfl rfl (Rd.block (MapKept.heap_alloc V5 (.cells #[.slice Al ll cl] 48)).1) (fun u hu => by rw [List.mem_singleton.1 hu]; rfl) (by unfold maxLen; omega) (by omega) (by rw [World.size_alloc]; have h1 := H5.out.1.size; have h2 := HT.out.1.size; omega) ?_
               intro v' V6 ho hg hob
               have H6 := Lib.hid (And.intro ho hg)
               clear ho hg hob))
          have h45 : Below wr.heap.size wr (V5.alloc (.cells #[.slice Al ll cl] 48)) := H5.out.1.trans (H5.out.2.2.mono H5.out.1.size)
          have hbV := HT.out.1.trans (h45.mono HT.out.1.size)
          refine ⟨⟨i + 1, Z ++ [.slice Al ll cl], by go_num, hin, Below.grown hbV H6.out.2 hbV.size (fun b hb => (HT.out.2.2.2.2.lt b hb).1), ?_⟩, by simp [intOf]; omega⟩
          have hp1 := (HT.out.2.1.below h45).push (L := memL g x i) (by rw [HT.out.2.2.1]; exact own_sameO H5.out.2.1 H5.out.2.2) (by rw [HT.out.2.2.2.1]; exact H6.out.1) H6.out.2
          have e : (List.range (i + 1)).map (memL g x) = (List.range i).map (memL g x) ++ [memL g x i] := by rw [List.range_succ, List.map_append, List.map_singleton]
          rw [e]
          exact hp1
        · obtain rfl : n = i := by omega
          have r1 : ¬ (n : Int) < n := by omega
          have hll := hls.rowLL
          have HT := Lib.hid (And.intro hb hll)
          clear hb hls hll
          go_wp2_with fail
          go_ret3
          refine ExE.ok HK.out.2.2.2.2.1 rfl ?_ (HV.out.2.2.trans (HT.out.1.mono HV.out.2.2.size))
          unfold exG
          rw [HA.out.2.2.2.2.1]
          exact HT.out.2
theorem pgX : PgX := ⟨fun v u g x w hT hS hv hu => expand_any v u g x w hT hS hv hu⟩
end Go.Proofs.YtkfnbapnkmlopaaDoor

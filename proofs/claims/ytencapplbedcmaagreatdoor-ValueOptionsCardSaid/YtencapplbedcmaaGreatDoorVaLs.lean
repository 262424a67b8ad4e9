/- Contract: value's List. -/
import Derived.Test.YtencapplbedcmaaGreatDoorVaPa
import Derived.Test.YtencapplbedcmaaGreatDoorVaFn
import Derived.Maps.OwnIn
namespace Go.Proofs.YtencapplbedcmaaGreatDoor
open Go.RowKit Go.Shelf
attribute [local go_sem] Oper.semAt_some

theorem results_cells2 {P : Program} {fn : Func} {p q : Tmp} {ty uy : TypeId} (h : fn.results = #[.cell p ty, .cell q uy]) (tmps : Array Value) (w : World) (g g' : Nat) (v v' : Value)
    (hp : tmps[p]?.getD undef = .pointer (some ⟨g, 0, none⟩)) (hq : tmps[q]?.getD undef = .pointer (some ⟨g', 0, none⟩)) (hg : w.cell? ⟨g, 0, none⟩ = some v) (hg' : w.cell? ⟨g', 0, none⟩ = some v')
    (ha : ∀ w, (isAgg ty).run P w = .ok false w) (hb : ∀ w, (isAgg uy).run P w = .ok false w) :
    (results fn tmps).run P w = .ok (.tuple #[v, v']) w := by
  simp only [results, h]
  simp [Sem.run_bind, Result.andThen, hp, hq, asAddr, loadVar, ha, hb, hg, hg']
theorem own_same {w w' : World} {base k n : Nat} {e : TypeId} {v : Value} {xs : List Value} (h : w.ownsRow base e k v n xs) (hb : ∀ g, v.ownBlock = some g → w'.heap[g]? = w.heap[g]?) : w'.ownsRow base e k v n xs := by
  obtain ⟨h1, h2⟩ := h
  refine ⟨h1, h2.imp id ?_⟩
  rintro ⟨g, cap, cur, rfl, hb', hh, rest⟩
  exact ⟨g, cap, cur, rfl, hb', (hb g rfl).trans hh, rest⟩
/-- The block in which a slice of one's own lies is none of S. -/
def Off (S : Nat → Prop) (v : Value) : Prop := ∀ g, v.ownBlock = some g → ¬ S g
theorem ownsRow_one {W : World} {base k : Nat} {e : TypeId} {v : Value} {xs : List Value} (h : W.ownsRow base e 1 v (k + 1) xs) : ∃ g cap, v = .slice (some ⟨g, 0, none⟩) (k + 1) cap := by
  rcases h.2 with ⟨_, h0⟩ | ⟨g, cap, _, rfl, _⟩
  · cases h0
  · exact ⟨g, cap, rfl⟩
theorem Bx.grownB {W W' : World} {B : Nat} {t : TypeId} {v : Value} {row : Option Nat} (h : Bx W B t v) (hg : W.grownBy W' row) (hne : row ≠ some B) : Bx W' B t v := (hg.block B h.lt (fun e => hne e.symm)).trans h
theorem wpListIn_appS {F : Fence} {nF : Nat} {w : World} {ops : Array Oper} {rest : List Oper} {o : Oper} {a : Go.Act} {Q : Exit → Go.Act → World → Prop} (hgd : o.guard = none) (s x : Operand)
    (ho : o.op = .call { callee := .builtin .append, args := #[s, x], argTypes := #[38, 38] })
    (base : Nat) (v : Value) (n : Nat) (us : List Value) (hs : a.eval s = v) (hown : w.ownsRow base 9 1 v n us) (g : Nat) (Y : ByteArray) (hx : a.eval x = .slice (some ⟨g, 0, none⟩) 1 1)
    (hc : Bx w g 9 (.string Y)) (hn : n ≤ 2000000) (hbase : base ≤ w.heap.size)
    (h : ∀ v' w', w'.ownsRow base 9 1 v' (n + 1) (us ++ [.string Y]) → w.grownBy w' v.ownBlock → (v'.ownBlock = v.ownBlock ∨ v'.ownBlock = some w.heap.size) → wpListIn F nF Tryz.prog ops Q rest (a.put o.dst v') w') :
    wpListIn F nF Tryz.prog ops Q (o :: rest) a w := by
  obtain ⟨i, hi, hz, hsz, hby⟩ := info_parts elStr.info
  refine wpListIn_append_own_at w hgd s x _ ho base _ i _ 1 16 elStr.ht hi hz hsz hby elStr.one (by decide) v n us hs hown ⟨g, 0, none⟩ 1 1 [.string Y] hx rfl (fun j u hu => ?_) (fun u hu => by rw [List.mem_singleton.1 hu]; rfl) (by unfold maxLen; omega) (by omega) hbase fun v' w' h1 h2 _ h3 => h v' w' h1 h2 h3
  rcases j with _ | j
  · have hu' := Option.some.inj hu
    subst hu'
    unfold Addr.add
    rw [if_pos rfl]
    exact hc.cell
  · cases hu
/-- Where the results, the list so far and the rest lie, between two rounds. -/
structure LsI (w : World) (r1 r2 b4 : Nat) (S : Nat → Prop) (pre : List Tx) (V : World) : Prop where
  x1 : Bx V r1 38 (.slice none 0 0)
  x2 : Bx V r2 25 .nilIface
  s1 : ¬ S r1
  s2 : ¬ S r2
  s4 : ¬ S b4
  low : ∀ k, S k → w.heap.size ≤ k
  below : Below w.heap.size w V
  ne : ∀ p ∈ pre, p ≠ []
  own : ∃ v, Bx V b4 38 v ∧ V.ownsRow w.heap.size 9 1 v pre.length (pre.map txC) ∧ Off S v ∧ v.ownBlock ≠ some r1 ∧ v.ownBlock ≠ some r2 ∧ v.ownBlock ≠ some b4
structure LsX (w : World) (r1 r2 : Nat) (S : Nat → Prop) (V : World) : Prop where
  x1 : Bx V r1 38 (.slice none 0 0)
  x2 : Bx V r2 25 (errK 3)
  s1 : ¬ S r1
  s2 : ¬ S r2
  low : ∀ k, S k → w.heap.size ≤ k
  below : Below w.heap.size w V
theorem Turns.belowT {S T : Nat → Prop} {V V' : World} {n : Nat} (h : Turns S T V V') (hl : ∀ k, S k → n ≤ k) (hn : n ≤ V.heap.size) : Below n V V' :=
  ⟨h.os, h.tape, h.output, h.size, fun k hk => h.same k (Nat.lt_of_lt_of_le hk hn) fun hs => absurd (hl k hs) (Nat.not_le.2 hk)⟩
theorem Turns.not {S T : Nat → Prop} {V V' : World} (h : Turns S T V V') {k : Nat} (hk : k < V.heap.size) (hs : ¬ S k) : ¬ T k := fun ht => (h.more k ht).elim hs (fun hge => absurd hk (Nat.not_lt.2 hge))
theorem LsI.stays {w : World} {r1 r2 b4 : Nat} : Stays (LsI w r1 r2 b4) := fun S T pre V V' h ht => by
  obtain ⟨v, o1, o2, o3, o4⟩ := h.own
  have hb := ht.belowT h.low h.below.size
  refine ⟨h.x1.turned ht h.s1, h.x2.turned ht h.s2, ht.not h.x1.lt h.s1, ht.not h.x2.lt h.s2, ht.not o1.lt h.s4, fun k hk => (ht.more k hk).elim (h.low k) (fun hge => Nat.le_trans h.below.size hge), h.below.trans hb, h.ne, v, o1.turned ht h.s4, own_same o2 (fun g hg => ht.same g (o2.lt g hg).2 (o3 g hg)), fun g hg => ht.not (o2.lt g hg).2 (o3 g hg), o4⟩
theorem LsX.stays {w : World} {r1 r2 : Nat} (p : Prop) : Stays (α := Tx) (fun S _ V => LsX w r1 r2 S V ∧ p) := fun S T pre V V' h ht => by
  obtain ⟨h, hp⟩ := h
  have hb := ht.belowT h.low h.below.size
  exact ⟨⟨h.x1.turned ht h.s1, h.x2.turned ht h.s2, ht.not h.x1.lt h.s1, ht.not h.x2.lt h.s2, fun k hk => (ht.more k hk).elim (h.low k) (fun hge => Nat.le_trans h.below.size hge), h.below.trans hb⟩, hp⟩
/-- How List ends. -/
def LsE (R : List Tx × Nat) (w : World) (e : Ending) (w' : World) : Prop := ∃ v, e = .returned (.tuple #[v, errE R.2]) ∧ RowS w' v R.1 ∧ Below w.heap.size w w'
theorem RowS.nil (w : World) : RowS w (.slice none 0 0) [] := ⟨none, 0, rfl, Nat.le_refl _, Nat.zero_le _, Rd.nil⟩
theorem lsE_of {R : List Tx × Nat} {w w' : World} {v ev : Value} {L : List Tx} {k : Nat} (hR : (L, k) = R) (he : ev = errE k) (hv : RowS w' v L) (hb : Below w.heap.size w w') : LsE R w (.returned (.tuple #[v, ev])) w' := by
  subst hR
  subst he
  exact ⟨v, rfl, hv, hb⟩
theorem aggS (w : World) : (isAgg 38).run Tryz.prog w = .ok false w := run_isAgg_plain Tryz.underlying38 rfl w
theorem aggE (w : World) : (isAgg 25).run Tryz.prog w = .ok false w := run_isAgg_plain Tryz.underlying25 rfl w
/-- The world in which the two results lie, behind the mark. -/
theorem ls_end {w V : World} {r1 r2 D : Nat} {a b v e : Value} {t u : TypeId} (h12 : r1 ≠ r2) (hd1 : D ≠ r1) (hd2 : D ≠ r2) (h1 : w.heap.size ≤ r1) (h2 : w.heap.size ≤ r2) (hd : w.heap.size ≤ D) (Y1 : Bx V r1 t a) (Y2 : Bx V r2 u b) (hD : V.heap[D]? = some (.deferred (some []))) (hb : Below w.heap.size w V) :
    ((V.setCell ⟨r1, 0, none⟩ v).setCell ⟨r2, 0, none⟩ e).heap[D]? = some (.deferred (some [])) ∧ Bx (((V.setCell ⟨r1, 0, none⟩ v).setCell ⟨r2, 0, none⟩ e).putObj D (.deferred none)) r1 t v ∧ Bx (((V.setCell ⟨r1, 0, none⟩ v).setCell ⟨r2, 0, none⟩ e).putObj D (.deferred none)) r2 u e ∧
      Below w.heap.size w (((V.setCell ⟨r1, 0, none⟩ v).setCell ⟨r2, 0, none⟩ e).putObj D (.deferred none)) ∧ ∀ k, k ≠ r1 → k ≠ r2 → k ≠ D → (((V.setCell ⟨r1, 0, none⟩ v).setCell ⟨r2, 0, none⟩ e).putObj D (.deferred none)).heap[k]? = V.heap[k]? := by
  have hk : ∀ k, k ≠ r1 → k ≠ r2 → ((V.setCell ⟨r1, 0, none⟩ v).setCell ⟨r2, 0, none⟩ e).heap[k]? = V.heap[k]? := fun k q1 q2 => (Below.heap_setCell _ _ _ k q2).trans (Below.heap_setCell _ _ _ k q1)
  have hp : ∀ k, k ≠ D → (((V.setCell ⟨r1, 0, none⟩ v).setCell ⟨r2, 0, none⟩ e).putObj D (.deferred none)).heap[k]? = ((V.setCell ⟨r1, 0, none⟩ v).setCell ⟨r2, 0, none⟩ e).heap[k]? := fun k q => World.putObj_heap_other q
  have hbU := (hb.setCell (p := ⟨r1, 0, none⟩) h1 v).setCell (p := ⟨r2, 0, none⟩) h2 e
  refine ⟨(hk D hd1 hd2).trans hD, (hp r1 (Ne.symm hd1)).trans ((Y1.set v).other (p := ⟨r2, 0, none⟩) (Ne.symm h12) e), (hp r2 (Ne.symm hd2)).trans ((Y2.other (p := ⟨r1, 0, none⟩) h12 v).set e), ⟨hbU.os, hbU.tape, hbU.output, by rw [World.putObj_size]; exact hbU.size, fun k hk' => (hp k (by omega)).trans (hbU.block k hk')⟩, fun k q1 q2 q3 => (hp k q3).trans (hk k q1 q2)⟩
set_option maxRecDepth 100000 in
set_option maxHeartbeats 2000000 in
theorem list_any (l : Tx) (w : World) (hl : l.length ≤ 900000) : Calls Tryz.prog 16 #[.string (str l)] w (LsE (listT l) w) := by
  refine (callsIn_wide (n := 0)).1 ?_
  refine callsIn_of_wp_marks Tryz.func16 rfl trivial ?_ rfl
  simp only [Tryz.ntmps16, List.size_toArray, List.length_cons, List.length_nil, Nat.reduceAdd, Nat.reduceSub, Array.replicate_succ, Array.replicate_zero, List.push_toArray, List.append_toArray, List.nil_append, List.cons_append]
  obtain ⟨R, hR⟩ : ∃ R, listT l = R := ⟨_, rfl⟩
  rw [hR]
  have HT := Lib.hid (fun w => trim_any l w (by omega))
  have HP := Lib.hid (fun w => parts_any l w)
  have HD := Lib.hid (fun B S0 hs W h0 hB => parts1_deals l (by omega) B S0 hs W h0 hB)
  obtain ⟨V1, hV1⟩ : ∃ V1, (w.alloc (.cells #[.slice none 0 0] 38)).alloc (.cells #[.nilIface] 25) = V1 := ⟨_, rfl⟩
  have hb1 : Below w.heap.size w V1 := by rw [← hV1]; exact ((Below.refl _ _).alloc (Nat.le_refl _) _).alloc (by simp) _
  have hz1 : V1.heap.size = w.heap.size + 2 := by rw [← hV1]; simp
  have x1 : Bx V1 w.heap.size 38 (.slice none 0 0) := by rw [← hV1]; exact (Bx.new w _ _).alloc _
  have x2 : Bx V1 (w.heap.size + 1) 25 .nilIface := by
    have h := Bx.new (w.alloc (.cells #[.slice none 0 0] 38)) 25 .nilIface
    rw [World.size_alloc, hV1] at h
    exact h
  have HV := Lib.hid (And.intro hb1 (And.intro hz1 (And.intro x1 x2)))
  clear hb1 hz1 x1 x2
  by_cases ht : trw l = []
  · rw [ht] at HT
    have hRR : ([], 13) = R := by rw [← hR, listT, if_pos ht]
    have HR := Lib.hid hRR
    have t0 : str ([] : Tx) = { data := #[] } := rfl
    rw [t0] at HT
    generalize str l = D at *
    clear hRR hR t0 ht hl
    gi_wp2_with fail
    refine ⟨trivial, rfl, (callsIn_wide.2 (HT.out _)).mono ?_⟩
    rintro e V2 ⟨rfl, hb2⟩
    have X1 := HV.out.2.2.1.below hb2
    have X2 := HV.out.2.2.2.below hb2
    have c1 := X1.cell
    have c2 := X2.cell
    have f1 := X1.frozen
    have f2 := X2.frozen
    have HB := Lib.hid (And.intro X1 (And.intro X2 (HV.out.1.trans (hb2.mono HV.out.1.size))))
    clear X1 X2 hb2
    gi_wp2_with fail
    refine ⟨_, results_cells2 rfl _ _ _ _ _ _ rfl rfl ((HB.out.1.set _).other (by simp) _).cell ((HB.out.2.1.other (by simp) _).set _).cell aggS aggE, lsE_of HR.out rfl (RowS.nil _) ((HB.out.2.2.setCell (by simp) _).setCell (by simp) _)⟩
  · have t1 : (str (trw l)).toList.isEmpty = false := by rw [str_toList]; simpa using ht
    have hRR : (if chkT (partsT l) ≠ 0 then ([], chkT (partsT l)) else (partsT l, 0)) = R := by rw [← hR, listT, if_neg ht]
    have hxl : ∀ x ∈ partsT l, x.length ≤ 1000000 := fun x hx => by
      obtain ⟨p, hp, rfl⟩ := List.mem_map.1 hx
      have h1 := trw_len p
      have h2 := cut_le l p hp
      omega
    have hpl : (partsT l).length ≤ 1000000 := by
      rw [partsT, List.length_map, cutAt_length]
      have := List.count_le_length (a := (44 : UInt8)) (l := l)
      omega
    have HR := Lib.hid (And.intro hRR (And.intro hxl hpl))
    generalize str (trw l) = T at *
    generalize partsT l = xs at *
    generalize str l = D at *
    clear hRR hR ht hl hxl hpl
    gi_wp2_with fail
    refine ⟨trivial, rfl, (callsIn_wide.2 (HT.out _)).mono ?_⟩
    rintro e V2 ⟨rfl, hb2⟩
    obtain ⟨V3, hV3⟩ : ∃ V3, V2.alloc (.cells #[.slice none 0 0] 38) = V3 := ⟨_, rfl⟩
    have hb3 : Below V2.heap.size V2 V3 := by rw [← hV3]; exact (Below.refl _ _).alloc (Nat.le_refl _) _
    have hz3 : V3.heap.size = V2.heap.size + 1 := by rw [← hV3]; simp
    have x3 : Bx V3 V2.heap.size 38 (.slice none 0 0) := by rw [← hV3]; exact Bx.new _ _ _
    have HB := Lib.hid (And.intro hb2 (And.intro hb3 (And.intro hz3 x3)))
    clear hb2 hb3 hz3 x3
    gi_wp2_with fail
    refine ⟨trivial, rfl, (callsIn_wide.2 (HP.out _)).mono ?_⟩
    rintro e V4 ⟨rfl, hb4, hz4, x4⟩
    have hS0 : ∀ k, k = V3.heap.size → k < V4.heap.size := fun k h => by omega
    have hseq : ∀ V, Below V4.heap.size V4 V → Deals Tryz.prog 54 #[.pointer (some ⟨V3.heap.size, 0, none⟩)] txC xs (fun k => k = V3.heap.size) V := fun V hb => HD.out _ (fun k => k = V3.heap.size) rfl V (fun k h => Nat.lt_of_lt_of_le (hS0 k h) hb.size) (x4.below hb)
    have hbb : Below V1.heap.size V1 V4 := HB.out.1.trans ((HB.out.2.1.mono HB.out.1.size).trans (hb4.mono (Nat.le_trans HB.out.1.size HB.out.2.1.size)))
    have h0 : LsI w w.heap.size (w.heap.size + 1) V2.heap.size (fun k => k = V3.heap.size) [] V4 := by
      have h1 := HV.out.2.1
      have h2 := HB.out.1.size
      have h3 := HB.out.2.2.1
      have h4 := hbb.mono (B' := w.heap.size) (by omega)
      refine ⟨HV.out.2.2.1.below hbb, HV.out.2.2.2.below hbb, by omega, by omega, by omega, fun k h => by omega, HV.out.1.trans h4, (fun p hp => by cases hp), .slice none 0 0, HB.out.2.2.2.below hb4, World.ownsRow_nil _ _ _ _, (fun g hg => by cases hg), by simp [Value.ownBlock], by simp [Value.ownBlock], by simp [Value.ownBlock]⟩
    have hn12 : w.heap.size + 1 < V2.heap.size := by
      have h1 := HV.out.2.1
      have h2 := HB.out.1.size
      omega
    have HK := Lib.hid (And.intro hS0 (And.intro hseq (And.intro h0 hn12)))
    clear hS0 hseq hbb h0 hb4 hz4 x4 hn12
    gi_wp2_with fail
    refine wpIn_deals (gf := 54) rfl (enters_of Tryz.func54 (by kernel_rfl) rfl) (enc := txC) (xs := xs) (S0 := fun k => k = V3.heap.size) HK.out.1 HK.out.2.1
      (LsI w w.heap.size (w.heap.size + 1) V2.heap.size) (fun S _ V => LsX w w.heap.size (w.heap.size + 1) S V ∧ xs.any List.isEmpty = true) LsI.stays (LsX.stays _) HK.out.2.2.1
      (fun x => { tmps := #[.string D, undef, .pointer (some ⟨w.heap.size, 0, none⟩), .pointer (some ⟨w.heap.size + 1, 0, none⟩), .pointer (some ⟨V2.heap.size, 0, none⟩), .string (str x), undef, .string D, .string T, .bool false, undef, .string D,
        .func (.func 54) #[] #[.pointer (some ⟨V3.heap.size, 0, none⟩)], .string (str x), undef, undef, undef, undef, undef, undef, undef, undef, undef, undef, undef, undef, undef], defers := [] }) ?assign ?body ?done ?stop
    case assign =>
      intro l2 x V K hK
      gi_wp2_with fail
      exact hK
    case body =>
      rintro l2 S pre x post V hx hlt h
      have hn12 := HK.out.2.2.2
      have y1 := h.x1.cell
      have y2 := h.x2.cell
      have g1 := h.x1.frozen
      have g2 := h.x2.frozen
      have hbs := h.below.size
      rcases x with _ | ⟨c, x⟩
      · have t0 : str ([] : Tx) = { data := #[] } := rfl
        rw [t0]
        have HH := Lib.hid h
        have HX := Lib.hid hx
        clear h hx t0 hbs
        gi_wp2_with fail
        refine ⟨(Spares.setCell HH.out.s1 _).trans (Spares.setCell HH.out.s2 _), ⟨(HH.out.x1.set _).other (by simp) _, (HH.out.x2.other (by simp) _).set _, HH.out.s1, HH.out.s2, HH.out.low, (HH.out.below.setCell (by simp) _).setCell (by simp) _⟩, ?_⟩
        rw [HX.out]
        simp
      · have t2 : (str (c :: x)).toList.isEmpty = false := by rw [str_toList]; rfl
        obtain ⟨v, o1, o2, o3, o4, o5, o6⟩ := h.own
        have HT2 : Hid (Value.string (str (c :: x)) = txC (c :: x)) := rfl
        have hNE : (c :: x) ≠ [] := by simp
        obtain ⟨X, hX⟩ : ∃ X, c :: x = X := ⟨_, rfl⟩
        rw [hX] at HT2 t2 hNE hx ⊢
        clear hX
        obtain ⟨n, hn⟩ : ∃ n, pre.length = n := ⟨_, rfl⟩
        have hbig : n ≤ 1000000 := by
          have h1 := HR.out.2.2
          have h2 := congrArg List.length hx
          rw [List.length_append, List.length_cons] at h2
          omega
        rw [hn] at o2
        have z1 := o1.cell
        have zf := o1.frozen
        have HH := Lib.hid (And.intro h (And.intro o1 (And.intro o2 (And.intro o3 (And.intro o4 (And.intro o5 o6))))))
        have HN := Lib.hid (And.intro hn hNE)
        obtain ⟨A, hA⟩ : ∃ A, V.alloc (.cells #[.string (str X)] 9) = A := ⟨_, rfl⟩
        have hbA : Below V.heap.size V A := by rw [← hA]; exact (Below.refl _ _).alloc (Nat.le_refl _) _
        have hzA : A.heap.size = V.heap.size + 1 := by rw [← hA]; simp
        have hcA : Bx A V.heap.size 9 (.string (str X)) := by rw [← hA]; exact Bx.new _ _ _
        have HA := Lib.hid (And.intro hbA (And.intro hzA hcA))
        generalize str X = Y at *
        clear h hx o1 o2 o3 o4 o5 o6 hn hNE hbA hzA hcA hbs
        gi_wp2_with
          (gi_at_builtin
           refine wpListIn_appS rfl _ _ rfl w.heap.size v n (pre.map txC) rfl (own_same HH.out.2.2.1 (fun g hg => HA.out.1.block g (HH.out.2.2.1.lt g hg).2)) V.heap.size Y rfl HA.out.2.2 (by omega) (by have h1 := HH.out.1.below.size; have h2 := HA.out.2.1; omega) ?_
           intro v' w1 hown hg hob
           obtain ⟨g', cap', rfl⟩ := ownsRow_one hown
           have HG := Lib.hid (And.intro hown (And.intro hg hob))
           have q1 := ((HH.out.2.1.below HA.out.1).grownB hg HH.out.2.2.2.2.2.2).cell
           have q2 := ((HH.out.2.1.below HA.out.1).grownB hg HH.out.2.2.2.2.2.2).frozen
           clear hown hg hob)
        obtain ⟨e1, e2, e3⟩ := HG.out
        have hH := HH.out.1
        have hob4 := HH.out.2.2.2.2.2.2
        have hbs := hH.below.size
        have hl4 := HH.out.2.1.lt
        have hs2 := hH.x2.lt
        have hs1 := hH.x1.lt
        have hzA := HA.out.2.1
        have hnew : ∀ k, k < V.heap.size → v.ownBlock ≠ some k → (Value.slice (some ⟨g', 0, none⟩) (n + 1) cap').ownBlock ≠ some k := fun k hk hne => by
          rcases e3 with e3 | e3
          · rw [e3]; exact hne
          · rw [e3, hzA]
            intro h
            injection h with h
            omega
        have hlow : ∀ k, v.ownBlock = some k → w.heap.size ≤ k := fun k hk => (HH.out.2.2.1.lt k hk).1
        have hA1 : Bx A w.heap.size 38 (.slice none 0 0) := hH.x1.below HA.out.1
        have hA2 : Bx A (w.heap.size + 1) 25 .nilIface := hH.x2.below HA.out.1
        have hA4 : Bx A V2.heap.size 38 v := HH.out.2.1.below HA.out.1
        have hn12 := HK.out.2.2.2
        refine ⟨((Spares.below hlt HA.out.1).trans (Spares.grown e2 (fun k hk => Nat.lt_of_lt_of_le (hlt k hk) HA.out.1.size) (fun k hk => HH.out.2.2.2.1 k hk))).trans (Spares.setCell hH.s4 _), ?_⟩
        refine ⟨(hA1.grownB e2 HH.out.2.2.2.2.1).other (by simp; omega) _, (hA2.grownB e2 HH.out.2.2.2.2.2.1).other (by simp; omega) _, hH.s1, hH.s2, hH.s4, hH.low,
          ((hH.below.trans (HA.out.1.mono hbs)).grown e2 (by omega) hlow).setCell (by simp; omega) _, fun p hp => ?_, .slice (some ⟨g', 0, none⟩) (n + 1) cap', (hA4.grownB e2 hob4).set _, ?_, ?_, hnew _ hs1 HH.out.2.2.2.2.1, hnew _ hs2 HH.out.2.2.2.2.2.1, hnew _ hl4 hob4⟩
        · rcases List.mem_append.1 hp with hp | hp
          · exact hH.ne p hp
          · rw [List.mem_singleton.1 hp]; exact HN.out.2
        · have hlen : (pre ++ [X]).length = n + 1 := by rw [List.length_append, HN.out.1]; rfl
          rw [hlen, List.map_append, List.map_singleton, ← HT2.out]
          refine own_same e1 fun g hg => Below.heap_setCell w1 _ _ g ?_
          rintro rfl
          exact hnew _ hl4 hob4 hg
        · intro g hg hS
          rcases e3 with e3 | e3
          · rw [e3] at hg
            exact HH.out.2.2.2.1 g hg hS
          · rw [e3, hzA] at hg
            injection hg with hg
            have := hlt g hS
            omega
    case done =>
      rintro D2 S V hlt hD h hd
      obtain ⟨v, o1, o2, o3, o4, o5, o6⟩ := h.own
      obtain ⟨A, c, rfl, hc1, hc2, hln, hrd, hbl⟩ := owns_form o2
      obtain ⟨n, hn⟩ : ∃ n, xs.length = n := ⟨_, rfl⟩
      have hbig : n ≤ 1000000 := by have := HR.out.2.2; omega
      have hCt := Lib.hid (count_any A n c xs V hn hbig HR.out.2.1 hrd)
      have hno : xs.any List.isEmpty = false := by
        rw [List.any_eq_false]
        intro p hp he
        exact h.ne p hp (List.isEmpty_iff.1 he)
      have hck : chkT xs = cntT xs := by rw [chkT, hno, if_neg (by simp)]; rfl
      have z1 := o1.cell
      have y1 := h.x1.cell
      have y2 := h.x2.cell
      have g1 := h.x1.frozen
      have g2 := h.x2.frozen
      have hRd : n ≤ c ∧ c ≤ maxLen ∧ RdS V A xs ∧ ∀ p, A = some p → p.block ≠ w.heap.size ∧ p.block ≠ w.heap.size + 1 ∧ p.block ≠ D2 := ⟨hn ▸ hc1, hc2, hrd, fun p hp => by
        subst hp
        exact ⟨fun e => o4 (by rw [← e]; rfl), fun e => o5 (by rw [← e]; rfl), fun e => o3 p.block rfl (e ▸ hD)⟩⟩
      rw [hn] at hc1 o1 z1
      have HH := Lib.hid (And.intro h (And.intro o1 (And.intro hRd (And.intro hD (And.intro hd (And.intro hlt hln))))))
      have hRk := HR.out.1
      rw [hck] at hRk
      obtain ⟨k, hk⟩ : ∃ k, cntT xs = k := ⟨_, rfl⟩
      rw [hk] at hRk hCt
      have HRk := Lib.hid hRk
      have hn12 := HK.out.2.2.2
      have HN5 := Lib.hid hn
      clear h o1 o2 o3 o4 o5 o6 hln hrd hbl hRd hD hd hlt hno hck hRk hk hn
      gi_wp2_with fail
      refine ⟨trivial, rfl, (callsIn_wide.2 hCt.out).mono ?_⟩
      rintro e V5 ⟨rfl, hb5⟩
      have Y1 := HH.out.1.x1.below hb5
      have Y2 := HH.out.1.x2.below hb5
      have Y4 := HH.out.2.1.below hb5
      have y1 := Y1.cell
      have y2 := Y2.cell
      have z1 := Y4.cell
      have g1 := Y1.frozen
      have g2 := Y2.frozen
      have hD5 : V5.heap[D2]? = some (.deferred (some [])) := (hb5.block D2 (Array.getElem?_eq_some_iff.1 HH.out.2.2.2.2.1).1).trans HH.out.2.2.2.2.1
      have HQ := Lib.hid (And.intro Y1 (And.intro Y2 (And.intro (HH.out.1.below.trans (hb5.mono HH.out.1.below.size)) (And.intro hD5 (Rd.below HH.out.2.2.1.2.2.1 hb5)))))
      have hnD : D2 ≠ w.heap.size ∧ D2 ≠ w.heap.size + 1 := ⟨fun e => HH.out.1.s1 (e ▸ HH.out.2.2.2.1), fun e => HH.out.1.s2 (e ▸ HH.out.2.2.2.1)⟩
      have HND := Lib.hid hnD
      have hbs5 := Lib.hid hb5.size
      clear Y1 Y2 Y4 hD5 hb5 hnD
      by_cases hk0 : k = 0
      · subst hk0
        have HRk0 : Hid ((xs, 0) = R) := HRk.out
        rw [errE_zero]
        clear HRk
        gi_wp2_with fail
        obtain ⟨q1, q2, q3, q4, q5⟩ := ls_end (w := w) (v := .slice A n c) (e := .nilIface) (by omega) HND.out.1 HND.out.2 (Nat.le_refl _) (by omega) (HH.out.1.low _ HH.out.2.2.2.1) HQ.out.1 HQ.out.2.1 HQ.out.2.2.2.1 HQ.out.2.2.1
        refine ⟨by simp, .inl ⟨_, _, rfl, run_takeDeferred q1, _, results_cells2 rfl _ _ _ _ _ _ rfl rfl q2.cell q3.cell aggS aggE, lsE_of HRk0.out errE_zero.symm ⟨A, c, ?_, ?_, HH.out.2.2.1.2.1, ?_⟩ q4⟩⟩
        · rw [HN5.out]
        · rw [HN5.out]; exact HH.out.2.2.1.1
        · refine Rd.keep HQ.out.2.2.2.2 fun p hp _ => ?_
          obtain ⟨b1, b2, b3⟩ := HH.out.2.2.1.2.2.2 p hp.symm
          exact q5 _ b1 b2 b3
      · have HRk0 : Hid (([], k) = R) := by have h1 := HRk.out; rw [if_pos hk0] at h1; exact h1
        have hE : errE k = errK k := if_neg hk0
        rw [hE]
        have HE := Lib.hid hE
        unfold errK
        have HK0 := Lib.hid hk0
        clear HRk hE hk0
        gi_wp2_with fail
        obtain ⟨q1, q2, q3, q4, _⟩ := ls_end (w := w) (v := .slice none 0 0) (e := .iface 58 (.int .i64 (k : Int))) (by omega) HND.out.1 HND.out.2 (Nat.le_refl _) (by omega) (HH.out.1.low _ HH.out.2.2.2.1) HQ.out.1 HQ.out.2.1 HQ.out.2.2.2.1 HQ.out.2.2.1
        refine ⟨by simp, .inl ⟨_, _, rfl, run_takeDeferred q1, _, results_cells2 rfl _ _ _ _ _ _ rfl rfl q2.cell q3.cell aggS aggE, lsE_of HRk0.out HE.out.symm (RowS.nil _) q4⟩⟩
    case stop =>
      rintro D2 S pre V hlt hD ⟨h, hany⟩ hd
      have hRR : ([], 3) = R := by
        rw [← HR.out.1]
        have : chkT xs = 3 := by rw [chkT, if_pos hany]
        rw [this]
        rfl
      have HH := Lib.hid (And.intro h (And.intro hD (And.intro hd hRR)))
      clear h hD hd hany hRR
      gi_wp2_with fail
      refine ⟨by simp, .inl ⟨_, _, rfl, run_takeDeferred HH.out.2.2.1, ?_⟩⟩
      have ht : Turns S S V (V.putObj D2 (.deferred none)) := Turns.putObj hlt HH.out.2.1 _
      refine ⟨_, results_cells2 rfl _ _ _ _ _ _ rfl rfl (HH.out.1.x1.turned ht HH.out.1.s1).cell (HH.out.1.x2.turned ht HH.out.1.s2).cell aggS aggE, lsE_of HH.out.2.2.2 rfl (RowS.nil _) (HH.out.1.below.trans (ht.belowT HH.out.1.low HH.out.1.below.size))⟩
end Go.Proofs.YtencapplbedcmaaGreatDoor

/- Contract: the document's all. -/
import Derived.Test.YthnogakjaaopkaaGreatDoorIhGb
import Derived.Test.YthnogakjaaopkaaGreatDoorBrU
import Derived.Test.YthnogakjaaopkaaGreatDoorLx8
import Derived.Deep.CutBlock
namespace Go.Proofs.YthnogakjaaopkaaGreatDoor
open Go.RowKit

theorem set4_same {W : World} {b o : Nat} {cs : Array Value} {t : TypeId} {v0 v1 v2 v3 : Value} (h : W.heap[b]? = some (.cells cs t (0, 0))) :
    ((((W.setCell ⟨b, o, none⟩ v0).setCell ⟨b, o + 1, none⟩ v1).setCell ⟨b, o + 2, none⟩ v2).setCell ⟨b, o + 3, none⟩ v3).heap[b]? = some (.cells ((((cs.setIfInBounds o v0).setIfInBounds (o + 1) v1).setIfInBounds (o + 2) v2).setIfInBounds (o + 3) v3) t (0, 0)) :=
  heap_setCell_same _ b (o + 3) _ _ v3 (heap_setCell_same _ b (o + 2) _ _ v2 (heap_setCell_same _ b (o + 1) _ _ v1 (heap_setCell_same W b o _ _ v0 h)))
theorem fdO_cells (o : Option MF) : ∃ (a : Int) (N : ByteArray) (V : Tx), fdO o = #[.int .i64 a, .string N, .string (str V)] ∧ ∀ f, o = some f → a = f.1 ∧ V = f.2.2 := by
  cases o with
  | none => exact ⟨0, { data := #[] }, [], rfl, fun f h => by cases h⟩
  | some f => exact ⟨f.1, str f.2.1, f.2.2, rfl, fun g h => by cases h; exact ⟨rfl, rfl⟩⟩
theorem grown_setC {W : World} (g o : Nat) (u : Value) : W.grownBy (W.setCell ⟨g, o, none⟩ u) (some g) :=
  ⟨rfl, rfl, rfl, by simp [World.setCell], fun k hk hne => Below.heap_setCell _ _ _ _ (fun e => hne (by rw [e]))⟩
theorem cutA {Y : World} {g : Nat} {t : TypeId} {a b c d x y z u : Value} (h : Y.heap[g]? = some (.cells #[a, b, c, d] t (0, 0))) :
    ((((Y.setCell ⟨g, 0, none⟩ x).setCell ⟨g, 1, none⟩ y).setCell ⟨g, 2, none⟩ z).setCell ⟨g, 3, none⟩ u).heap[g]? = some (.cells #[x, y, z, u] t (0, 0)) ∧ Y.grownBy ((((Y.setCell ⟨g, 0, none⟩ x).setCell ⟨g, 1, none⟩ y).setCell ⟨g, 2, none⟩ z).setCell ⟨g, 3, none⟩ u) (some g) ∧ ((((Y.setCell ⟨g, 0, none⟩ x).setCell ⟨g, 1, none⟩ y).setCell ⟨g, 2, none⟩ z).setCell ⟨g, 3, none⟩ u).heap.size = Y.heap.size :=
  ⟨set4_same (o := 0) h, (((grown_setC g 0 x).trans (grown_setC g 1 y)).trans (grown_setC g 2 z)).trans (grown_setC g 3 u), by simp [World.setCell]⟩
theorem cutB {Y : World} {g : Nat} {t : TypeId} {a b c d x : Value} (h : Y.heap[g]? = some (.cells #[a, b, c, d] t (0, 0))) :
    (Y.setCell ⟨g, 0, none⟩ x).heap[g]? = some (.cells #[x, b, c, d] t (0, 0)) ∧ Y.grownBy (Y.setCell ⟨g, 0, none⟩ x) (some g) ∧ (Y.setCell ⟨g, 0, none⟩ x).heap.size = Y.heap.size :=
  ⟨heap_setCell_same Y g 0 _ _ x h, grown_setC g 0 x, by simp [World.setCell]⟩
theorem cutC4 {Y : World} {g : Nat} {t : TypeId} {a b c d x : Value} (h : Y.heap[g]? = some (.cells #[a, b, c, d] t (0, 0))) :
    (Y.setCell ⟨g, 3, none⟩ x).heap[g]? = some (.cells #[a, b, c, x] t (0, 0)) ∧ Y.grownBy (Y.setCell ⟨g, 3, none⟩ x) (some g) ∧ (Y.setCell ⟨g, 3, none⟩ x).heap.size = Y.heap.size :=
  ⟨heap_setCell_same Y g 3 _ _ x h, grown_setC g 3 x, by simp [World.setCell]⟩
/-- A block's value ahead of the cut. -/
def stepP (f : Option MF) (g : Gt) : Gt := match f with
  | none => g
  | some f => if f.2.2 = nmZ then gt0 else if f.2.2.head? = some 43 then ((plusC g f.2.2.tail).1, f.1, true, (plusC g f.2.2.tail).2) else (f.2.2, f.1, true, false)
theorem stepC_cut (f : Option MF) (g : Gt) : stepC f g = cutC (stepP f g).1 (stepP f g).2.1 (stepP f g).2.2.1 (stepP f g).2.2.2 := by
  unfold stepC stepP
  cases f with
  | none => rfl
  | some f =>
    dsimp only
    by_cases h1 : f.2.2 = nmZ
    · rw [if_pos h1, if_pos h1]; rfl
    · rw [if_neg h1, if_neg h1]
      by_cases h2 : f.2.2.head? = some 43
      · rw [if_pos h2, if_pos h2]
      · rw [if_neg h2, if_neg h2]
theorem giveC_drop {L : List Gt} {k : Nat} {g : Gt} (h : L[k]? = some g) : giveC (L.drop k) = if g.2.2.1 = true then g else giveC (L.drop (k + 1)) := by
  obtain ⟨hk, e⟩ := List.getElem?_eq_some_iff.1 h
  rw [List.drop_eq_getElem_cons hk, e]
  rfl
set_option maxRecDepth 100000 in
set_option maxHeartbeats 4000000 in
theorem refAll_any (v : Value) (l : List MB) (nm : Tx) (w : World) (hl : l.length ≤ 1000) (hf : ∀ b ∈ l, b.2.2.length ≤ 1000000 ∧ ∀ f ∈ b.2.2, f.2.2.length ≤ 900000) (hv : RowB w v l) (hc : ¬ Cyc (edg l)) :
    Calls Tryz.prog 24 #[v, .string (str nm)] w fun e w' => ∃ bo, e = .returned (.slice (some ⟨bo, 0, none⟩) l.length l.length) ∧ GtB bo ((List.range l.length).map fun i => gotC (gotT l nm i)) w' ∧ Below w.heap.size w w' ∧ w.heap.size ≤ bo := by
  obtain ⟨A, c, rfl, hr⟩ := hv.form
  obtain ⟨n, hn⟩ : ∃ n, l.length = n := ⟨_, rfl⟩
  have hlv := hv
  rw [hn] at hr hl ⊢
  have q0 : (0 : Int) ≤ n := by omega
  obtain ⟨NM, hNM⟩ : ∃ x, str nm = x := ⟨_, rfl⟩
  rw [hNM]
  have hmk : ∀ W, (Instr.makeSlice 74 (.int .i64 (n : Nat)) (.int .i64 (n : Nat))).run Tryz.prog W = .ok (.slice (some ⟨W.heap.size, 0, none⟩) n n) (W.alloc (.cells ((List.replicate n gt0).flatMap gtC).toArray 79)) := fun W => by
    have hinfo : (Tryz.prog.info? 79).map (fun i => (i.zero, i.size, i.bytes)) = some (some (.agg #[.string { data := #[] }, .int .i64 0, .bool false, .bool false]), 4, 32) := by kernel_rfl
    obtain ⟨i, hi, hz, hs, hb'⟩ := info_parts hinfo
    have h := run_make (P := Tryz.prog) W 74 79 i _ Tryz.underlying74 hi hz .i64 .i64 (n : Nat) (n : Nat) q0 (Int.le_refl _) (by rw [hb']; omega) (by omega)
    rw [hs, Int.toNat_natCast] at h
    rw [h, ← made_gt n]
    rfl
  have hmb : ∀ W, (Instr.makeSlice 99 (.int .i64 (n : Nat)) (.int .i64 (n : Nat))).run Tryz.prog W = .ok (.slice (some ⟨W.heap.size, 0, none⟩) n n) (W.alloc (.cells ((List.replicate n false).map Value.bool).toArray 4)) := fun W => by
    have h := run_mk (P := Tryz.prog) elBo (n : Nat) (n : Nat) q0 (Int.le_refl _) (by omega) (by omega) W
    rw [h]
    congr 3
    rw [Int.toNat_natCast]
    apply Array.toList_inj.1
    have h2 := toList_madeCells_one (Value.bool false) n
    rw [show (Value.bool false : Value).cells = #[Value.bool false] from rfl, h2, List.map_replicate]
  obtain ⟨ZO, hZO⟩ : ∃ x, ((List.replicate n gt0).flatMap gtC).toArray = x := ⟨_, rfl⟩
  obtain ⟨ZK, hZK⟩ : ∃ x, ((List.replicate n false).map Value.bool).toArray = x := ⟨_, rfl⟩
  rw [hZO] at hmk
  rw [hZK] at hmb
  obtain ⟨bo, hbo⟩ : ∃ x, w.heap.size = x := ⟨_, rfl⟩
  obtain ⟨w1, hw1⟩ : ∃ x, (w.alloc (.cells ZO 79)).alloc (.cells ZK 4) = x := ⟨_, rfl⟩
  have hb1 : Below w.heap.size w w1 := by rw [← hw1]; exact ((Below.refl _ _).alloc (Nat.le_refl _) _).alloc (by simp) _
  have hG1 : GtB bo (List.replicate n gt0) w1 := by
    have h := (MapKept.heap_alloc w (.cells ZO 79)).1
    rw [hbo] at h
    unfold GtB
    rw [hZO, ← hw1, Below.heap_alloc _ _ _ (by simp; omega)]
    exact h
  have hK1 : BolB (bo + 1) (List.replicate n false) w1 := by
    have h := (MapKept.heap_alloc (w.alloc (.cells ZO 79)) (.cells ZK 4)).1
    rw [World.size_alloc, hbo, hw1] at h
    unfold BolB
    rw [hZK]
    exact h
  have hsw := Swp.init l nm
  rw [hn] at hsw
  have HW := Lib.hid (And.intro hb1 (And.intro hG1 (And.intro hK1 (And.intro hsw (And.intro hr (And.intro hlv (And.intro hf (And.intro hc (And.intro hNM hn)))))))))
  clear hb1 hG1 hK1 hsw hr hlv hf hc hNM hv hZO hZK
  go_enter Tryz.func24, Tryz.ntmps24
  go_wp2_with fail
  clear hmk hmb hw1
  go_loopw [7] (fun mv wr => ∃ (m : Nat) (K : List Bool) (O : List Gt), m ≤ n ∧ mv = .int .i64 m ∧ Below w.heap.size w wr ∧ GtB bo O wr ∧ BolB (bo + 1) K wr ∧ Swp l nm K O ∧ m ≤ cntS K) (fun mv _ => n - (intOf mv).toNat)
  case atStart => exact ⟨0, _, _, Nat.zero_le _, rfl, HW.out.1, HW.out.2.1, HW.out.2.2.1, HW.out.2.2.2.1, Nat.zero_le _⟩
  case round =>
    obtain ⟨m, K0, O0, hm, rfl, hbel, hG, hK, hS, hcnt⟩ := hrel
    have HM := Lib.hid (And.intro hbel (And.intro hG (And.intro hK (And.intro hS hcnt))))
    clear hbel hG hK hS hcnt
    by_cases hmn : m < n
    · go_wp2_with fail
      go_loopw [8] (fun iv wr' => ∃ (i : Nat) (K : List Bool) (O : List Gt), i ≤ n ∧ iv = .int .i64 i ∧ Below w.heap.size w wr' ∧ GtB bo O wr' ∧ BolB (bo + 1) K wr' ∧ Swp l nm K O ∧ (m + 1 ≤ cntS K ∨ (m ≤ cntS K ∧ ∀ j, j < i → ¬ rdyS l K j))) (fun iv _ => n - (intOf iv).toNat)
      case atStart => exact ⟨0, _, _, Nat.zero_le _, rfl, HM.out.1, HM.out.2.1, HM.out.2.2.1, HM.out.2.2.2.1, .inr ⟨HM.out.2.2.2.2, fun j hj => absurd hj (Nat.not_lt_zero j)⟩⟩
      case round =>
        obtain ⟨i, K, O, hi, rfl, hbel, hG, hK, hS, hor⟩ := hrel
        by_cases hin : i < n
        · have hil : i < l.length := by rw [HW.out.2.2.2.2.2.2.2.2.2]; exact hin
          obtain ⟨b, hb⟩ : ∃ b, l[i]? = some b := ⟨_, List.getElem?_eq_getElem hil⟩
          have hUs := refUses_any (.slice A l.length c) l i b wr (by rw [HW.out.2.2.2.2.2.2.2.2.2]; omega) HW.out.2.2.2.2.2.2.1 hb (HW.out.2.2.2.2.2.1.below hbel)
          rw [HW.out.2.2.2.2.2.2.2.2.2] at hUs
          have HUs := Lib.hid hUs
          have HH := Lib.hid (And.intro hbel (And.intro hG (And.intro hK (And.intro hS (And.intro hor hb)))))
          clear hbel hG hK hS hor hb hUs
          go_wp2_with fail
          with_reducible refine HUs.out.mono ?_
          rintro e V ⟨u, rfl, hrow, hbV⟩
          have he : (usesB l b).1 = edg l i := (edg_at HH.out.2.2.2.2.2).symm
          rw [he] at hrow
          obtain ⟨AU, cU, rfl, hAU, hCU, hRU⟩ := hrow
          obtain ⟨js, hjs⟩ : ∃ js, edg l i = js := ⟨_, rfl⟩
          obtain ⟨q, hq⟩ : ∃ q, js.length = q := ⟨_, rfl⟩
          have hq9 : q ≤ 1000000 := by rw [← hq, ← hjs]; exact edg_len l i
          rw [hjs] at hAU hRU ⊢
          rw [hq] at hAU ⊢
          obtain ⟨uk, huk⟩ : ∃ x, (((usesB l b).2 : Nat) : Int) = x := ⟨_, rfl⟩
          rw [huk]
          have hKV := HH.out.2.2.1.below hbV
          have hiK : i < K.length := by rw [HH.out.2.2.2.1.lenK]; exact hil
          obtain ⟨ki, hki⟩ : ∃ x, K[i]? = some x := ⟨_, List.getElem?_eq_getElem hiK⟩
          have ck := hKV.load hki
          have HU := Lib.hid (And.intro hAU (And.intro hCU (And.intro hRU (And.intro hjs (And.intro hq (And.intro hbV (And.intro hKV (And.intro hki he))))))))
          have z0 : (0 : Int) ≤ i := by omega
          have z1 : (i : Int) < n := by omega
          clear hAU hCU hRU hjs hq hbV hKV hki huk he
          go_wp2_with fail
          go_loopw [11, 12] (fun rv kv wr' => ∃ m2 : Nat, m2 ≤ q ∧ kv = .int .i64 m2 ∧ rv = .bool (!ki && (js.take m2).all fun j => K[j]? == some true) ∧ wr' = V) (fun _ kv _ => q - (intOf kv).toNat)
          case atStart => exact ⟨0, Nat.zero_le _, rfl, by simp, rfl⟩
          case round =>
            obtain ⟨m2, hm2, rfl, rfl, rfl⟩ := hrel
            obtain ⟨R, hR⟩ : ∃ x, (!ki && (js.take m2).all fun j => K[j]? == some true) = x := ⟨_, rfl⟩
            rw [hR]
            have HRr := Lib.hid hR
            clear hR
            by_cases hmq : m2 < q
            · have hmj : m2 < js.length := by rw [HU.out.2.2.2.2.1]; exact hmq
              obtain ⟨t, ht⟩ : ∃ t, js[m2] = t := ⟨_, rfl⟩
              have htm : t ∈ edg l i := by rw [HU.out.2.2.2.1, ← ht]; exact List.getElem_mem hmj
              have htn : t < n := by have := edg_lt htm; rw [HW.out.2.2.2.2.2.2.2.2.2] at this; exact this
              have htk : t < K.length := by rw [HH.out.2.2.2.1.lenK, HW.out.2.2.2.2.2.2.2.2.2]; exact htn
              obtain ⟨kt, hkt⟩ : ∃ x, K[t]? = some x := ⟨_, List.getElem?_eq_getElem htk⟩
              have hstep : (!ki && (js.take (m2 + 1)).all fun j => K[j]? == some true) = (R && kt) := by
                rw [← HRr.out, List.take_succ_eq_append_getElem hmj, List.all_append, ht]
                have e : ([t].all fun j => K[j]? == some true) = kt := by simp [hkt]
                rw [e, Bool.and_assoc]
              obtain ⟨adU, hadU, hcU⟩ := HU.out.2.2.1.at_ (k := m2) (by rw [List.length_map]; exact hmj)
              rw [List.getElem_map, ht] at hcU
              unfold intC at hcU
              have ckt := HU.out.2.2.2.2.2.2.1.load hkt
              have HS := Lib.hid hstep
              have y0 : (0 : Int) ≤ m2 := by omega
              have y1 : (m2 : Int) < q := by omega
              have y2 : (0 : Int) ≤ t := by omega
              have y3 : (t : Int) < n := by omega
              clear hstep ht htm hkt
              subst hadU
              cases R with
              | false =>
                go_wp2_with fail
                go_roundw
                case rel => exact ⟨m2 + 1, hmq, by go_num, by rw [HS.out]; rfl, trivial⟩
                case measure => simp [intOf]; omega
              | true =>
                go_wp2_with fail
                go_roundw
                case rel => exact ⟨m2 + 1, hmq, by go_num, by rw [HS.out]; simp, trivial⟩
                case measure => simp [intOf]; omega
            · obtain rfl : m2 = q := by omega
              have htk : js.take m2 = js := List.take_of_length_le (by rw [HU.out.2.2.2.2.1]; exact Nat.le_refl _)
              have hRe := HRr.out
              rw [htk] at hRe
              clear htk
              cases R with
              | false =>
                have hno : ¬ rdyS l K i := fun h => by
                  have h1 : ki = false := by
                    have := h.1
                    rw [HU.out.2.2.2.2.2.2.2.1] at this
                    injection this
                  have h2 : (js.all fun j => K[j]? == some true) = true := List.all_eq_true.2 fun j hj => by
                    have := h.2 j (by rw [HU.out.2.2.2.1]; exact hj)
                    rw [this]
                    rfl
                  rw [h1, h2] at hRe
                  cases hRe
                have HNo := Lib.hid hno
                clear hno hRe
                go_wp2_with fail
                have hG := HH.out.2.1.below HU.out.2.2.2.2.2.1
                refine ⟨⟨i + 1, K, O, hin, by go_num, HH.out.1.trans (HU.out.2.2.2.2.2.1.mono HH.out.1.size), hG, HU.out.2.2.2.2.2.2.1, HH.out.2.2.2.1, ?_⟩, by simp [intOf]; omega⟩
                rcases HH.out.2.2.2.2.1 with h | ⟨h1, h2⟩
                · exact .inl h
                · refine .inr ⟨h1, fun j hj => ?_⟩
                  rcases Nat.lt_succ_iff_lt_or_eq.1 hj with h | rfl
                  · exact h2 j h
                  · exact HNo.out
              | true =>
                have hrd : rdyS l K i := by
                  rw [Bool.and_eq_true] at hRe
                  have h1 : ki = false := by simpa using hRe.1
                  refine ⟨by rw [HU.out.2.2.2.2.2.2.2.1, h1], fun j hj => ?_⟩
                  rw [HU.out.2.2.2.1] at hj
                  have := List.all_eq_true.1 hRe.2 j hj
                  simpa using this
                have hfr := HU.out.2.2.2.2.2.2.1.frz i
                obtain ⟨V2, hV2⟩ : ∃ x, wr.setCell ⟨bo + 1, i, none⟩ (.bool true) = x := ⟨_, rfl⟩
                have hbw := HH.out.1.trans (HU.out.2.2.2.2.2.1.mono HH.out.1.size)
                have hK2 : BolB (bo + 1) (K.set i true) V2 := by rw [← hV2]; exact HU.out.2.2.2.2.2.2.1.set i true
                have hG2 : GtB bo O V2 := by rw [← hV2]; exact (HH.out.2.1.below HU.out.2.2.2.2.2.1).other (by show bo + 1 ≠ bo; omega) _
                have hb2 : Below w.heap.size w V2 := by rw [← hV2]; exact hbw.setCell (by show _ ≤ bo + 1; omega) _
                have hgr : wr.grownBy V2 (some (bo + 1)) := by
                  rw [← hV2]
                  exact ⟨rfl, rfl, rfl, by simp [World.setCell], fun k hk hne => Below.heap_setCell _ _ _ _ (fun e => hne (by rw [e]))⟩
                have hR2 : RowN V2 (.slice AU m2 cU) js := rowN_grown (w := wr) ⟨AU, cU, by rw [HU.out.2.2.2.2.1], by rw [HU.out.2.2.2.2.1]; exact HU.out.1, HU.out.2.1, HU.out.2.2.1⟩ hgr (fun j x h => by
                  have h1 := HU.out.2.2.2.2.2.2.1
                  unfold BolB at h1
                  unfold World.cell? intC at h
                  simp only [h1] at h
                  simp only [Option.isSome_none, Bool.false_eq_true, if_false, List.getElem?_toArray, List.getElem?_map] at h
                  cases hk : K[j]? with
                  | none => rw [hk] at h; cases h
                  | some x => rw [hk] at h; cases h)
                obtain ⟨p13, hp13⟩ : ∃ x, V2.heap.size = x := ⟨_, rfl⟩
                obtain ⟨V3, hV3⟩ : ∃ x, V2.alloc (.cells #[.string { data := #[] }, .int .i64 0, .bool false, .bool false] 79) = x := ⟨_, rfl⟩
                have hb3 : Below V2.heap.size V2 V3 := by rw [← hV3]; exact (Below.refl _ _).alloc (Nat.le_refl _) _
                have hg3 : V3.heap[p13]? = some (.cells #[.string { data := #[] }, .int .i64 0, .bool false, .bool false] 79 (0, 0)) := by rw [← hV3, ← hp13]; exact (MapKept.heap_alloc V2 _).1
                have hRd2 : Rd V2 AU (js.map intC) := by
                  obtain ⟨A9, c9, e9, _, _, h9⟩ := hR2
                  injection e9 with e9
                  rw [e9]
                  exact h9
                have H2 := Lib.hid (And.intro hrd (And.intro hK2 (And.intro hG2 (And.intro hb2 (And.intro hRd2 (And.intro hb3 hg3))))))
                clear hrd hK2 hG2 hb2 hRd2 hb3 hg3 hR2 hgr hbw hRe
                go_upto_block 6 with fail
                obtain ⟨L, hL⟩ : ∃ x, (js.map fun j => O.getD j gt0) = x := ⟨_, rfl⟩
                have hLl : L.length = m2 := by rw [← hL, List.length_map]; exact HU.out.2.2.2.2.1
                have HL := Lib.hid (And.intro hL hLl)
                clear hL hLl hV2 hV3
                go_wp2_with fail
                go_loopw [14] (fun kv wr' => ∃ (k4 : Nat) (g : Gt), k4 ≤ m2 ∧ kv = .int .i64 ((k4 : Int) - 1) ∧ Below V2.heap.size V2 wr' ∧ giveC (L.drop k4) = g ∧ wr'.heap[p13]? = some (.cells #[.string (str g.1), .int .i64 g.2.1, .bool g.2.2.1, .bool g.2.2.2] 79 (0, 0))) (fun kv _ => (intOf kv + 1).toNat)
                case atStart => exact ⟨m2, gt0, Nat.le_refl _, rfl, H2.out.2.2.2.2.2.1, by rw [List.drop_eq_nil_of_le (by rw [HL.out.2]; exact Nat.le_refl _)]; rfl, H2.out.2.2.2.2.2.2⟩
                case round =>
                  obtain ⟨k4, gv, hk4, rfl, hb4, hgv, hp4⟩ := hrel
                  rcases Nat.eq_zero_or_pos k4 with rfl | hpos
                  · have e1 : ((0 : Nat) : Int) - 1 = -1 := rfl
                    rw [e1]
                    rw [List.drop_zero] at hgv
                    have hbw4 := H2.out.2.2.2.1.trans (hb4.mono H2.out.2.2.2.1.size)
                    obtain ⟨ad, X, vF, hAd, hX, k0', k1', k2', hrf⟩ := HW.out.2.2.2.2.1.parts.2.2.2 i hin b HH.out.2.2.2.2.2
                    have k0 := cell9_below k0' hbw4
                    have k1 := cell9_below k1' hbw4
                    have k2 := cell9_below k2' hbw4
                    clear k0' k1' k2'
                    obtain ⟨KD, hKD⟩ : ∃ x, str b.2.1 = x := ⟨_, rfl⟩
                    rw [hKD] at k1
                    have hbm : b ∈ l := List.mem_of_getElem? HH.out.2.2.2.2.2
                    have hOw := refOwn_any b.1 KD vF b.2.2 nm wr (HW.out.2.2.2.2.2.2.1 b hbm).1 (hrf.below hbw4)
                    rw [HW.out.2.2.2.2.2.2.2.2.1] at hOw
                    unfold OwE at hOw
                    obtain ⟨o, ho⟩ : ∃ o, (b.2.2.find? fun f => f.2.1 == nm) = o := ⟨_, rfl⟩
                    rw [ho] at hOw
                    obtain ⟨a9, S1, FT, hfd, hof⟩ := fdO_cells o
                    obtain ⟨S2, hS2⟩ : ∃ x, str FT = x := ⟨_, rfl⟩
                    rw [hfd, hS2] at hOw
                    have hFl : ∀ f, o = some f → f.2.2.length ≤ 900000 := fun f h => (HW.out.2.2.2.2.2.2.1 b hbm).2 f (List.mem_of_find?_eq_some (ho.trans h))
                    obtain ⟨ob, hob⟩ : ∃ x, o.isSome = x := ⟨_, rfl⟩
                    rw [hob] at hOw
                    have HOw := Lib.hid hOw
                    have H4 := Lib.hid (And.intro hb4 (And.intro hp4 (And.intro hbw4 (And.intro ho (And.intro hof (And.intro hFl (And.intro hgv hS2)))))))
                    have HOB := Lib.hid hob
                    obtain ⟨A3, c3, hvF, _⟩ := hrf.form
                    clear hb4 hp4 hbw4 hOw ho hof hFl hgv hS2 hfd hrf hKD hob
                    subst hAd
                    subst hvF
                    go_wp2_with fail
                    with_reducible refine HOw.out.mono ?_
                    rintro e V5 ⟨rfl, hb5⟩
                    obtain ⟨p15, hp15⟩ : ∃ x, V5.heap.size = x := ⟨_, rfl⟩
                    obtain ⟨Y1, hY1⟩ : ∃ x, (V5.alloc (.cells #[.int .i64 a9, .string S1, .string S2] 49)).alloc (.cells #[.string S2, .int .i64 a9, .bool true, .bool false] 79) = x := ⟨_, rfl⟩
                    obtain ⟨Y, hY⟩ : ∃ x, Y1.setCell ⟨p15 + 1, 3, none⟩ (.bool false) = x := ⟨_, rfl⟩
                    have hs5 := hb5.size
                    have hbY1 : Below wr.heap.size wr Y1 := by rw [← hY1]; exact (hb5.alloc hb5.size _).alloc (by simp; omega) _
                    have hbY : Below wr.heap.size wr Y := by rw [← hY]; exact hbY1.setCell (by show _ ≤ p15 + 1; omega) _
                    have h15' : Y1.heap[p15]? = some (.cells #[.int .i64 a9, .string S1, .string S2] 49 (0, 0)) := by
                      rw [← hY1, Below.heap_alloc _ _ _ (by simp; omega), ← hp15]
                      exact (MapKept.heap_alloc V5 _).1
                    have h17' : Y1.heap[p15 + 1]? = some (.cells #[.string S2, .int .i64 a9, .bool true, .bool false] 79 (0, 0)) := by
                      have h := (MapKept.heap_alloc (V5.alloc (.cells #[.int .i64 a9, .string S1, .string S2] 49)) (.cells #[.string S2, .int .i64 a9, .bool true, .bool false] 79)).1
                      rw [World.size_alloc, hp15, hY1] at h
                      exact h
                    have h15 : Y.heap[p15]? = some (.cells #[.int .i64 a9, .string S1, .string S2] 49 (0, 0)) := by
                      rw [← hY, Below.heap_setCell _ _ _ _ (by show p15 ≠ p15 + 1; omega)]
                      exact h15'
                    have h17 : Y.heap[p15 + 1]? = some (.cells #[.string S2, .int .i64 a9, .bool true, .bool false] 79 (0, 0)) := by
                      rw [← hY, heap_setCell_same _ (p15 + 1) 3 _ _ _ h17']
                      rfl
                    have e3 := cell9_blk h17' 3 rfl
                    have e4 := frz9_blk h17' 3
                    have h13 := (hbY.block p13 (blk9_lt H4.out.2.1)).trans H4.out.2.1
                    have hsY : Y.heap.size = p15 + 2 := by rw [← hY, ← hY1]; simp [World.setCell, hp15]
                    have f0 := cell9_blk (w := V5.alloc (.cells #[.int .i64 a9, .string S1, .string S2] 49)) (g := p15) (by rw [← hp15]; exact (MapKept.heap_alloc V5 _).1) 0 rfl
                    have f2 := cell9_blk (w := V5.alloc (.cells #[.int .i64 a9, .string S1, .string S2] 49)) (g := p15) (by rw [← hp15]; exact (MapKept.heap_alloc V5 _).1) 2 rfl
                    have HY := Lib.hid (And.intro hbY (And.intro h15 (And.intro h17 (And.intro h13 hsY))))
                    clear hb5 hbY h15 h17 h13 hbY1 h15' h17'
                    go_upto_block 8 with fail
                    have p0 := cell9_blk HY.out.2.2.1 0 rfl
                    have p1 := cell9_blk HY.out.2.2.1 1 rfl
                    have p2 := cell9_blk HY.out.2.2.1 2 rfl
                    have p3 := cell9_blk HY.out.2.2.1 3 rfl
                    have q4 := frz9_blk HY.out.2.2.1 0
                    have q5 := frz9_blk HY.out.2.2.1 1
                    have q6 := frz9_blk HY.out.2.2.1 2
                    have q7 := frz9_blk HY.out.2.2.1 3
                    have r0 := cell9_blk HY.out.2.1 0 rfl
                    have r2 := cell9_blk HY.out.2.1 2 rfl
                    have t0 := cell9_blk HY.out.2.2.2.1 0 rfl
                    have t1 := cell9_blk HY.out.2.2.2.1 1 rfl
                    have t2 := cell9_blk HY.out.2.2.2.1 2 rfl
                    have t3 := cell9_blk HY.out.2.2.2.1 3 rfl
                    obtain ⟨GT, GA, GI, GL⟩ := gv
                    dsimp only at t0 t1 t2 t3
                    have hGTl : GT.length ≤ 4096 := by
                      have hg := H4.out.2.2.2.2.2.2.1
                      have hLe : L = (js.map (gotT l nm)).map gotC := by
                        rw [← HL.out.1, List.map_map]
                        refine List.map_congr_left fun j hj => ?_
                        rw [List.getD_eq_getElem?_getD, HH.out.2.2.2.1.val j (H2.out.1.2 j (by rw [HU.out.2.2.2.1]; exact hj))]
                        rfl
                      rw [hLe, giveC_got] at hg
                      have := gotC_text (fstS (js.map (gotT l nm)))
                      rw [hg] at this
                      exact this
                    obtain ⟨GS, hGS⟩ : ∃ x, str GT = x := ⟨_, rfl⟩
                    rw [hGS] at t0
                    have HGS := Lib.hid hGS
                    clear hGS f0 f2 e3 e4 hY hY1
                    go_cut [] from 30 to 165 (fun wx => ∃ (T : Tx) (a : Int) (is lg : Bool), stepP o (GT, GA, GI, GL) = (T, a, is, lg) ∧ wx.heap[p15 + 1]? = some (.cells #[.string (str T), .int .i64 a, .bool is, .bool lg] 79 (0, 0)) ∧ Y.grownBy wx (some (p15 + 1)) ∧ wx.heap.size = Y.heap.size)
                    case first =>
                      cases o with
                      | none =>
                        have hob : ob = false := HOB.out.symm
                        subst hob
                        go_wp2_with fail
                        go_meet
                        case rel =>
                          obtain ⟨h1, h2, h3⟩ := cutA (x := .string GS) (y := .int .i64 GA) (z := .bool GI) (u := .bool GL) HY.out.2.2.1
                          exact ⟨GT, GA, GI, GL, rfl, by rw [HGS.out]; exact h1, h2, h3⟩
                      | some f =>
                        have hob : ob = true := HOB.out.symm
                        subst hob
                        obtain ⟨hfa, hfv⟩ := H4.out.2.2.2.2.1 f rfl
                        subst hfv
                        subst hfa
                        have hS2 := H4.out.2.2.2.2.2.2.2
                        have hfl := H4.out.2.2.2.2.2.1 f rfl
                        obtain ⟨fa, fn, fv⟩ := f
                        dsimp only at hS2 hfl p1 r0 HY ⊢
                        have hz : (S2.toList == [110, 117, 108, 108]) = decide (fv = nmZ) := by
                          rw [← hS2, str_toList]
                          by_cases e : fv = nmZ
                          · rw [e]; rfl
                          · rw [decide_eq_false e, beq_eq_false_iff_ne]; exact e
                        by_cases hzz : fv = nmZ
                        · rw [decide_eq_true hzz] at hz
                          have HZ := Lib.hid hzz
                          clear hzz hS2
                          go_wp2_with fail
                          go_meet
                          case rel =>
                            obtain ⟨h1, h2, h3⟩ := cutA (x := .string { data := #[] }) (y := .int .i64 0) (z := .bool false) (u := .bool false) HY.out.2.2.1
                            exact ⟨[], 0, false, false, if_pos HZ.out, h1, h2, h3⟩
                        · rw [decide_eq_false hzz] at hz
                          have HZ := Lib.hid hzz
                          clear hzz
                          cases fv with
                          | nil =>
                            have hsz : S2.size = 0 := by rw [← hS2]; rfl
                            have hst : stepP (some (fa, fn, [])) (GT, GA, GI, GL) = ([], fa, true, false) := by
                              unfold stepP
                              dsimp only
                              rw [if_neg HZ.out, if_neg (by simp)]
                            have HS := Lib.hid (And.intro hst hS2)
                            clear hst hS2
                            go_wp2_with fail
                            go_meet
                            case rel => exact ⟨[], fa, true, false, HS.out.1, by rw [HS.out.2]; exact HY.out.2.2.1, World.grownBy.refl _ _, rfl⟩
                          | cons x tl =>
                            obtain ⟨z9, hz9⟩ : ∃ z, tl.length = z := ⟨_, rfl⟩
                            obtain ⟨S9, hS9, hsz, hat, hex⟩ := cons_facts x tl z9 hz9
                            rw [hS2] at hS9
                            subst hS9
                            have hz8 : z9 ≤ 900000 := by rw [List.length_cons] at hfl; omega
                            by_cases hx : x = 43
                            · subst hx
                              have hst : stepP (some (fa, fn, 43 :: tl)) (GT, GA, GI, GL) = ((plusC (GT, GA, GI, GL) tl).1, fa, true, (plusC (GT, GA, GI, GL) tl).2) := by
                                unfold stepP
                                dsimp only
                                rw [if_neg HZ.out, if_pos (by rfl)]
                                rfl
                              have hpl : plusC (GT, GA, GI, GL) tl = if GI = true ∧ GL = true then ([], true) else if GI = true ∧ GT ≠ [] then (if tl ≠ [] then GT ++ 44 :: tl else GT, false) else (tl, false) := rfl
                              have HS := Lib.hid (And.intro hst hpl)
                              have hx2 : ((43 : UInt8).toNat : Int) = 43 := rfl
                              obtain ⟨TL, hTL⟩ : ∃ x, str tl = x := ⟨_, rfl⟩
                              rw [hTL] at hex
                              have HTL := Lib.hid hTL
                              have hzp : (0 : Int) < z9 + 1 := by omega
                              clear hst hpl hS2
                              cases GI with
                              | false =>
                                clear hTL
                                go_wp2_with fail
                                go_meet
                                case rel =>
                                  obtain ⟨h1, h2, h3⟩ := cutB (x := .string TL) HY.out.2.2.1
                                  refine ⟨tl, fa, true, false, ?_, by rw [HTL.out]; exact h1, h2, h3⟩
                                  rw [HS.out.1, HS.out.2]
                                  simp
                              | true =>
                                cases GL with
                                | true =>
                                  clear hTL
                                  go_wp2_with fail
                                  go_meet
                                  case rel =>
                                    obtain ⟨a1, a2, a3⟩ := cutB (x := .string TL) HY.out.2.2.1
                                    obtain ⟨b1, b2, b3⟩ := cutB (x := .string { data := #[] }) a1
                                    obtain ⟨c1, c2, c3⟩ := cutC4 (x := .bool true) b1
                                    refine ⟨[], fa, true, true, ?_, c1, (a2.trans b2).trans c2, by omega⟩
                                    rw [HS.out.1, HS.out.2]
                                    simp
                                | false =>
                                  have hne13 : p13 ≠ p15 + 1 := by have := blk9_lt H4.out.2.1; omega
                                  have t0' : (Y.setCell { block := p15 + 1, off := 0 } (Value.string TL)).cell? { block := p13, off := 0 } = some (.string GS) := (World.cell?_of_block (a := ⟨p13, 0, none⟩) (Below.heap_setCell Y ⟨p15 + 1, 0, none⟩ (.string TL) p13 hne13)).trans t0
                                  by_cases hGT : GT = []
                                  · have i0 : GS.toList.isEmpty = true := by rw [← HGS.out, hGT, str_toList]; rfl
                                    have HGT := Lib.hid hGT
                                    clear hGT hTL
                                    go_wp2_with fail
                                    go_meet
                                    case rel =>
                                      obtain ⟨a1, a2, a3⟩ := cutB (x := .string TL) HY.out.2.2.1
                                      refine ⟨tl, fa, true, false, ?_, by rw [HTL.out]; exact a1, a2, a3⟩
                                      rw [HS.out.1, HS.out.2, HGT.out]
                                      simp
                                  · have i0 : GS.toList.isEmpty = false := by rw [← HGS.out, str_toList]; simpa using hGT
                                    by_cases htl : tl = []
                                    · have i1 : TL.toList.isEmpty = true := by rw [← hTL, htl, str_toList]; rfl
                                      have HGT := Lib.hid (And.intro hGT htl)
                                      clear hGT hTL htl
                                      go_wp2_with fail
                                      go_meet
                                      case rel =>
                                        obtain ⟨a1, a2, a3⟩ := cutB (x := .string TL) HY.out.2.2.1
                                        obtain ⟨b1, b2, b3⟩ := cutB (x := .string GS) a1
                                        refine ⟨GT, fa, true, false, ?_, by rw [HGS.out]; exact b1, a2.trans b2, by omega⟩
                                        rw [HS.out.1, HS.out.2, HGT.out.2]
                                        simp [HGT.out.1]
                                    · have i1 : TL.toList.isEmpty = false := by rw [← hTL, str_toList]; simpa using htl
                                      have HGT := Lib.hid (And.intro hGT htl)
                                      have hap : GS ++ { data := #[44] } ++ TL = str (GT ++ 44 :: tl) := by
                                        rw [← HGS.out, ← hTL]
                                        have h1 : str GT ++ { data := #[44] } = str (GT ++ [44]) := str_append GT [44]
                                        rw [h1, str_append]
                                        simp
                                      have HAP := Lib.hid hap
                                      have zx : GS.size ≤ 4096 := by rw [← HGS.out, str_size]; exact hGTl
                                      have zy : TL.size ≤ 900000 := by rw [← hTL, str_size]; omega
                                      clear hGT hTL htl hap
                                      go_wp2_with fail
                                      go_meet
                                      case rel =>
                                        obtain ⟨a1, a2, a3⟩ := cutB (x := .string TL) HY.out.2.2.1
                                        obtain ⟨b1, b2, b3⟩ := cutB (x := .string (GS ++ { data := #[44] } ++ TL)) a1
                                        refine ⟨GT ++ 44 :: tl, fa, true, false, ?_, by rw [← HAP.out]; exact b1, a2.trans b2, by omega⟩
                                        rw [HS.out.1, HS.out.2]
                                        simp [HGT.out.1, HGT.out.2]
                            · have hst : stepP (some (fa, fn, x :: tl)) (GT, GA, GI, GL) = (x :: tl, fa, true, false) := by
                                unfold stepP
                                dsimp only
                                rw [if_neg HZ.out, if_neg (by simpa using hx)]
                              have hx2 : ¬ (x.toNat : Int) = 43 := by
                                intro h
                                exact hx (UInt8.toNat_inj.1 (by have : x.toNat = 43 := by omega
                                                                rw [this]; rfl))
                              have HS := Lib.hid (And.intro hst hS2)
                              clear hst hS2 hex
                              go_wp2_with fail
                              go_meet
                              case rel => exact ⟨x :: tl, fa, true, false, HS.out.1, by rw [HS.out.2]; exact HY.out.2.2.1, World.grownBy.refl _ _, rfl⟩
                    case rest =>
                      obtain ⟨T, at9, is9, lg9, hst, hp17, hgr, hsz9⟩ := hcut
                      obtain ⟨TS, hTS⟩ : ∃ x, str T = x := ⟨_, rfl⟩
                      have hTsz : TS.size = T.length := by rw [← hTS]; exact str_size T
                      rw [hTS] at hp17
                      have p0 := cell9_blk hp17 0 rfl
                      have p1 := cell9_blk hp17 1 rfl
                      have p2 := cell9_blk hp17 2 rfl
                      have p3 := cell9_blk hp17 3 rfl
                      have q4 := frz9_blk hp17 0
                      have q7 := frz9_blk hp17 3
                      have hsV := H4.out.1.size
                      have hsW := HY.out.1.size
                      have hboV := H2.out.2.2.1.lt
                      have hbkV := H2.out.2.1.lt
                      have hp15w : wr.heap.size ≤ p15 := by omega
                      have hVY : Below V2.heap.size V2 Y := H4.out.1.trans (HY.out.1.mono H4.out.1.size)
                      have hGw : GtB bo O wc := (hgr.block bo (by omega) (fun e => by injection e with e; omega)).trans (H2.out.2.2.1.below hVY)
                      have hKw : BolB (bo + 1) (K.set i true) wc := (hgr.block (bo + 1) (by omega) (fun e => by injection e with e; omega)).trans (H2.out.2.1.below hVY)
                      have hbwc : Below w.heap.size w wc := (H4.out.2.2.1.trans (HY.out.1.mono H4.out.2.2.1.size)).grown hgr (by have := H4.out.2.2.1.size; omega) (fun k e => by injection e with e; have := H4.out.2.2.1.size; omega)
                      have hio : i < O.length := by rw [HH.out.2.2.2.1.lenO]; exact hil
                      obtain ⟨gi, hgi⟩ : ∃ x, O[i]? = some x := ⟨_, List.getElem?_eq_getElem hio⟩
                      have hnext : ∀ (W : World), GtB bo (O.set i (stepC o (GT, GA, GI, GL))) W → BolB (bo + 1) (K.set i true) W → Below w.heap.size w W → ∃ (i' : Nat) (K' : List Bool) (O' : List Gt), i' ≤ n ∧ Value.int .i64 ((i : Int) + 1) = .int .i64 i' ∧ Below w.heap.size w W ∧ GtB bo O' W ∧ BolB (bo + 1) K' W ∧ Swp l nm K' O' ∧ (m + 1 ≤ cntS K' ∨ (m ≤ cntS K' ∧ ∀ j, j < i' → ¬ rdyS l K' j)) := fun W h1 h2 h3 => by
                        have hown : ownF b nm = o := H4.out.2.2.2.1
                        have hgive : giveC ((edg l i).map fun j => O.getD j gt0) = (GT, GA, GI, GL) := by rw [HU.out.2.2.2.1, HL.out.1]; exact H4.out.2.2.2.2.2.2.1
                        have hmore := HH.out.2.2.2.1.more HW.out.2.2.2.2.2.2.2.1 HH.out.2.2.2.2.2 H2.out.1.1 H2.out.1.2
                        rw [hown, hgive] at hmore
                        refine ⟨i + 1, K.set i true, _, hin, by go_num, h3, h1, h2, hmore, .inl ?_⟩
                        rw [cnt_set H2.out.1.1]
                        rcases HH.out.2.2.2.2.1 with h | ⟨h, _⟩ <;> omega
                      have HN := Lib.hid (And.intro hnext (And.intro hst (And.intro hp17 (And.intro hGw (And.intro hKw (And.intro hbwc (And.intro hgi (And.intro hio hTS))))))))
                      have hne1 : bo ≠ p15 + 1 := by omega
                      have hne2 : bo + 1 ≠ p15 + 1 := by omega
                      have hlo : w.heap.size ≤ p15 + 1 := by have := H4.out.2.2.1.size; omega
                      clear hnext hst hgr hGw hKw hbwc hVY hTS
                      by_cases hlong : 4096 < T.length
                      · have hq : (4096 : Int) < TS.size := by rw [hTsz]; omega
                        have hp18 : ((wc.setCell ⟨p15 + 1, 0, none⟩ (.string { data := #[] })).setCell ⟨p15 + 1, 3, none⟩ (.bool true)).heap[p15 + 1]? = some (.cells #[.string { data := #[] }, .int .i64 at9, .bool is9, .bool true] 79 (0, 0)) :=
                          heap_setCell_same _ (p15 + 1) 3 _ _ _ (heap_setCell_same wc (p15 + 1) 0 _ _ _ HN.out.2.2.1)
                        have hG8 : GtB bo O ((wc.setCell ⟨p15 + 1, 0, none⟩ (.string { data := #[] })).setCell ⟨p15 + 1, 3, none⟩ (.bool true)) := (HN.out.2.2.2.1.other (by show p15 + 1 ≠ bo; omega) _).other (by show p15 + 1 ≠ bo; omega) _
                        have hK8 : BolB (bo + 1) (K.set i true) ((wc.setCell ⟨p15 + 1, 0, none⟩ (.string { data := #[] })).setCell ⟨p15 + 1, 3, none⟩ (.bool true)) := (HN.out.2.2.2.2.1.other (by show p15 + 1 ≠ bo + 1; omega) _).other (by show p15 + 1 ≠ bo + 1; omega) _
                        have hB8 : Below w.heap.size w ((wc.setCell ⟨p15 + 1, 0, none⟩ (.string { data := #[] })).setCell ⟨p15 + 1, 3, none⟩ (.bool true)) := (HN.out.2.2.2.2.2.1.setCell (by show _ ≤ p15 + 1; omega) _).setCell (by show _ ≤ p15 + 1; omega) _
                        have b0 := cell9_blk hp18 0 rfl
                        have b1 := cell9_blk hp18 1 rfl
                        have b2 := cell9_blk hp18 2 rfl
                        have b3 := cell9_blk hp18 3 rfl
                        have g0 := HN.out.2.2.2.1.cell (c := 0) hgi (by decide) rfl
                        have g1 := HN.out.2.2.2.1.cell (c := 1) hgi (by decide) rfl
                        have g2 := HN.out.2.2.2.1.cell (c := 2) hgi (by decide) rfl
                        have g3 := HN.out.2.2.2.1.cell (c := 3) hgi (by decide) rfl
                        rw [Nat.add_zero] at g0
                        have z4 := HN.out.2.2.2.1.frz (i * 4)
                        have z5 := HN.out.2.2.2.1.frz (i * 4 + 1)
                        have z6 := HN.out.2.2.2.1.frz (i * 4 + 2)
                        have z7 := HN.out.2.2.2.1.frz (i * 4 + 3)
                        have H8 := Lib.hid (And.intro hG8 (And.intro hK8 hB8))
                        clear hp17 hgi hp18 hG8 hK8 hB8
                        go_wp2_with fail
                        refine ⟨HN.out.1 _ ?_ ?_ ?_, by simp [intOf]; omega⟩
                        · have e : stepC o (GT, GA, GI, GL) = ([], at9, is9, true) := by rw [stepC_cut, HN.out.2.1]; exact if_pos hlong
                          rw [e]
                          exact H8.out.1.set i ([], at9, is9, true) HN.out.2.2.2.2.2.2.2.1
                        · exact (((H8.out.2.1.other (by show bo ≠ bo + 1; omega) _).other (by show bo ≠ bo + 1; omega) _).other (by show bo ≠ bo + 1; omega) _).other (by show bo ≠ bo + 1; omega) _
                        · exact (((H8.out.2.2.setCell (by show _ ≤ bo; omega) _).setCell (by show _ ≤ bo; omega) _).setCell (by show _ ≤ bo; omega) _).setCell (by show _ ≤ bo; omega) _
                      · have hq : ¬ (4096 : Int) < TS.size := by rw [hTsz]; omega
                        have g0 := HN.out.2.2.2.1.cell (c := 0) hgi (by decide) rfl
                        have g1 := HN.out.2.2.2.1.cell (c := 1) hgi (by decide) rfl
                        have g2 := HN.out.2.2.2.1.cell (c := 2) hgi (by decide) rfl
                        have g3 := HN.out.2.2.2.1.cell (c := 3) hgi (by decide) rfl
                        rw [Nat.add_zero] at g0
                        have z4 := HN.out.2.2.2.1.frz (i * 4)
                        have z5 := HN.out.2.2.2.1.frz (i * 4 + 1)
                        have z6 := HN.out.2.2.2.1.frz (i * 4 + 2)
                        have z7 := HN.out.2.2.2.1.frz (i * 4 + 3)
                        clear hp17 hgi
                        go_wp2_with fail
                        refine ⟨HN.out.1 _ ?_ ?_ ?_, by simp [intOf]; omega⟩
                        · have e : stepC o (GT, GA, GI, GL) = (T, at9, is9, lg9) := by rw [stepC_cut, HN.out.2.1]; exact cutC_same (show T.length ≤ 4096 by omega)
                          have h := HN.out.2.2.2.1.set i (T, at9, is9, lg9) HN.out.2.2.2.2.2.2.2.1
                          dsimp only at h
                          rw [HN.out.2.2.2.2.2.2.2.2] at h
                          rw [e]
                          exact h
                        · exact (((HN.out.2.2.2.2.1.other (by show bo ≠ bo + 1; omega) _).other (by show bo ≠ bo + 1; omega) _).other (by show bo ≠ bo + 1; omega) _).other (by show bo ≠ bo + 1; omega) _
                        · exact (((HN.out.2.2.2.2.2.1.setCell (by show _ ≤ bo; omega) _).setCell (by show _ ≤ bo; omega) _).setCell (by show _ ≤ bo; omega) _).setCell (by show _ ≤ bo; omega) _
                  · obtain ⟨k, rfl⟩ : ∃ k, k4 = k + 1 := ⟨k4 - 1, by omega⟩
                    have e1 : ((k + 1 : Nat) : Int) - 1 = k := by omega
                    rw [e1]
                    have hkj : k < js.length := by rw [HU.out.2.2.2.2.1]; omega
                    obtain ⟨t, ht⟩ : ∃ t, js[k] = t := ⟨_, rfl⟩
                    have htm : t ∈ edg l i := by rw [HU.out.2.2.2.1, ← ht]; exact List.getElem_mem hkj
                    have htn : t < n := by have := edg_lt htm; rw [HW.out.2.2.2.2.2.2.2.2.2] at this; exact this
                    have hto : t < O.length := by rw [HH.out.2.2.2.1.lenO, HW.out.2.2.2.2.2.2.2.2.2]; exact htn
                    obtain ⟨gt, hgt⟩ : ∃ x, O[t]? = some x := ⟨_, List.getElem?_eq_getElem hto⟩
                    have hLk : L[k]? = some gt := by
                      rw [← HL.out.1, List.getElem?_map, List.getElem?_eq_getElem hkj, ht, Option.map_some, List.getD_eq_getElem?_getD, hgt]
                      rfl
                    have hgd := giveC_drop hLk
                    rw [hgv] at hgd
                    obtain ⟨adU, hadU, hcU⟩ := (H2.out.2.2.2.2.1.below hb4).at_ (k := k) (by rw [List.length_map]; exact hkj)
                    rw [List.getElem_map, ht] at hcU
                    unfold intC at hcU
                    have hG4 := H2.out.2.2.1.below hb4
                    have g0 := hG4.cell (c := 0) hgt (by decide) rfl
                    have g1 := hG4.cell (c := 1) hgt (by decide) rfl
                    have g2 := hG4.cell (c := 2) hgt (by decide) rfl
                    have g3 := hG4.cell (c := 3) hgt (by decide) rfl
                    have d0 := cell9_blk hp4 0 rfl
                    have d1 := cell9_blk hp4 1 rfl
                    have d2 := cell9_blk hp4 2 rfl
                    have d3 := cell9_blk hp4 3 rfl
                    have x0 := frz9_blk hp4 0
                    have x1 := frz9_blk hp4 1
                    have x2 := frz9_blk hp4 2
                    have x3 := frz9_blk hp4 3
                    have HG := Lib.hid (And.intro hgd (And.intro hb4 hp4))
                    have y0 : (0 : Int) ≤ k := by omega
                    have y1 : (k : Int) < m2 := by omega
                    have y2 : (0 : Int) ≤ t := by omega
                    have y3 : (t : Int) < n := by omega
                    clear hgd hb4 hp4 hG4 hLk hgt ht htm hgv
                    subst hadU
                    obtain ⟨T1, a1, i1, l1⟩ := gt
                    dsimp only at g0 g1 g2 g3
                    rw [Nat.add_zero] at g0
                    obtain ⟨S1, hS1⟩ : ∃ x, str T1 = x := ⟨_, rfl⟩
                    obtain ⟨S2, hS2⟩ : ∃ x, str gv.1 = x := ⟨_, rfl⟩
                    rw [hS1] at g0
                    rw [hS2] at d0
                    have HSS := Lib.hid (And.intro hS1 hS2)
                    clear hS1 hS2
                    cases i1 with
                    | false =>
                      go_wp2_with fail
                      exact ⟨⟨k, gv, by omega, by first | rfl | go_num, HG.out.2.1, by rw [HG.out.1]; rfl, HG.out.2.2⟩, by simp [intOf]⟩
                    | true =>
                      go_wp2_with fail
                      refine ⟨⟨k, (T1, a1, true, l1), by omega, by first | rfl | go_num, (((HG.out.2.1.setCell (by show _ ≤ p13; omega) _).setCell (by show _ ≤ p13; omega) _).setCell (by show _ ≤ p13; omega) _).setCell (by show _ ≤ p13; omega) _, by rw [HG.out.1]; rfl, ?_⟩, by simp [intOf]⟩
                      dsimp only
                      rw [HSS.out.1]
                      exact set4_same (o := 0) HG.out.2.2
        · obtain rfl : i = n := by omega
          have HH := Lib.hid (And.intro hbel (And.intro hG (And.intro hK (And.intro hS hor))))
          clear hbel hG hK hS hor
          go_wp2_with fail
          have hli := HW.out.2.2.2.2.2.2.2.2.2
          refine ⟨⟨m + 1, K, O, hmn, by go_num, HH.out.1, HH.out.2.1, HH.out.2.2.1, HH.out.2.2.2.1, ?_⟩, by simp [intOf]; omega⟩
          rcases HH.out.2.2.2.2 with h | ⟨h1, h2⟩
          · exact h
          · exact HH.out.2.2.2.1.gain HW.out.2.2.2.2.2.2.2.1 (by omega) h1 (fun j hj => h2 j (by omega))
    · obtain rfl : m = n := by omega
      go_wp2_with fail
      go_ret
      have hli := HW.out.2.2.2.2.2.2.2.2.2
      refine ⟨bo, rfl, ?_, HM.out.1, Nat.le_of_eq hbo⟩
      have hS := HM.out.2.2.2.1
      have hall := cnt_all (K := K0) (by rw [hS.lenK, hli]; exact HM.out.2.2.2.2)
      have e : O0 = (List.range m).map fun i => gotC (gotT l nm i) := by
        apply List.ext_getElem?
        intro j
        by_cases hj : j < m
        · rw [hS.val j (hall j (by rw [hS.lenK, hli]; exact hj)), List.getElem?_map, List.getElem?_range hj]
          rfl
        · rw [List.getElem?_eq_none (by rw [hS.lenO, hli]; omega), List.getElem?_eq_none (by simp; omega)]
      rw [← e]
      exact HM.out.2.1
end Go.Proofs.YthnogakjaaopkaaGreatDoor

/- IhTo, IhLu, IhLl, in one text. -/
import Derived.Test.YthnogakjaaopkaaGreatDoorIhLk
import Derived.Test.YthnogakjaaopkaaGreatDoorBrU
import Derived.Test.YthnogakjaaopkaaGreatDoorVaPt
import Derived.Test.YthnogakjaaopkaaGreatDoorWkGr
/- Contract: templatesOf. -/
namespace Go.Proofs.YthnogakjaaopkaaGreatDoor
open Go.RowKit

theorem list_each (t : Tx) : ∀ x ∈ (listT t).1, x.length ≤ t.length := by
  intro x hx
  unfold listT at hx
  split at hx
  · cases hx
  · split at hx
    · cases hx
    · unfold partsT at hx
      obtain ⟨p, hp, rfl⟩ := List.mem_map.1 hx
      exact Nat.le_trans (trw_len p) (cut_le t p hp)
/-- The templates that a text lists, of a kind. -/
def tmplsT (l : List MB) (kd t : Tx) : List Nat × Nat := if (listT t).2 ≠ 0 then ([], (listT t).2) else namesU l kd (listT t).1
def ToE (R : List Nat × Nat) (w : World) (e : Ending) (w' : World) : Prop := ∃ v, e = .returned (.tuple #[v, errE R.2]) ∧ RowN w' v R.1 ∧ Below w.heap.size w w' ∧ ∀ g, v.ownBlock = some g → w.heap.size ≤ g
theorem toE_of {R : List Nat × Nat} {w w' : World} {v ev : Value} {L : List Nat} {k : Nat} (hR : (L, k) = R) (hj : ev = errE k) (hv : RowN w' v L) (hb : Below w.heap.size w w') (ho : ∀ g, v.ownBlock = some g → w.heap.size ≤ g) : ToE R w (.returned (.tuple #[v, ev])) w' := by
  subst hR
  subst hj
  exact ⟨v, rfl, hv, hb, ho⟩
theorem own_len (A : Option Addr) (n c m d : Nat) : (Value.slice A n c).ownBlock = (Value.slice A m d).ownBlock := by cases A <;> rfl
theorem nil_own (m : Nat) : ∀ g, (Value.slice none 0 0).ownBlock = some g → m ≤ g := fun g hg => by simp [Value.ownBlock] at hg
set_option maxHeartbeats 4000000 in
set_option maxRecDepth 100000 in
theorem templatesOf_any (ps mb : Nat) (x0 x2 x3 x4 : Value) (l : List MB) (kd t : Tx) (w : World) (hS : w.heap[ps]? = some (.cells #[x0, .map (some mb), x2, x3, x4] 67 (0, 0))) (hT : TIs w mb l) (hkd : kd.length ≤ 1000000) (ht : t.length ≤ 900000) (_ : l.length ≤ 1000000) :
    Calls Tryz.prog 48 #[.pointer (some ⟨ps, 0, none⟩), .string (str kd), .string (str t)] w (ToE (tmplsT l kd t) w) := by
  have HLs := Lib.hid (fun W => list_any t W ht)
  unfold LsE at HLs
  have hRR : (if (listT t).2 ≠ 0 then ([], (listT t).2) else namesU l kd (listT t).1) = tmplsT l kd t := rfl
  have hlen := ls_lenR t
  have heach := list_each t
  obtain ⟨R, hR⟩ : ∃ R, tmplsT l kd t = R := ⟨_, rfl⟩
  rw [hR] at hRR ⊢
  rcases hq : listT t with ⟨q, k⟩
  rw [hq] at HLs hRR hlen heach
  dsimp only at HLs hRR hlen heach
  have HRR := Lib.hid hRR
  have HS := Lib.hid (And.intro hS hT)
  have HEa := Lib.hid heach
  obtain ⟨FT, hFT⟩ : ∃ x, str t = x := ⟨_, rfl⟩
  rw [hFT] at HLs ⊢
  obtain ⟨KD, hKD⟩ : ∃ x, str kd = x := ⟨_, rfl⟩
  have HKD := Lib.hid hKD
  rw [hKD]
  clear hR hq hFT hRR hS hT hKD heach
  go_enter Tryz.func48, Tryz.ntmps48
  go_wp2_with fail
  with_reducible refine (HLs.out _).mono ?_
  rintro e w4 ⟨v4, rfl, hrow, hb4⟩
  have HB4 := Lib.hid hb4
  by_cases hk : k = 0
  · subst hk
    obtain ⟨A4, c4, rfl, _, _, hr4⟩ := hrow
    have HQ := Lib.hid hr4
    obtain ⟨m, hm⟩ : ∃ m, q.length = m := ⟨_, rfl⟩
    rw [hm] at hlen ⊢
    have HM := Lib.hid hm
    rw [if_neg (by simp)] at HRR
    rw [errE_zero]
    clear hb4 hr4 hm
    go_wp2_with fail
    go_loopw [10, 25] (fun o kv wr => ∃ (a : Nat) (js : List Nat), kv = .int .i64 a ∧ a ≤ m ∧ allS ((q.take a).map (tmpl l kd)) = some js ∧ js.length = a ∧ wr.ownsRow w4.heap.size 3 1 o a (js.map intC) ∧ Below w4.heap.size w4 wr) (fun _ kv _ => m - (intOf kv).toNat)
    case atStart => exact ⟨0, [], rfl, Nat.zero_le _, rfl, rfl, World.ownsRow_nil _ _ _ _, Below.refl _ _⟩
    case round =>
      obtain ⟨a, js, rfl, ha, hal, hjs, how, hbw⟩ := hrel
      have HA := Lib.hid (And.intro hal (And.intro hjs (And.intro how hbw)))
      have HBw := Lib.hid (HB4.out.trans (hbw.mono HB4.out.size))
      rcases Nat.lt_or_ge a m with hlt | hge
      · have q2 : (0 : Int) ≤ a := by omega
        have q3 : (a : Int) < m := by omega
        have haq : a < q.length := by rw [HM.out]; exact hlt
        have hqm : a < (q.map txC).length := by rw [List.length_map]; exact haq
        obtain ⟨adq, rfl, cq⟩ := (Rd.below HQ.out hbw).at_ hqm
        have hx : (q.map txC)[a] = .string (str q[a]) := by rw [List.getElem_map]; rfl
        rw [hx] at cq
        have s1 := cell9_blk ((HBw.out.block ps (blk9_lt HS.out.1)).trans HS.out.1) 1 rfl
        have hel : q[a].length ≤ 1000000 := Nat.le_trans (HEa.out _ (List.getElem_mem haq)) (by omega)
        have hlk := (HS.out.2.below HBw.out).look hkd hel
        unfold ttV at hlk
        rw [HKD.out] at hlk
        have htk : (q.take (a + 1)).map (tmpl l kd) = (q.take a).map (tmpl l kd) ++ [tmpl l kd q[a]] := by rw [List.take_succ_eq_append_getElem haq, List.map_append]; rfl
        have hin : tmpl l kd q[a] ∈ q.map (tmpl l kd) := List.mem_map.2 ⟨q[a], List.getElem_mem haq, rfl⟩
        have HTk := Lib.hid (And.intro htk hin)
        generalize str q[a] = QA at *
        obtain ⟨tt, htt⟩ : ∃ x, tmpl l kd q[a] = x := ⟨_, rfl⟩
        rw [htt] at HTk hlk
        have htl : ∀ j, tt = some j → j < l.length := fun j hj => tmpl_lt (htt.trans hj)
        have HTl := Lib.hid htl
        clear hal hjs how hbw haq hqm hx htk hin htt htl hel
        cases tt with
        | none =>
          have HR : Hid (([], 8) = R) := by unfold Hid; rw [← HRR.out, namesU_no HTk.out.2]
          dsimp only [Option.isSome_none, Option.getD_none] at hlk
          go_wp2_with fail
          go_ret2
          exact toE_of HR.out rfl (RowN.none _) HBw.out (nil_own _)
        | some j =>
          dsimp only [Option.isSome_some, Option.getD_some] at hlk
          have hjl := HTl.out j rfl
          have HO := Lib.hid HA.out.2.2.1
          have HBB := Lib.hid HA.out.2.2.2
          go_wp2_with
            (at_builtin
             refine wpList_app rfl (.tmp 43) (.tmp 45) 64 rfl elN w4.heap.size u10 a (js.map intC) rfl (HO.out.alloc _) (some ⟨wr.heap.size, 0, none⟩) 1 1 [.int .i64 j] rfl rfl (Rd.block (MapKept.heap_alloc wr (.cells #[.int .i64 (j : Nat)] 3)).1) (fun u hu => by rw [List.mem_singleton.1 hu]; rfl) (by unfold maxLen; omega) (by omega) (by rw [World.size_alloc]; have := HBB.out.size; omega) ?_
             intro v' w'' ho hg hob
             have HN2 := Lib.hid (And.intro ho (And.intro hg hob))
             clear ho hg hob)
          go_wp2_with fail
          refine ⟨⟨a + 1, js ++ [j], by go_num, hlt, by rw [HTk.out.1]; exact allS_snoc _ _ _ HA.out.1, by rw [List.length_append, HA.out.2.1]; rfl, ?_, (HBB.out.alloc HBB.out.size _).grown HN2.out.2.1 (by rw [World.size_alloc]; have := HBB.out.size; omega) (fun k hk => (HO.out.lt k hk).1)⟩, by simp [intOf]; omega⟩
          rw [List.map_append, List.map_singleton]
          exact HN2.out.1
      · obtain rfl : a = m := by omega
        have q3 : ¬ ((a : Int) < a) := by omega
        have HR : Hid ((js, 0) = R) := by
          unfold Hid
          rw [← HRR.out]
          have h := HA.out.1
          rw [List.take_of_length_le (by rw [HM.out]; exact Nat.le_refl _)] at h
          rw [namesU_ok h]
        have HV := Lib.hid (RowN.owned hjs how)
        have HOw := Lib.hid (fun (g : Nat) (h : _ = some g) => Nat.le_trans HB4.out.size (how.lt g h).1)
        obtain ⟨A5, c5, hv5, h5⟩ := RowN.owned hjs how
        subst hv5
        clear hal how hbw h5 hge
        go_wp2_with fail
        go_ret2
        exact toE_of (v := .slice A5 a c5) HR.out rfl (by have h := HV.out; rwa [HA.out.2.1] at h) HBw.out (fun g hg => HOw.out g ((own_len _ _ _ _ _).trans hg))
  · have HR : Hid (([], k) = R) := by have h := HRR.out; rwa [if_pos hk] at h
    have heE : errE k = errK (k : Nat) := if_neg hk
    have HE := Lib.hid heE
    rw [heE]
    unfold errK
    clear hk hb4 heE hrow
    go_wp2_with fail
    go_ret2
    exact toE_of HR.out (HE.out.symm) (RowN.none _) HB4.out (nil_own _)
end Go.Proofs.YthnogakjaaopkaaGreatDoor
/- Contract: lookAtUses. -/
namespace Go.Proofs.YthnogakjaaopkaaGreatDoor
open Go.RowKit

theorem uses_some {l : List MB} {b : MB} {f : MF} (h : ownF b nmU = some f) : usesB l b = tmplsT l b.2.1 f.2.2 := by
  unfold usesB tmplsT
  rw [h]
theorem uses_none {l : List MB} {b : MB} (h : ownF b nmU = none) : usesB l b = ([], 0) := by
  unfold usesB
  rw [h]
/-- All that stand in a block are slices. -/
def SlcB (bt : Nat) (Z : List Value) (W : World) : Prop := W.heap[bt]? = some (.cells Z.toArray 64 (0, 0)) ∧ ∀ v ∈ Z, ∃ A n c, v = .slice A n c
theorem SlcB.lt {bt : Nat} {Z : List Value} {W : World} (h : SlcB bt Z W) : bt < W.heap.size := blk9_lt h.1
theorem SlcB.below {bt : Nat} {Z : List Value} {W W' : World} (h : SlcB bt Z W) (hb : Below W.heap.size W W') : SlcB bt Z W' := ⟨(hb.block _ h.lt).trans h.1, h.2⟩
theorem SlcB.load {bt : Nat} {Z : List Value} {W : World} (h : SlcB bt Z W) {k : Nat} {v : Value} (hk : Z[k]? = some v) : W.cell? ⟨bt, k, none⟩ = some v := cell9_blk h.1 k (by rw [List.getElem?_toArray]; exact hk)
theorem SlcB.frz {bt : Nat} {Z : List Value} {W : World} (h : SlcB bt Z W) (k : Nat) : W.frozen? ⟨bt, k, none⟩ = false := frz9_blk h.1 k
theorem SlcB.set {bt : Nat} {Z : List Value} {W : World} (h : SlcB bt Z W) (k : Nat) {A : Option Addr} {n c : Nat} : SlcB bt (Z.set k (.slice A n c)) (W.setCell ⟨bt, k, none⟩ (.slice A n c)) := by
  refine ⟨?_, fun v hv => ?_⟩
  · rw [heap_setCell_same W bt k _ _ (.slice A n c) h.1, List.setIfInBounds_toArray]
  · rcases List.mem_or_eq_of_mem_set hv with h1 | rfl
    · exact h.2 v h1
    · exact ⟨_, _, _, rfl⟩
theorem rowN_kept {W W' : World} {v : Value} {L : List Nat} (h : RowN W v L) (hk : ∀ g, v.ownBlock = some g → W'.heap[g]? = W.heap[g]?) : RowN W' v L := by
  obtain ⟨A, c, rfl, h1, h2, h3⟩ := h
  exact ⟨A, c, rfl, h1, h2, h3.keep fun p hp _ => by subst hp; exact hk p.block rfl⟩
theorem grown_set2' {w wr w8 : World} {row : Option Nat} {g : Nat} {x y : Value} (hg : w.grownBy wr row) (h8 : Below wr.heap.size wr w8) (hge : w.heap.size ≤ g) : w.grownBy ((w8.setCell ⟨g, 0, none⟩ x).setCell ⟨g, 1, none⟩ y) row :=
  grown_set2 (Below.refl _ _) hg h8 hge
set_option maxRecDepth 100000 in
set_option maxHeartbeats 4000000 in
theorem lookUses_any (W0 : World) (ps mb : Nat) (lv x2 x3 x4 : Value) (l : List MB) (n : Nat) (w : World) (hn : l.length = n) (hl : n ≤ 1000000) (hf : ∀ b ∈ l, b.2.1.length ≤ 1000000 ∧ b.2.2.length ≤ 1000000 ∧ ∀ f ∈ b.2.2, f.2.2.length ≤ 900000)
    (hbel : Below W0.heap.size W0 w) (_ : W0.heap.size ≤ mb) (hps : W0.heap.size ≤ ps) (hE : ErrT W0) (hv : RowB W0 lv l) (hS : w.heap[ps]? = some (.cells #[lv, .map (some mb), x2, x3, x4] 67 (0, 0))) (hT : TIs w mb l) (hne : mb ≠ ps) :
    Calls Tryz.prog 28 #[.pointer (some ⟨ps, 0, none⟩)] w fun e w' => LkE (fstB (fun _ => wrgU l) 0 l) e ∧ w.grownBy w' (some ps) ∧
      (fstB (fun _ => wrgU l) 0 l = none → ∃ bt Z, w.heap.size ≤ bt ∧ w'.heap[ps]? = some (.cells #[lv, .map (some mb), .slice (some ⟨bt, 0, none⟩) n n, x3, x4] 67 (0, 0)) ∧ SlcB bt Z w' ∧ Z.length = n ∧ ∀ (i : Nat) (b : MB), l[i]? = some b → ∃ v, Z[i]? = some v ∧ RowN w' v (usesB l b).1) := by
  obtain ⟨A, c, rfl, hr⟩ := hv.form
  rw [hn] at hr hS
  obtain ⟨g, hg⟩ : ∃ g, w.heap.size = g := ⟨_, rfl⟩
  have q0 : (0 : Int) ≤ n := by omega
  have hmk : ∀ W, (Instr.makeSlice 63 (.int .i64 (n : Nat)) (.int .i64 (n : Nat))).run Tryz.prog W = .ok (.slice (some ⟨W.heap.size, 0, none⟩) n n) (W.alloc (.cells (List.replicate n nilS).toArray 64)) := fun W => by
    have hel : Elem Tryz.prog 63 64 nilS 24 := ⟨Tryz.underlying63, by kernel_rfl, rfl⟩
    have h := run_mk hel (n : Nat) (n : Nat) q0 (Int.le_refl _) (by omega) (by omega) W
    rw [h]
    congr 3
    rw [Int.toNat_natCast]
    apply Array.toList_inj.1
    have h2 := toList_madeCells_one nilS n
    rw [show (nilS : Value).cells = #[nilS] from rfl, h2]
  obtain ⟨Z0, hZ0⟩ : ∃ Z, (List.replicate n nilS).toArray = Z := ⟨_, rfl⟩
  rw [hZ0] at hmk
  have HZ0 := Lib.hid hZ0
  obtain ⟨w1, hw1⟩ : ∃ x, w.alloc (.cells #[.int .i64 0, .int .i64 0] 29) = x := ⟨_, rfl⟩
  have hb1 : Below w.heap.size w w1 := by rw [← hw1]; exact (Below.refl _ _).alloc (Nat.le_refl _) _
  have b0 : w1.heap[g]? = some (.cells #[.int .i64 0, .int .i64 0] 29 (0, 0)) := by
    rw [← hw1, ← hg]
    exact (MapKept.heap_alloc w _).1
  have hs1 : w1.heap.size = g + 1 := by rw [← hw1]; simp [hg]
  have hS1 := (hb1.block ps (blk9_lt hS)).trans hS
  have s0 := cell9_blk hS1 0 rfl
  have hz2 : Below w1.heap.size w1 (w1.alloc (.cells Z0 64)) := (Below.refl _ _).alloc (Nat.le_refl _) _
  have bt0 : (w1.alloc (.cells Z0 64)).heap[g + 1]? = some (.cells Z0 64 (0, 0)) := by
    have h := (MapKept.heap_alloc w1 (.cells Z0 64)).1
    rwa [hs1] at h
  have hS2 := (hz2.block ps (blk9_lt hS1)).trans hS1
  have p2 := cell9_blk hS2 2 rfl
  have y2 := frz9_blk hS2 2
  have HW := Lib.hid (And.intro hb1 (And.intro b0 (And.intro hbel (And.intro hr (And.intro hT hE)))))
  have HS2 := Lib.hid (And.intro hS2 (And.intro bt0 hz2))
  have hpw := blk9_lt hS
  have hgm : g ≠ mb := by have := hT.lt; omega
  have hmw := hT.lt
  obtain ⟨R, hRR⟩ : ∃ R, fstB (fun _ => wrgU l) 0 l = R := ⟨_, rfl⟩
  rw [hRR]
  have HRR := Lib.hid hRR
  clear hRR hS hv hT hE hS1 hb1 hS2 bt0 hz2 hZ0
  go_enter Tryz.func28, Tryz.ntmps28
  go_upto_region 2 with (fail)
  obtain ⟨w2, hw2⟩ : ∃ x, (w1.alloc (.cells Z0 64)).setCell ⟨ps, 2, none⟩ (.slice (some ⟨g + 1, 0, none⟩) n n) = x := ⟨_, rfl⟩
  have hpg : ps ≠ g := by omega
  have hpg1 : ps ≠ g + 1 := by omega
  have hsS : w2.heap[ps]? = some (.cells #[.slice A n c, .map (some mb), .slice (some ⟨g + 1, 0, none⟩) n n, x3, x4] 67 (0, 0)) := by
    rw [← hw2, heap_setCell_same _ ps 2 _ _ _ HS2.out.1]
    rfl
  have hsB : SlcB (g + 1) (List.replicate n nilS) w2 := by
    refine ⟨?_, fun v hv => ⟨none, 0, 0, (List.mem_replicate.1 hv).2⟩⟩
    rw [← hw2, Below.heap_setCell _ _ _ _ (fun e => hpg1 e.symm), HS2.out.2.1, HZ0.out]
  have hsG : w2.heap[g]? = some (.cells #[.int .i64 0, .int .i64 0] 29 (0, 0)) := by
    rw [← hw2, Below.heap_setCell _ _ _ _ (fun e => hpg e.symm)]
    exact (HS2.out.2.2.block g (by omega)).trans HW.out.2.1
  have hsz2 : w2.heap.size = g + 2 := by rw [← hw2]; simp [World.setCell, World.size_alloc, hs1]
  have hgr2 : w.grownBy w2 (some ps) := by
    rw [← hw2]
    refine ⟨HW.out.1.os, HW.out.1.tape, HW.out.1.output, by simp [World.setCell, World.size_alloc, hs1]; omega, fun k hk hkp => ?_⟩
    rw [Below.heap_setCell _ _ _ _ (fun e => hkp (by rw [e]))]
    exact (HS2.out.2.2.block k (by omega)).trans (HW.out.1.block k hk)
  have H2 := Lib.hid (And.intro hsS (And.intro hsB (And.intro hsG hgr2)))
  have s2 := cell9_blk hsS 0 rfl
  rw [hw2]
  clear hsS hsB hsG hgr2 hw2
  go_wp2_with fail
  go_loopw [24] (fun kv wr => ∃ (k : Nat) (Z : List Value), k ≤ n ∧ kv = .int .i64 k ∧ w2.grownBy wr (some (g + 1)) ∧ SlcB (g + 1) Z wr ∧ Z.length = n ∧ (∀ (i : Nat) (b : MB), i < k → l[i]? = some b → ∃ v, Z[i]? = some v ∧ RowN wr v (usesB l b).1 ∧ ∀ g', v.ownBlock = some g' → g + 2 ≤ g') ∧ (∀ (i : Nat), k ≤ i → i < n → Z[i]? = some nilS) ∧ ∀ (j : Nat) (b : MB), j < k → l[j]? = some b → wrgU l b = none) (fun kv _ => n - (intOf kv).toNat)
  case atStart => exact ⟨0, _, Nat.zero_le _, rfl, World.grownBy.refl _ _, H2.out.2.1, by simp, fun i b hi => absurd hi (Nat.not_lt_zero i), fun i _ hi => by rw [List.getElem?_replicate, if_pos hi], fun j b hj => absurd hj (Nat.not_lt_zero j)⟩
  case round =>
    obtain ⟨k, Z, hk, rfl, hgr, hSB, hZl, hrows, hrest, hno⟩ := hrel
    have hgblk : ∀ i, i < g + 2 → i ≠ g + 1 → wr.heap[i]? = w2.heap[i]? := fun i hi hm => hgr.block i (by omega) (fun e => by injection e with e; exact hm e)
    have hszr := hgr.size
    have hSr := (hgblk ps (by omega) hpg1).trans H2.out.1
    have hGr := (hgblk g (by omega) (by omega)).trans H2.out.2.2.1
    have hgw : w.grownBy wr (some ps) := ⟨hgr.os.trans H2.out.2.2.2.os, hgr.tape.trans H2.out.2.2.2.tape, hgr.output.trans H2.out.2.2.2.output, by omega, fun i hi hip => (hgblk i (by omega) (by omega)).trans (H2.out.2.2.2.block i hi hip)⟩
    by_cases hlk : k < n
    · have hkl : k < l.length := by omega
      obtain ⟨b, hb⟩ : ∃ b, l[k]? = some b := ⟨_, List.getElem?_eq_getElem hkl⟩
      have hbm : b ∈ l := List.mem_of_getElem? hb
      have hbw : Below W0.heap.size W0 wr := grown_belowW HW.out.2.2.1 hgw (fun k e => by injection e with e; omega)
      obtain ⟨ad, X, vF, rfl, hX, k0', k1', k2', hrf⟩ := HW.out.2.2.2.1.parts.2.2.2 k hlk b hb
      have k0 := cell9_below k0' hbw
      have k1 := cell9_below k1' hbw
      have k2 := cell9_below k2' hbw
      clear k0' k1' k2'
      have hTr : TIs wr mb l := HW.out.2.2.2.2.1.block ((hgblk mb (by omega) (by omega)).trans (H2.out.2.2.2.block mb hmw (fun e => by injection e with e; exact hne e)))
      obtain ⟨KD, hKD⟩ : ∃ x, str b.2.1 = x := ⟨_, rfl⟩
      rw [hKD] at k1
      obtain ⟨v1, hv1⟩ : ∃ x, wr.alloc (.cells #[.int .i64 b.1, .string KD, vF] 48) = x := ⟨_, rfl⟩
      have hbv : Below wr.heap.size wr v1 := by rw [← hv1]; exact (Below.refl _ _).alloc (Nat.le_refl _) _
      have bv : v1.heap[wr.heap.size]? = some (.cells #[.int .i64 b.1, .string KD, vF] 48 (0, 0)) := by rw [← hv1]; exact (MapKept.heap_alloc wr _).1
      have hbw1 : Below W0.heap.size W0 v1 := hbw.trans (hbv.mono hbw.size)
      have hFR := find_any b.1 (str b.2.1) vF b.2.2 nmU v1 (hf b hbm).2.1 (hrf.below hbw1)
      have e0 : str nmU = { data := #[117, 115, 101] } := rfl
      rw [e0, hKD] at hFR
      unfold OwE at hFR
      have HFR := Lib.hid hFR
      have HV := Lib.hid (And.intro hbv (And.intro bv hbw1))
      have n0 := cell9_blk bv 0 rfl
      have n1 := cell9_blk bv 1 rfl
      have n2 := cell9_blk bv 2 rfl
      obtain ⟨A3, c3, hvF, _⟩ := hrf.form
      have hown : ownF b nmU = b.2.2.find? fun f => f.2.1 == nmU := rfl
      have hHR : ∀ r, wrgU l b = some r → fstB (fun _ => wrgU l) 0 l = some r := fun r h => fstB_hit l 0 k b hb h (fun j c hj hc => hno j c hj hc)
      have hNo1 : wrgU l b = none → ∀ (j : Nat) (c : MB), j < k + 1 → l[j]? = some c → wrgU l c = none := fun h j c hj hc => by
        rcases Nat.lt_succ_iff_lt_or_eq.1 hj with h1 | rfl
        · exact hno j c h1 hc
        · rw [hb] at hc
          injection hc with hc
          rw [← hc]
          exact h
      have HH := Lib.hid (And.intro hHR (And.intro hNo1 (And.intro hGr (And.intro hgr (And.intro hSB (And.intro hZl (And.intro hrows hrest)))))))
      have HH2 := Lib.hid (And.intro hSr (And.intro hTr (And.intro hb hgw)))
      have r0 : (0 : Int) ≤ k := by omega
      have r1 : (k : Int) < n := by omega
      clear hFR hbv bv hbw1 hrf hHR hNo1 hGr hSr hTr hgr hSB hZl hrows hrest hno hbw hgw hgblk
      subst hvF
      cases ho : b.2.2.find? (fun f => f.2.1 == nmU) with
      | none =>
        rw [ho] at HFR hown
        dsimp only [Option.isSome_none, fdO] at HFR
        have HO := Lib.hid hown
        clear ho hown
        go_wp2_with fail
        with_reducible refine HFR.out.mono ?_
        rintro e w4 ⟨rfl, hb4⟩
        have H4 := Lib.hid hb4
        clear hb4
        go_wp2_with fail
        have hb5 : Below wr.heap.size wr (w4.alloc (.cells #[.int .i64 0, .string { data := #[] }, .string { data := #[] }] 45)) := (HV.out.1.trans (H4.out.mono HV.out.1.size)).alloc (HV.out.1.trans (H4.out.mono HV.out.1.size)).size _
        have hun : usesB l b = ([], 0) := uses_none HO.out
        have hwn : wrgU l b = none := by unfold wrgU; rw [hun]; rfl
        refine ⟨⟨k + 1, Z, hlk, by go_num, HH.out.2.2.2.1.trans (grow_ofB hb5 _), HH.out.2.2.2.2.1.below hb5, HH.out.2.2.2.2.2.1, fun i b' hi hb' => ?_, fun i hi hin => HH.out.2.2.2.2.2.2.2 i (by omega) hin, HH.out.2.1 hwn⟩, by simp [intOf]; omega⟩
        rcases Nat.lt_succ_iff_lt_or_eq.1 hi with h1 | rfl
        · obtain ⟨v, e1, e2, e3⟩ := HH.out.2.2.2.2.2.2.1 i b' h1 hb'
          exact ⟨v, e1, e2.below hb5, e3⟩
        · rw [HH2.out.2.2.1] at hb'
          injection hb' with hb'
          rw [← hb', hun]
          exact ⟨nilS, HH.out.2.2.2.2.2.2.2 i (Nat.le_refl _) hlk, RowN.none _, nil_own _⟩
      | some f =>
        have hfm : f ∈ b.2.2 := List.mem_of_find?_eq_some ho
        have hfl := (hf b hbm).2.2 f hfm
        have hkl := (hf b hbm).1
        rw [ho] at HFR hown
        dsimp only [Option.isSome_some, fdO] at HFR
        have hus := uses_some (l := l) hown
        have hat : atUse b = f.1 := by unfold atUse; rw [hown]
        have HTo := Lib.hid (fun W h1 h2 => templatesOf_any ps mb (.slice (some ad) n c) (.slice (some ⟨g + 1, 0, none⟩) n n) x3 x4 l b.2.1 f.2.2 W h1 h2 hkl hfl (by rw [hn]; exact hl))
        unfold ToE at HTo
        rw [← hus] at HTo
        obtain ⟨FV, hFV⟩ : ∃ x, str f.2.2 = x := ⟨_, rfl⟩
        obtain ⟨FN, hFN⟩ : ∃ x, str f.2.1 = x := ⟨_, rfl⟩
        rw [hFV] at HFR
        rw [hKD, hFV] at HTo
        rw [hFN] at HFR
        have hwU : wrgU l b = if (usesB l b).2 ≠ 0 then some (f.1, (usesB l b).2) else none := by unfold wrgU; rw [hat]
        obtain ⟨U, hU⟩ : ∃ U, usesB l b = U := ⟨_, rfl⟩
        rw [hU] at HTo hwU
        have HU := Lib.hid (And.intro hU hwU)
        clear ho hFV hFN hfm hfl hkl hown hus hat hU hwU
        go_wp2_with fail
        with_reducible refine HFR.out.mono ?_
        rintro e w4 ⟨rfl, hb4⟩
        obtain ⟨w5, hw5⟩ : ∃ x, w4.alloc (.cells #[.int .i64 f.1, .string FN, .string FV] 45) = x := ⟨_, rfl⟩
        have hb5 : Below v1.heap.size v1 w5 := by rw [← hw5]; exact hb4.alloc hb4.size _
        have h5 : w5.heap[w4.heap.size]? = some (.cells #[.int .i64 f.1, .string FN, .string FV] 45 (0, 0)) := by rw [← hw5]; exact (MapKept.heap_alloc w4 _).1
        have f2 := cell9_blk h5 2 rfl
        have d1 := cell9_blk ((hb5.block _ (blk9_lt HV.out.2.1)).trans HV.out.2.1) 1 rfl
        have H5 := Lib.hid (And.intro (HV.out.1.trans (hb5.mono HV.out.1.size)) h5)
        clear hb4 hb5 h5
        go_wp2_with fail
        with_reducible refine (HTo.out _ ((H5.out.1.block ps (by omega)).trans HH2.out.1) (HH2.out.2.1.below H5.out.1)).mono ?_
        rintro e w6 ⟨v6, rfl, hrow6, hb6, hown6⟩
        have hb06 := H5.out.1.trans (hb6.mono H5.out.1.size)
        by_cases hU0 : U.2 = 0
        · obtain ⟨A6, c6, rfl, hA6, hC6, hR6⟩ := hrow6
          have hs6 : SlcB (g + 1) Z w6 := HH.out.2.2.2.2.1.below hb06
          have e2 := cell9_blk ((hb06.block ps (by omega)).trans HH2.out.1) 2 rfl
          have hZk := HH.out.2.2.2.2.2.2.2 k (Nat.le_refl _) hlk
          have l6 := hs6.load hZk
          have y6 := hs6.frz k
          rw [hU0, errE_zero]
          have hU1 : wrgU l b = none := by rw [HU.out.2, if_neg (by simp [hU0])]
          obtain ⟨m6, hm6⟩ : ∃ m, U.1.length = m := ⟨_, rfl⟩
          rw [hm6] at hown6 hA6 ⊢
          have H6 := Lib.hid (And.intro hs6 (And.intro hb06 (And.intro hU1 (And.intro hown6 (And.intro hR6 (And.intro hA6 (And.intro hC6 hm6)))))))
          unfold nilS at l6
          clear hs6 hb06 hU1 hown6 hR6 hA6 hC6 hm6 hb6 hZk
          go_wp2_with fail
          have hb06 := H6.out.2.1
          have hs06 := hb06.size
          have hset : ∀ i, i ≠ g + 1 → (w6.setCell ⟨g + 1, k, none⟩ (.slice A6 m6 c6)).heap[i]? = w6.heap[i]? := fun i hi => Below.heap_setCell _ _ _ _ hi
          have hgrow : w2.grownBy (w6.setCell ⟨g + 1, k, none⟩ (.slice A6 m6 c6)) (some (g + 1)) := by
            have h1 := HH.out.2.2.2.1.trans (grow_ofB hb06 (some (g + 1)))
            refine ⟨h1.os, h1.tape, h1.output, by have := h1.size; simpa [World.setCell] using this, fun i hi him => ?_⟩
            rw [hset i (fun e => him (by rw [e]))]
            exact h1.block i hi him
          refine ⟨⟨k + 1, Z.set k (.slice A6 m6 c6), hlk, by go_num, hgrow, H6.out.1.set k, by rw [List.length_set]; exact HH.out.2.2.2.2.2.1, fun i b' hi hb' => ?_, fun i hi hin => ?_, HH.out.2.1 H6.out.2.2.1⟩, by simp [intOf]; omega⟩
          · rcases Nat.lt_succ_iff_lt_or_eq.1 hi with h1 | rfl
            · obtain ⟨v, e1, e2, e3⟩ := HH.out.2.2.2.2.2.2.1 i b' h1 hb'
              refine ⟨v, by rw [List.getElem?_set_ne (by omega)]; exact e1, rowN_kept (e2.below hb06) fun g' hg' => hset g' (by have := e3 g' hg'; omega), e3⟩
            · rw [HH2.out.2.2.1] at hb'
              injection hb' with hb'
              rw [← hb', HU.out.1]
              have hown : ∀ g', (Value.slice A6 m6 c6).ownBlock = some g' → g + 2 ≤ g' := fun g' hg' => by
                have h1 := H6.out.2.2.2.1 g' hg'
                have h2 := H5.out.1.size
                omega
              refine ⟨.slice A6 m6 c6, by rw [List.getElem?_set_self (by rw [HH.out.2.2.2.2.2.1]; exact hlk)], rowN_kept (W := w6) ⟨A6, c6, by rw [H6.out.2.2.2.2.2.2.2], by rw [H6.out.2.2.2.2.2.2.2]; exact H6.out.2.2.2.2.2.1, H6.out.2.2.2.2.2.2.1, H6.out.2.2.2.2.1⟩ (fun g' hg' => hset g' (by have := hown g' hg'; omega)), hown⟩
          · rw [List.getElem?_set_ne (by omega)]
            exact HH.out.2.2.2.2.2.2.2 i (by omega) hin
        · have heE : errE U.2 = errK (U.2 : Nat) := if_neg hU0
          have hU1 : wrgU l b = some (f.1, U.2) := by rw [HU.out.2, if_pos hU0]
          obtain rfl : R = some (f.1, U.2) := by rw [← HRR.out]; exact HH.out.1 _ hU1
          rw [heE]
          have HWr := Lib.hid (fun W h => wrong_any f.1 (U.2 : Nat) W h)
          unfold errK at HWr ⊢
          obtain ⟨A6, c6, rfl, _, _, _⟩ := hrow6
          have f0 := cell9_blk ((hb6.block _ (blk9_lt H5.out.2)).trans H5.out.2) 0 rfl
          have hE6 : Below W0.heap.size W0 w6 := (grown_belowW HW.out.2.2.1 HH2.out.2.2.2 (fun k e => by injection e with e; omega)).trans (hb06.mono (by have := (grown_belowW HW.out.2.2.1 HH2.out.2.2.2 (fun k e => by injection e with e; omega)).size; exact this))
          have hg6 := (hb06.block g (by omega)).trans HH.out.2.2.1
          have H6 := Lib.hid (And.intro hb06 (And.intro hE6 hg6))
          clear hb6 hb06 hE6 hg6 heE hU1 hown6 HRR hU0
          go_wp2_with fail
          with_reducible refine (HWr.out _ (HW.out.2.2.2.2.2.below H6.out.2.1)).mono ?_
          rintro e w7 ⟨rfl, hb7⟩
          have hg7 := (hb7.block g (blk9_lt H6.out.2.2)).trans H6.out.2.2
          have z0 := cell9_blk hg7 0 rfl
          have z1 := cell9_blk hg7 1 rfl
          have y0 := frz9_blk hg7 0
          have y1 := frz9_blk hg7 1
          have H7 := Lib.hid (And.intro hg7 (H6.out.1.trans (hb7.mono H6.out.1.size)))
          clear hb7 hg7
          unfold plV
          go_wp2_with fail
          refine bodyPost_ret (results_cellO rfl _ _ g _ #[.int .i64 f.1, .int .i64 (U.2 : Nat)] (0, 0) _ rfl (set2P H7.out.1) Tryz.underlying29 rfl (by kernel_rfl)) rfl ?_
          exact ⟨rfl, grown_set2' HH2.out.2.2.2 H7.out.2 (by omega), fun h => by cases h⟩
    · obtain rfl : k = n := by omega
      have hfin : fstB (fun _ => wrgU l) 0 l = none := fstB_none l 0 (fun j c hc => hno j c (by have := (List.getElem?_eq_some_iff.1 hc).1; omega) hc)
      obtain rfl : R = none := by rw [← HRR.out]; exact hfin
      have HF := Lib.hid (And.intro hSB (And.intro hZl (And.intro hrows (And.intro hGr (And.intro hSr hgw)))))
      clear hfin hno hGr hSr hSB hrows hrest hgw hgr hgblk HRR
      go_wp2_with fail
      with_reducible refine (right_any _).mono ?_
      rintro e w8 ⟨rfl, hb8⟩
      have h8 := (hb8.block g (by omega)).trans HF.out.2.2.2.1
      have z0 := cell9_blk h8 0 rfl
      have z1 := cell9_blk h8 1 rfl
      have y0 := frz9_blk h8 0
      have y1 := frz9_blk h8 1
      have H8 := Lib.hid (And.intro h8 hb8)
      clear h8 hb8
      unfold plV
      go_wp2_with fail
      refine bodyPost_ret (results_cellO rfl _ _ g _ #[.int .i64 0, .int .i64 0] (0, 0) _ rfl (set2P H8.out.1) Tryz.underlying29 rfl (by kernel_rfl)) rfl ?_
      have h9 : SlcB (g + 1) Z ((w8.setCell ⟨g, 0, none⟩ (.int .i64 0)).setCell ⟨g, 1, none⟩ (.int .i64 0)) := by
        have h := HF.out.1.below H8.out.2
        exact ⟨(set2_other (by omega)).trans h.1, h.2⟩
      refine ⟨rfl, grown_set2' HF.out.2.2.2.2.2 H8.out.2 (by omega), g + 1, by omega, ?_, Z, h9, HF.out.2.1, ?_⟩
      · rw [set2_other hpg]
        exact (H8.out.2.block ps (by omega)).trans HF.out.2.2.2.2.1
      · intro i a0 a1 a2 hb
        obtain ⟨v, e1, e2, e3⟩ := HF.out.2.2.1 i (a0, a1, a2) (by have := (List.getElem?_eq_some_iff.1 hb).1; omega) hb
        exact ⟨v, e1, rowN_kept (e2.below H8.out.2) fun g' hg' => set2_other (by have := e3 g' hg'; omega)⟩
end Go.Proofs.YthnogakjaaopkaaGreatDoor
/- Contract: lookForLoops. -/
namespace Go.Proofs.YthnogakjaaopkaaGreatDoor
open Go.RowKit

/-- The templates as they lie behind the second look. -/
def TmZ (w : World) (bt : Nat) (Z : List Value) (l : List MB) : Prop := SlcB bt Z w ∧ Z.length = l.length ∧ ∀ (i : Nat) (b : MB), l[i]? = some b → ∃ v, Z[i]? = some v ∧ RowN w v (usesB l b).1
theorem TmZ.tm {w : World} {bt : Nat} {Z : List Value} {l : List MB} {n : Nat} (h : TmZ w bt Z l) (hn : l.length = n) : TmR w (.slice (some ⟨bt, 0, none⟩) n n) (edg l) n := by
  subst hn
  refine ⟨_, Z, rfl, ?_, h.2.1, fun i v hv => ?_⟩
  · have := Rd.block h.1.1
    exact this
  · have hi := (List.getElem?_eq_some_iff.1 hv).1
    rw [h.2.1] at hi
    obtain ⟨v', e1, e2⟩ := h.2.2 i l[i] (List.getElem?_eq_getElem hi)
    rw [hv] at e1
    injection e1 with e1
    rw [e1, edg_at (List.getElem?_eq_getElem hi)]
    exact e2
theorem fdO_at (o : Option MF) : ∃ S1 S2, fdO o = #[.int .i64 (match o with | some f => f.1 | none => 0), .string S1, .string S2] := by
  cases o with
  | none => exact ⟨_, _, rfl⟩
  | some f => exact ⟨_, _, rfl⟩
set_option maxRecDepth 100000 in
set_option maxHeartbeats 4000000 in
theorem lookLoops_any (W0 : World) (ps mb bt : Nat) (lv x3 x4 : Value) (Z : List Value) (l : List MB) (n : Nat) (w : World) (hn : l.length = n) (hl : n ≤ 1000000) (hf : ∀ b ∈ l, b.2.2.length ≤ 1000000)
    (hbel : Below W0.heap.size W0 w) (_ : W0.heap.size ≤ ps) (hE : ErrT W0) (hv : RowB W0 lv l) (hS : w.heap[ps]? = some (.cells #[lv, .map (some mb), .slice (some ⟨bt, 0, none⟩) n n, x3, x4] 67 (0, 0))) (hZ : TmZ w bt Z l) :
    Calls Tryz.prog 29 #[.pointer (some ⟨ps, 0, none⟩)] w fun e w' => LkE (fstB (wrgL l) 0 l) e ∧ w.grownBy w' (some ps) ∧
      (fstB (wrgL l) 0 l = none → ∃ rv R, w'.heap[ps]? = some (.cells #[lv, .map (some mb), .slice (some ⟨bt, 0, none⟩) n n, rv, x4] 67 (0, 0)) ∧ RowN w' rv R ∧ WaR (edg l) n R (fun _ => false) ∧ ∀ g, rv.ownBlock = some g → w.heap.size ≤ g) := by
  obtain ⟨A, c, rfl, hr⟩ := hv.form
  rw [hn] at hr hS
  obtain ⟨g, hg⟩ : ∃ g, w.heap.size = g := ⟨_, rfl⟩
  obtain ⟨w1, hw1⟩ : ∃ x, w.alloc (.cells #[.int .i64 0, .int .i64 0] 29) = x := ⟨_, rfl⟩
  have hb1 : Below w.heap.size w w1 := by rw [← hw1]; exact (Below.refl _ _).alloc (Nat.le_refl _) _
  have b0 : w1.heap[g]? = some (.cells #[.int .i64 0, .int .i64 0] 29 (0, 0)) := by
    rw [← hw1, ← hg]
    exact (MapKept.heap_alloc w _).1
  have hS1 := (hb1.block ps (blk9_lt hS)).trans hS
  have hZ1 : TmZ w1 bt Z l := ⟨hZ.1.below hb1, hZ.2.1, fun i b hb => by
    obtain ⟨v, e1, e2⟩ := hZ.2.2 i b hb
    exact ⟨v, e1, e2.below hb1⟩⟩
  have s2 := cell9_blk hS1 2 rfl
  have hE2 : ∀ v, v < n → ∀ j ∈ edg l v, j < n := fun v _ j hj => by rw [← hn]; exact edg_lt hj
  have HWa := Lib.hid (walkAll_any (.slice (some ⟨bt, 0, none⟩) n n) (edg l) n w1 hl (hZ1.tm hn) hE2 (fun v _ => edg_len l v))
  have HW := Lib.hid (And.intro hb1 (And.intro b0 (And.intro hbel (And.intro hr (And.intro hE hS1)))))
  have hpw := blk9_lt hS
  obtain ⟨R0, hRR⟩ : ∃ R, fstB (wrgL l) 0 l = R := ⟨_, rfl⟩
  rw [hRR]
  have HRR := Lib.hid hRR
  have hs1 : w1.heap.size = g + 1 := by rw [← hw1]; simp [hg]
  clear hRR hS hv hE hS1 hb1 hZ hZ1 hE2
  go_enter Tryz.func29, Tryz.ntmps29
  go_wp2_with fail
  with_reducible refine HWa.out.mono ?_
  rintro e w2 ⟨rv, bl, R, p, rfl, hrow, hbo, hwa, hb2, hown⟩
  obtain ⟨AR, cR, rfl, hAR, hCR, hRR⟩ := hrow
  have hrdT : Rd w2 (some ⟨bl, 0, none⟩) (((List.range n).map p).map Value.bool) := by
    have := Rd.block hbo
    exact this
  have HIx := Lib.hid (indexT_any (some ⟨bl, 0, none⟩) n ((List.range n).map p) n w2 (by simp) hl hrdT)
  obtain ⟨r, hr9⟩ : ∃ r, R.length = r := ⟨_, rfl⟩
  rw [hr9] at hAR hown ⊢
  have H2 := Lib.hid (And.intro hb2 (And.intro hwa (And.intro hown (And.intro hRR (And.intro hAR (And.intro hCR hr9))))))
  clear hrdT hbo hb2 hwa hown hRR hAR hCR hr9
  go_wp2_with fail
  with_reducible refine HIx.out.mono ?_
  rintro e w3 ⟨rfl, ⟨i, rfl, hi, hno⟩ | ⟨rfl, hno⟩⟩
  · have hin : i < n := by have := (List.getElem?_eq_some_iff.1 hi).1; simpa using this
    have hil : i < l.length := by omega
    obtain ⟨b, hb⟩ : ∃ b, l[i]? = some b := ⟨_, List.getElem?_eq_getElem hil⟩
    have hbm : b ∈ l := List.mem_of_getElem? hb
    have hpi : ∀ j, j < n → ∀ x, ((List.range n).map p)[j]? = some x → p j = x := fun j hj x h => by
      rw [List.getElem?_map, List.getElem?_range hj] at h
      simpa using h
    have hwy : Wy (edg l) i i := (H2.out.2.1.lp i hin).1 (hpi i hin true hi)
    have hnw : ∀ j, j < i → ¬ Wy (edg l) j j := fun j hj h => by
      have h1 := (H2.out.2.1.lp j (by omega)).2 h
      have h2 := hpi j (by omega) false (hno j hj)
      rw [h1] at h2
      cases h2
    have hfst : fstB (wrgL l) 0 l = some (atUse b, 9) := fstB_hit l 0 i b hb (by rw [Nat.zero_add]; exact if_pos hwy) (fun j c hj hc => by rw [Nat.zero_add]; exact if_neg (hnw j hj))
    have hR0 : R0 = some (atUse b, 9) := by rw [← HRR.out]; exact hfst
    have hbw3 : Below W0.heap.size W0 w3 := (HW.out.2.2.1.trans (HW.out.1.mono HW.out.2.2.1.size)).trans (H2.out.1.mono (by have h1 := HW.out.2.2.1.size; have h2 := HW.out.1.size; omega))
    obtain ⟨ad, X, vF, rfl, hX, k0', k1', k2', hrf⟩ := HW.out.2.2.2.1.parts.2.2.2 i hin b hb
    have k0 := cell9_below k0' hbw3
    have k1 := cell9_below k1' hbw3
    have k2 := cell9_below k2' hbw3
    clear k0' k1' k2'
    have hFR := find_any b.1 (str b.2.1) vF b.2.2 nmU w3 (hf b hbm) (hrf.below hbw3)
    have e0 : str nmU = { data := #[117, 115, 101] } := rfl
    rw [e0] at hFR
    unfold OwE at hFR
    obtain ⟨A3, c3, hvF, _⟩ := hrf.form
    have hat : atUse b = (match b.2.2.find? (fun f => f.2.1 == nmU) with | some f => f.1 | none => 0) := rfl
    obtain ⟨S1, S2, hfd⟩ := fdO_at (b.2.2.find? fun f => f.2.1 == nmU)
    rw [hfd, ← hat] at hFR
    obtain ⟨KD, hKD⟩ : ∃ x, str b.2.1 = x := ⟨_, rfl⟩
    rw [hKD] at k1 hFR
    obtain ⟨at9, hat9⟩ : ∃ x, atUse b = x := ⟨_, rfl⟩
    rw [hat9] at hFR hR0
    have HR0 := Lib.hid hR0
    obtain ⟨ob, hob⟩ : ∃ x, (b.2.2.find? fun f => f.2.1 == nmU).isSome = x := ⟨_, rfl⟩
    rw [hob] at hFR
    have HFR := Lib.hid hFR
    have s0 := cell9_blk ((H2.out.1.block ps (by omega)).trans HW.out.2.2.2.2.2) 0 rfl
    have HWr := Lib.hid (fun W h => wrong_any at9 9 W h)
    unfold errK at HWr
    have HB3 := Lib.hid hbw3
    have r0 : (0 : Int) ≤ i := by omega
    have r1 : (i : Int) < n := by omega
    clear hFR hwy hnw hfst hat hfd hob hat9 hpi hi hno hrf hbw3 HRR hR0
    subst hvF
    go_wp2_with fail
    with_reducible refine HFR.out.mono ?_
    rintro e w4 ⟨rfl, hb4⟩
    obtain ⟨w5, hw5⟩ : ∃ x, w4.alloc (.cells #[.int .i64 at9, .string S1, .string S2] 45) = x := ⟨_, rfl⟩
    have hb5 : Below w3.heap.size w3 w5 := by rw [← hw5]; exact hb4.alloc hb4.size _
    have h5 : w5.heap[w4.heap.size]? = some (.cells #[.int .i64 at9, .string S1, .string S2] 45 (0, 0)) := by rw [← hw5]; exact (MapKept.heap_alloc w4 _).1
    have f0 := cell9_blk h5 0 rfl
    have H5 := Lib.hid hb5
    have HW5 := Lib.hid hw5
    clear hb4 hb5 h5 hw5
    go_wp2_with fail
    rw [HW5.out]
    go_wp2_with fail
    with_reducible refine (HWr.out _ (HW.out.2.2.2.2.1.below (HB3.out.trans (H5.out.mono HB3.out.size)))).mono ?_
    rintro e w7 ⟨rfl, hb7⟩
    have hb17 : Below w1.heap.size w1 w7 := (H2.out.1.trans (H5.out.mono H2.out.1.size)).trans (hb7.mono (by have h1 := H2.out.1.size; have h2 := H5.out.size; omega))
    have hg7 := (hb17.block g (by omega)).trans HW.out.2.1
    have z0 := cell9_blk hg7 0 rfl
    have z1 := cell9_blk hg7 1 rfl
    have y0 := frz9_blk hg7 0
    have y1 := frz9_blk hg7 1
    have H7 := Lib.hid (And.intro hg7 hb17)
    clear hb7 hg7 hb17
    unfold plV
    go_wp2_with fail
    refine bodyPost_ret (results_cellO rfl _ _ g _ #[.int .i64 at9, .int .i64 9] (0, 0) _ rfl (set2P H7.out.1) Tryz.underlying29 rfl (by kernel_rfl)) rfl ?_
    rw [HR0.out]
    exact ⟨rfl, grown_set2' (grow_ofB (HW.out.1.trans (H7.out.2.mono HW.out.1.size)) _) (Below.refl _ _) (by omega), fun h => by cases h⟩
  · have hpi : ∀ v, v < n → p v = false := fun j hj => by
      have h := hno j hj
      rw [List.getElem?_map, List.getElem?_range hj] at h
      simpa using h
    have hnw : ∀ v, v < n → ¬ Wy (edg l) v v := fun v hv h => by
      have h1 := (H2.out.2.1.lp v hv).2 h
      rw [hpi v hv] at h1
      cases h1
    have hfst : fstB (wrgL l) 0 l = none := fstB_none l 0 (fun j c hc => by rw [Nat.zero_add]; exact if_neg (hnw j (by have := (List.getElem?_eq_some_iff.1 hc).1; omega)))
    have hR0 : R0 = none := by rw [← HRR.out]; exact hfst
    have hwf : WaR (edg l) n R (fun _ => false) := ⟨fun v hv => ⟨fun h => (by cases h), fun h => absurd h (hnw v hv)⟩, H2.out.2.1.ord, H2.out.2.1.all, H2.out.2.1.len⟩
    have HR0 := Lib.hid (And.intro hR0 hwf)
    have hS3 := (H2.out.1.block ps (by omega)).trans HW.out.2.2.2.2.2
    have s3 := cell9_blk hS3 3 rfl
    have y3 := frz9_blk hS3 3
    have hb03 := HW.out.1.trans (H2.out.1.mono HW.out.1.size)
    have HS3 := Lib.hid (And.intro hS3 hb03)
    clear hno hpi hnw hfst hR0 hwf HRR hS3 hb03
    go_wp2_with fail
    with_reducible refine (right_any _).mono ?_
    rintro e w8 ⟨rfl, hb8⟩
    have hg3 := (H2.out.1.block g (by omega)).trans HW.out.2.1
    have hset : ∀ i, i ≠ ps → (w3.setCell ⟨ps, 3, none⟩ (.slice AR r cR)).heap[i]? = w3.heap[i]? := fun i hi => Below.heap_setCell _ _ _ _ hi
    have hsz9 : (w3.setCell ⟨ps, 3, none⟩ (.slice AR r cR)).heap.size = w3.heap.size := by simp [World.setCell]
    have h13 := H2.out.1.size
    have h8 := (hb8.block g (by rw [hsz9]; omega)).trans ((hset g (by omega)).trans hg3)
    have z0 := cell9_blk h8 0 rfl
    have z1 := cell9_blk h8 1 rfl
    have y0 := frz9_blk h8 0
    have y1 := frz9_blk h8 1
    have H8 := Lib.hid (And.intro h8 (And.intro hb8 hset))
    clear h8 hb8 hset hg3
    unfold plV
    go_wp2_with fail
    refine bodyPost_ret (results_cellO rfl _ _ g _ #[.int .i64 0, .int .i64 0] (0, 0) _ rfl (set2P H8.out.1) Tryz.underlying29 rfl (by kernel_rfl)) rfl ?_
    rw [HR0.out.1]
    have hgr : w.grownBy (w3.setCell ⟨ps, 3, none⟩ (.slice AR r cR)) (some ps) := ⟨HS3.out.2.os, HS3.out.2.tape, HS3.out.2.output, by rw [hsz9]; exact HS3.out.2.size, fun k hk hkp => (H8.out.2.2 k (fun e => hkp (by rw [e]))).trans (HS3.out.2.block k hk)⟩
    have hown' : ∀ g', (Value.slice AR r cR).ownBlock = some g' → w.heap.size ≤ g' ∧ g' ≠ g ∧ g' ≠ ps := fun g' hg' => by
      have h1 := H2.out.2.2.1 g' hg'
      omega
    refine ⟨rfl, grown_set2' hgr H8.out.2.1 (by omega), fun _ => ⟨.slice AR r cR, R, ?_, ?_, HR0.out.2, fun g' hg' => (hown' g' hg').1⟩⟩
    · rw [set2_other (by omega)]
      refine (H8.out.2.1.block ps (by rw [hsz9]; omega)).trans ?_
      rw [heap_setCell_same _ ps 3 _ _ _ HS3.out.1, hn]
      rfl
    · have hrow : RowN w3 (.slice AR r cR) R := by
        have h := H2.out.2.2.2
        exact ⟨AR, cR, by rw [h.2.2.2], by rw [h.2.2.2]; exact h.2.1, h.2.2.1, h.1⟩
      have hrow2 : RowN (w3.setCell ⟨ps, 3, none⟩ (.slice AR r cR)) (.slice AR r cR) R := rowN_kept hrow fun g' hg' => H8.out.2.2 g' (hown' g' hg').2.2
      exact rowN_kept (hrow2.below H8.out.2.1) fun g' hg' => set2_other (hown' g' hg').2.1
end Go.Proofs.YthnogakjaaopkaaGreatDoor

/- Contract: tableOf. -/
import Derived.Test.YthnogakjaaopkaaGreatDoorIhCB
import Derived.Test.YthnogakjaaopkaaGreatDoorShelfI
namespace Go.Proofs.YthnogakjaaopkaaGreatDoor
open Go.RowKit Go.Shelf
attribute [local go_sem] Oper.semAt_some

set_option maxRecDepth 100000 in
theorem backN_any (A : Option Addr) (m c : Nat) (w : World) : Calls Tryz.prog 69 #[.slice A m c] w fun e w' => e = .returned (.func (.func 89) #[] #[.pointer (some ⟨w.heap.size, 0, none⟩)]) ∧ Below w.heap.size w w' ∧ Bx w' w.heap.size 64 (.slice A m c) := by
  have h1 := (Below.refl w.heap.size w).alloc (Nat.le_refl _) (.cells #[.slice A m c] 64)
  have h2 := Bx.new w 64 (.slice A m c)
  have HB := Lib.hid (And.intro h1 h2)
  clear h1 h2
  go_enter Tryz.func69, Tryz.ntmps69
  go_wp2_with fail
  go_ret
  exact ⟨rfl, HB.out⟩
set_option maxRecDepth 100000 in
theorem backF_any (A : Option Addr) (m c : Nat) (w : World) : Calls Tryz.prog 71 #[.slice A m c] w fun e w' => e = .returned (.func (.func 90) #[] #[.pointer (some ⟨w.heap.size, 0, none⟩)]) ∧ Below w.heap.size w w' ∧ Bx w' w.heap.size 46 (.slice A m c) := by
  have h1 := (Below.refl w.heap.size w).alloc (Nat.le_refl _) (.cells #[.slice A m c] 46)
  have h2 := Bx.new w 46 (.slice A m c)
  have HB := Lib.hid (And.intro h1 h2)
  clear h1 h2
  go_enter Tryz.func71, Tryz.ntmps71
  go_wp2_with fail
  go_ret
  exact ⟨rfl, HB.out⟩
theorem cutPre_any (l : Tx) (w : World) : Calls Tryz.prog 72 #[.string (str l), .string (str [43])] w fun e w' => e = .returned (.tuple #[.string (str (if l.head? = some 43 then l.tail else l)), .bool (decide (l.head? = some 43))]) ∧ w' = w := by
  have h := Any.strings_CutPrefix Tryz.cutPreL (str l) (str [43]) w
  refine Calls.mono h ?_
  rintro e w' ⟨rfl, rfl⟩
  refine ⟨?_, rfl⟩
  cases l with
  | nil => rfl
  | cons a l =>
    by_cases ha : a = 43
    · subst ha
      simp [str, Lib.trimPrefix, Lib.hasPrefix]
    · have hb : ¬ (43 : UInt8) = a := fun h => ha h.symm
      simp [str, Lib.trimPrefix, Lib.hasPrefix, ha, hb, List.isPrefixOf]
/-- All fields' names. -/
def allN (l : List MB) : List Tx := l.flatMap fun b => b.2.2.map fun f => f.2.1
theorem gotP_allN {l : List MB} (h : ¬ Cyc (edg l)) {k : Tx} {i : Nat} {f : MF} (hi : i < l.length) (hf : gotP l k i = some f) : k ∈ allN l := by
  obtain ⟨_, _, c, hc, g, hg, e, _⟩ := gotP_name h hi hf
  exact List.mem_flatMap.2 ⟨c, hc, List.mem_map.2 ⟨g, hg, e⟩⟩
theorem fstS_some {α : Type} {L : List (Option α)} {a : α} (h : fstS L = some a) : some a ∈ L := fstS_mem h
/-- What is put together does not grow without end. -/
theorem gotP_len {l : List MB} (h : ¬ Cyc (edg l)) {M : Nat} (hM : ∀ b ∈ l, ∀ f ∈ b.2.2, f.2.2.length ≤ M) {k : Tx} : ∀ (m i : Nat) (f : MF), rkG (edg l) l.length i < m → i < l.length → gotP l k i = some f → f.2.2.length ≤ 4097 + M := by
  intro m
  induction m with
  | zero => intro i f hm; omega
  | succ m ih =>
    intro i f hm hi hf
    have hb : l[i]? = some l[i] := List.getElem?_eq_getElem hi
    rw [gotP_eq h k hb] at hf
    split at hf
    · cases hf
    · have hg : ∀ g, fstS ((edg l i).map (gotP l k)) = some g → g.2.2.length ≤ 4097 + M := fun g hg => by
        obtain ⟨j, hj, hj2⟩ := List.mem_map.1 (fstS_mem hg)
        have := rkG_lt h hj (edg_lt hj)
        exact ih j g (by omega) (edg_lt hj) hj2
      cases ho : ownF l[i] k with
      | none =>
        rw [ho] at hf
        exact hg f hf
      | some g =>
        have hgl := hM _ (List.getElem_mem hi) g (ownF_name ho).2
        rw [ho] at hf
        unfold ownP at hf
        simp only at hf
        split at hf
        · cases hf
        · split at hf
          · have e := Option.some.inj hf
            subst e
            dsimp only
            have htl : g.2.2.tail.length ≤ M := by rw [List.length_tail]; omega
            unfold joinP
            split
            · omega
            · split
              · cases hF : fstS ((edg l i).map (gotP l k)) with
                | none => simp [valF]
                | some g' => exact hg g' hF
              · rename_i hlong
                have : ¬ 4096 < (valF (fstS ((edg l i).map (gotP l k)))).length := fun h9 => hlong (.inr h9)
                rw [List.length_append, List.length_cons]
                omega
          · have e := Option.some.inj hf
            subst e
            omega
/-- Behind the own fields from m on. -/
def fldP (fs : List MF) (gv : Tx → Option MF) (m : Nat) (k : Tx) : Option MF := ownP ((fs.drop m).find? fun f => f.2.1 == k) (gv k)
theorem fldP_start (fs : List MF) (gv : Tx → Option MF) (m : Nat) (hm : fs.length ≤ m) : fldP fs gv m = gv := by
  funext k
  unfold fldP
  rw [List.drop_eq_nil_of_le hm]
  rfl
theorem fldP_step {fs : List MF} {gv : Tx → Option MF} {m : Nat} {f : MF} (hf : fs[m]? = some f) (k : Tx) : fldP fs gv m k = if k = f.2.1 then (if f.2.2 = nmZ then none else if f.2.2.head? = some 43 then some (f.1, f.2.1, joinP (valF (gv k)) f.2.2.tail) else some f) else fldP fs gv (m + 1) k := by
  obtain ⟨hm, hfm⟩ := List.getElem?_eq_some_iff.1 hf
  unfold fldP
  rw [List.drop_eq_getElem_cons hm, hfm, List.find?_cons]
  by_cases e : k = f.2.1
  · subst e
    rw [if_pos rfl]
    simp [ownP]
  · rw [if_neg e]
    have e2 : (f.2.1 == k) = false := beq_eq_false_iff_ne.2 (Ne.symm e)
    rw [e2]
/-- What the two loops of tableOf keep: all that lay ahead of them, the boxes, the map. -/
structure TfI (w : World) (g : Nat) (pv iv : Value) (fn : Tx → Option MF) (S : Nat → Prop) (V : World) : Prop where
  bel : Below g w V
  b0 : Bx V g 56 pv
  b1 : Bx V (g + 1) 3 iv
  b3 : Bx V (g + 3) 61 (.map (some (g + 2)))
  tab : TabP V (g + 2) fn
  low : ∀ k, S k → g + 4 ≤ k
  big : g + 4 ≤ V.heap.size
theorem TfI.turned {w V V' : World} {g : Nat} {pv iv : Value} {fn : Tx → Option MF} {S T : Nat → Prop} (h : TfI w g pv iv fn S V) (ht : Turns S T V V') : TfI w g pv iv fn T V' where
  bel := ⟨ht.os.trans h.bel.os, ht.tape.trans h.bel.tape, ht.output.trans h.bel.output, Nat.le_trans h.bel.size ht.size, fun k hk => (ht.same k (by have := h.big; omega) (fun hs => by have := h.low k hs; omega)).trans (h.bel.block k hk)⟩
  b0 := h.b0.turned ht fun hs => by have := h.low _ hs; omega
  b1 := h.b1.turned ht fun hs => by have := h.low _ hs; omega
  b3 := h.b3.turned ht fun hs => by have := h.low _ hs; omega
  tab := h.tab.block (ht.same _ (by have := h.big; omega) fun hs => by have := h.low _ hs; omega)
  low := fun k hk => by
    rcases ht.more k hk with h1 | h1
    · exact h.low k h1
    · have := h.big; omega
  big := Nat.le_trans h.big ht.size
theorem TfI.below {w V V' : World} {g : Nat} {pv iv : Value} {fn : Tx → Option MF} {S : Nat → Prop} (h : TfI w g pv iv fn S V) (hb : Below V.heap.size V V') : TfI w g pv iv fn S V' where
  bel := h.bel.trans (hb.mono (by have := h.big; omega))
  b0 := h.b0.below hb
  b1 := h.b1.below hb
  b3 := h.b3.below hb
  tab := h.tab.below hb
  low := h.low
  big := Nat.le_trans h.big hb.size
theorem TfI.map_ {w V V' : World} {g : Nat} {pv iv : Value} {fn fn' : Tx → Option MF} {S : Nat → Prop} (h : TfI w g pv iv fn S V) (hg : V.grownBy V' (some (g + 2))) (ht : TabP V' (g + 2) fn') : TfI w g pv iv fn' S V' where
  bel := ⟨hg.os.trans h.bel.os, hg.tape.trans h.bel.tape, hg.output.trans h.bel.output, Nat.le_trans h.bel.size hg.size, fun k hk => (hg.block k (by have := h.big; omega) (fun e => by injection e with e; omega)).trans (h.bel.block k hk)⟩
  b0 := (hg.block g (by have := h.big; omega) (fun e => by injection e with e; omega)).trans h.b0
  b1 := (hg.block (g + 1) (by have := h.big; omega) (fun e => by injection e with e; omega)).trans h.b1
  b3 := (hg.block (g + 3) (by have := h.big; omega) (fun e => by injection e with e; omega)).trans h.b3
  tab := ht
  low := h.low
  big := Nat.le_trans h.big hg.size
theorem TfI.setP {w V : World} {g : Nat} {pv iv : Value} {fn : Tx → Option MF} {S : Nat → Prop} (h : TfI w g pv iv fn S V) {p : Addr} (hp : g + 4 ≤ p.block) (u : Value) : TfI w g pv iv fn S (V.setCell p u) where
  bel := h.bel.setCell (by omega) u
  b0 := h.b0.other (by omega) u
  b1 := h.b1.other (by omega) u
  b3 := h.b3.other (by omega) u
  tab := h.tab.block (Below.heap_setCell V p u _ (by omega))
  low := h.low
  big := by have := h.big; simpa [World.setCell] using this
theorem set3rd {w : World} {g : Nat} {a b c z : Value} {t : TypeId} (h : w.heap[g]? = some (.cells #[a, b, c] t (0, 0))) : (w.setCell ⟨g, 2, none⟩ z).heap[g]? = some (.cells #[a, b, z] t (0, 0)) :=
  heap_setCell_same w g 2 _ t z h
/-- What the templates from m on give. -/
def tmpP (l : List MB) (js : List Nat) (m : Nat) (k : Tx) : Option MF := fstS ((js.drop m).map (gotP l k))
theorem tmpP_end (l : List MB) (js : List Nat) (m : Nat) (hm : js.length ≤ m) : tmpP l js m = fun _ => none := by
  funext k
  unfold tmpP
  rw [List.drop_eq_nil_of_le hm]
  rfl
theorem tmpP_step {l : List MB} {js : List Nat} {m j : Nat} (hj : js[m]? = some j) : tmpP l js m = fun k => (gotP l k j).or (tmpP l js (m + 1) k) := by
  obtain ⟨hm, hjm⟩ := List.getElem?_eq_some_iff.1 hj
  funext k
  unfold tmpP
  rw [List.drop_eq_getElem_cons hm, hjm, List.map_cons]
  cases gotP l k j with
  | none => rfl
  | some f => rfl
theorem rev_pos {n : Nat} {pre post : List Nat} {x : Nat} (h : (List.range n).reverse = pre ++ x :: post) : x < n ∧ n - pre.length = x + 1 ∧ n - (pre ++ [x]).length = x := by
  have hl := congrArg List.length h
  simp only [List.length_reverse, List.length_range, List.length_append, List.length_cons] at hl
  have hx : (List.range n).reverse[pre.length]? = some x := by rw [h]; simp
  rw [List.getElem?_reverse (by simp; omega), List.length_range, List.getElem?_range (by omega)] at hx
  injection hx with hx
  rw [List.length_append, List.length_singleton]
  omega
set_option maxRecDepth 100000 in
set_option maxHeartbeats 4000000 in
theorem tableOf_any (ps bt tt n i : Nat) (lv x1 x3 : Value) (Z Zt : List Value) (l : List MB) (D : Nat → Prop) (b : MB) (w : World) (hn : l.length = n) (hl : n ≤ 1000000) (hb : l[i]? = some b) (hS : w.heap[ps]? = some (.cells #[lv, x1, .slice (some ⟨bt, 0, none⟩) n n, x3, .slice (some ⟨tt, 0, none⟩) n n] 67 (0, 0)))
    (hv : RowB w lv l) (hZ : TmZ w bt Z l) (hT : TbS w tt l Zt D) (hD : ∀ j ∈ edg l i, D j) (hc : ¬ Cyc (edg l)) (hf : ∀ b ∈ l, b.2.2.length ≤ 1000000 ∧ ∀ f ∈ b.2.2, f.2.1.length ≤ 1000000 ∧ f.2.2.length ≤ 900000) (hN : (allN l).length ≤ 1000000) :
    Calls Tryz.prog 51 #[.pointer (some ⟨ps, 0, none⟩), .int .i64 (i : Nat)] w fun e w' => ∃ tb, e = .returned (.map (some tb)) ∧ TabP w' tb (fun k => gotP l k i) ∧ Below w.heap.size w w' ∧ w.heap.size ≤ tb := by
  refine (callsIn_wide (n := 0)).1 ?_
  refine callsIn_of_wp_marks Tryz.func51 rfl trivial ?_ rfl
  simp only [Tryz.ntmps51, List.size_toArray, List.length_cons, List.length_nil, Nat.reduceAdd, Nat.reduceSub, Array.replicate_succ, Array.replicate_zero, List.push_toArray, List.append_toArray, List.nil_append, List.cons_append]
  have hmm := @run_makeMap Tryz.prog
  obtain ⟨g, hg⟩ : ∃ g, w.heap.size = g := ⟨_, rfl⟩
  have hg3 : g + 1 + 1 = g + 2 := rfl
  have hg4 : g + 2 + 1 = g + 3 := rfl
  have hi : i < n := by rw [← hn]; exact (List.getElem?_eq_some_iff.1 hb).1
  obtain ⟨V0, hV0⟩ : ∃ x, (((w.alloc (.cells #[.pointer (some ⟨ps, 0, none⟩)] 56)).alloc (.cells #[.int .i64 (i : Nat)] 3)).alloc (.map #[] 0)).alloc (.cells #[.map (some (g + 2))] 61) = x := ⟨_, rfl⟩
  have hbV : Below w.heap.size w V0 := by rw [← hV0]; exact ((((Below.refl _ _).alloc (Nat.le_refl _) _).alloc (by simp) _).alloc (by simp; omega) _).alloc (by simp; omega) _
  have t0 : TfI w g (.pointer (some ⟨ps, 0, none⟩)) (.int .i64 (i : Nat)) (fun _ => none) (fun _ => False) V0 := by
    refine ⟨by rw [← hg]; exact hbV, ?_, ?_, ?_, ?_, fun k hk => hk.elim, by rw [← hV0]; simp [hg]⟩
    · rw [← hV0, ← hg]
      exact (((Bx.new w _ _).alloc _).alloc _).alloc _
    · rw [← hV0, ← hg]
      have h := Bx.new (w.alloc (.cells #[.pointer (some ⟨ps, 0, none⟩)] 56)) 3 (.int .i64 (i : Nat))
      rw [World.size_alloc] at h
      exact (h.alloc _).alloc _
    · rw [← hV0, ← hg]
      have h := Bx.new (((w.alloc (.cells #[.pointer (some ⟨ps, 0, none⟩)] 56)).alloc (.cells #[.int .i64 (i : Nat)] 3)).alloc (.map #[] 0)) 61 (.map (some (w.heap.size + 2)))
      rw [World.size_alloc, World.size_alloc, World.size_alloc] at h
      exact h
    · have h := TabP.made ((w.alloc (.cells #[.pointer (some ⟨ps, 0, none⟩)] 56)).alloc (.cells #[.int .i64 (i : Nat)] 3))
      rw [World.size_alloc, World.size_alloc, hg] at h
      rw [← hV0]
      exact h.below ((Below.refl _ _).alloc (Nat.le_refl _) _)
  have hil : i < l.length := by omega
  have hvZ : ∃ AE cE, Z[i]? = some (.slice AE (edg l i).length cE) ∧ Rd w AE ((edg l i).map intC) := by
    obtain ⟨v, hv, hrow⟩ := hZ.2.2 i b hb
    rw [← edg_at hb] at hrow
    obtain ⟨AE, cE, rfl, _, _, hrE⟩ := hrow
    exact ⟨AE, cE, hv, hrE⟩
  obtain ⟨AE, cE, hZi, hrE⟩ := hvZ
  obtain ⟨js, hjs⟩ : ∃ js, edg l i = js := ⟨_, rfl⟩
  obtain ⟨q, hq⟩ : ∃ q, js.length = q := ⟨_, rfl⟩
  have hq9 : q ≤ 1000000 := by rw [← hq, ← hjs]; exact edg_len l i
  rw [hjs] at hrE hD
  rw [hjs, hq] at hZi
  have hS1 := (hbV.block ps (blk9_lt hS)).trans hS
  have s2 := cell9_blk hS1 2 rfl
  have lz := (hZ.1.below hbV).load hZi
  have b0 := t0.b0.cell
  have b1 := t0.b1.cell
  have HT0 := Lib.hid (And.intro t0 (And.intro hbV (And.intro hS (And.intro hv (And.intro hZ (And.intro hT (And.intro hrE hD)))))))
  have HBk := Lib.hid (backN_any AE q cE)
  have HSS := Lib.hid (And.intro b0 (And.intro b1 (And.intro s2 lz)))
  have HSt : Hid (∀ W, Below V0.drew.heap.size V0.drew W → W.cell? { block := g, off := 0 } = some (.pointer (some { block := ps, off := 0 })) ∧ W.cell? { block := g + 1, off := 0 } = some (.int .i64 (i : Nat)) ∧ W.cell? { block := ps, off := 2 } = some (.slice (some { block := bt, off := 0 }) n n) ∧ W.cell? { block := bt, off := i } = some (.slice AE q cE)) := fun W h => ⟨cell9_below (w := V0.drew) b0 h, cell9_below (w := V0.drew) b1 h, cell9_below (w := V0.drew) s2 h, cell9_below (w := V0.drew) lz h⟩
  have HJs := Lib.hid (And.intro hjs (And.intro hq (And.intro hc hf)))
  have r0 : (0 : Int) ≤ i := by omega
  have r1 : (i : Int) < n := by omega
  clear t0 hbV hS hv hZ hT hrE hD hZi hjs hc hf hS1
  gi_wp2_with fail
  refine wpIn_wide.2 ?_
  go_region_held3 (fun W => W.cell? { block := g, off := 0 } = some (.pointer (some { block := ps, off := 0 })) ∧ W.cell? { block := g + 1, off := 0 } = some (.int .i64 (i : Nat)) ∧ W.cell? { block := ps, off := 2 } = some (.slice (some { block := bt, off := 0 }) n n) ∧ W.cell? { block := bt, off := i } = some (.slice AE q cE)) (first | exact HSS.out | exact HSt.out _ (by assumption)) (first
    | (go_at_call 69
       refine (HBk.out _).mono ?_
       rintro e V1 ⟨rfl, hb1, hbx1⟩))
  have ht1 : TfI w g (.pointer (some ⟨ps, 0, none⟩)) (.int .i64 (i : Nat)) (tmpP l js q) (fun k => k = V0.heap.size) V1 := by
    rw [tmpP_end l js q (by omega)]
    have h := HT0.out.1.below (V' := V1) ⟨hb1.os, hb1.tape, hb1.output, hb1.size, hb1.block⟩
    exact ⟨h.bel, h.b0, h.b1, h.b3, h.tab, fun k hk => by rw [hk]; exact HT0.out.1.big, h.big⟩
  have hx1 : Bx V1 V0.heap.size 64 (.slice AE q cE) := hbx1
  have HV1 := Lib.hid (And.intro ht1 hx1)
  have hbig := HT0.out.1.big
  clear ht1 hb1 hx1 hbx1
  gi_wp2_with fail
  refine wpIn_deals2 (gf := 89) rfl (enters_of Tryz.func89 (by kernel_rfl) rfl) (enc1 := iC) (enc2 := fun k => iC (js.getD k 0)) (xs := (List.range q).reverse) (S0 := fun k => k = V0.heap.size) (F := fun V => Rd V AE (js.map intC)) ?S0 ?seq
    (fun S pre V => TfI w g (.pointer (some ⟨ps, 0, none⟩)) (.int .i64 (i : Nat)) (tmpP l js (q - pre.length)) S V) (fun _ _ _ => False) ?stI ?stX ?IF ?start
    (fun x => { tmps := #[.pointer (some ⟨ps, 0, none⟩), .int .i64 (i : Nat), .pointer (some ⟨g, 0, none⟩), .pointer (some ⟨g + 1, 0, none⟩), .map none, .pointer (some ⟨g + 3, 0, none⟩), undef, iC (js.getD x 0), undef, undef, undef, undef, .map (some (g + 2)), .pointer (some ⟨ps, 0, none⟩), .pointer (some ⟨ps, 0, none⟩), .pointer (some ⟨ps, 2, none⟩), .slice (some ⟨bt, 0, none⟩) n n, .int .i64 (i : Nat), .pointer (some ⟨bt, i, none⟩), .slice AE q cE, .func (.func 89) #[] #[.pointer (some ⟨V0.heap.size, 0, none⟩)], iC x, iC (js.getD x 0), undef, undef, undef, undef, undef, undef, undef, undef, undef, undef, undef, undef, undef, undef, undef, undef, undef, undef, undef, undef, undef, undef, undef, undef, undef, undef, undef, undef, undef, undef, undef, undef, undef, undef, undef, undef, undef, undef, undef, undef, undef, undef, undef, undef, undef, undef, undef, undef, undef, undef, undef], defers := [] }) ?assign ?body ?done ?stop
  case S0 =>
    intro k hk
    rw [hk]
    exact HV1.out.2.lt
  case seq =>
    intro V hb
    exact backN_deals AE cE js q V0.heap.size (fun k => k = V0.heap.size) rfl V (fun k hk => by have e : k = V0.heap.size := hk; rw [e]; exact (HV1.out.2.below hb).lt) HJs.out.2.1 hq9 (HV1.out.2.below hb)
  case stI => exact fun S T s V V' h ht => h.turned ht
  case stX => exact fun S T s V V' h ht => h
  case IF =>
    intro S s V h
    have hb : Below w.heap.size w V := by rw [hg]; exact h.bel
    exact HT0.out.2.2.2.2.2.2.1.below hb
  case start => exact HV1.out.1
  case assign =>
    intro l2 x V K hK
    gi_wp2_with fail
    exact hK
  case body =>
    intro l2 S pre x post V hx hlt h
    obtain ⟨hxq, hp1, hp2⟩ := rev_pos hx
    have hxj : x < js.length := by rw [hq]; exact hxq
    have hgx : js[x]? = some js[x] := List.getElem?_eq_getElem hxj
    have hgd : js.getD x 0 = js[x] := by rw [List.getD_eq_getElem?_getD, hgx]; rfl
    obtain ⟨t, ht⟩ : ∃ t, js[x] = t := ⟨_, rfl⟩
    have htm : t ∈ js := by rw [← ht]; exact List.getElem_mem hxj
    rw [hgd, ht]
    rw [ht] at hgx
    have hbw : Below w.heap.size w V := by rw [hg]; exact h.bel
    have htn : t < n := by rw [← hn]; exact edg_lt (i := i) (by rw [HJs.out.1]; exact htm)
    obtain ⟨bj, hbj, hTj⟩ := HT0.out.2.2.2.2.2.1.2.2 t (HT0.out.2.2.2.2.2.2.2 t htm)
    have hbjl := hTj.lt
    have c0 := h.b0.cell
    have c3 := h.b3.cell
    have c4 := cell9_blk ((hbw.block ps (blk9_lt HT0.out.2.2.1)).trans HT0.out.2.2.1) 4 rfl
    have ct := cell9_blk (HT0.out.2.2.2.2.2.1.below hbw).1 t (by rw [List.getElem?_toArray]; exact hbj)
    rw [hp1] at h
    have hne : g + 2 ≠ bj := by omega
    have hNP : ∀ j, j < l.length → ∀ k f, gotP l k j = some f → k ∈ allN l := fun j hj k f hf => gotP_allN HJs.out.2.2.1 hj hf
    have hNT : ∀ k f, tmpP l js (x + 1) k = some f → k ∈ allN l := fun k f hf => by
      obtain ⟨j, hj, hj2⟩ := List.mem_map.1 (fstS_mem hf)
      have hjm : j ∈ edg l i := by rw [HJs.out.1]; exact List.mem_of_mem_drop hj
      exact hNP j (edg_lt hjm) k f hj2
    have hNl : ∀ k ∈ allN l, k.length ≤ 1000000 := fun k hk => by
      obtain ⟨c, hc, hk2⟩ := List.mem_flatMap.1 hk
      obtain ⟨f, hf, rfl⟩ := List.mem_map.1 hk2
      exact ((HJs.out.2.2.2 c hc).2 f hf).1
    have HCp := Lib.hid (fun W (h1 : Below V.heap.size V W) => copy_any (g + 2) bj (tmpP l js (x + 1)) (fun k => gotP l k t) (allN l) W (h.tab.below h1) ((hTj.below hbw).below h1) hne hN hNT (fun k f hf => hNP t (by omega) k f hf) hNl)
    have hst := tmpP_step (l := l) hgx
    have HH := Lib.hid (And.intro h (And.intro hp2 (And.intro hst (And.intro hlt hbw))))
    have q0 : (0 : Int) ≤ t := by omega
    have q1 : (t : Int) < n := by omega
    have d0 : V.drew.cell? { block := g, off := 0 } = some (.pointer (some { block := ps, off := 0 })) := c0
    have d3 : V.drew.cell? { block := g + 3, off := 0 } = some (.map (some (g + 2))) := c3
    have d4 : V.drew.cell? { block := ps, off := 4 } = some (.slice (some { block := tt, off := 0 }) n n) := c4
    have dt : V.drew.cell? { block := tt, off := t } = some (.map (some bj)) := ct
    have hmx : Tryz.prog.follows .mixedOrders = true := by kernel_rfl
    have hdr : Hid (Below V.heap.size V V.drew) := ⟨rfl, rfl, rfl, Nat.le_refl _, fun _ _ => rfl⟩
    clear h hp1 hp2 hst hlt hbw hx hxq hxj hgx hgd ht htm hNP hNT hNl hTj hbj hne c0 c3 c4 ct
    gi_wp2_with fail
    unfold iC
    gi_region_with_o (first
      | (refine ⟨trivial, rfl, ?_⟩
         gi_at_call 70
         refine (CallsIn.inRound l2 (callsIn_wide.2 (HCp.out _ hdr.out))).mono ?_
         rintro e V2 ⟨rfl, hT2, hg2⟩))
    all_goals gi_wp2_with fail
    all_goals
      have hgd : V.grownBy V2 (some (g + 2)) := ⟨hg2.os, hg2.tape, hg2.output, hg2.size, hg2.block⟩
      refine ⟨Spares.grown hgd HH.out.2.2.2.1 (fun k hk hs => by injection hk with hk; have := HH.out.1.low k hs; omega), ?_⟩
      show TfI w g _ _ (tmpP l js (q - (pre ++ [x]).length)) S V2
      rw [HH.out.2.1, HH.out.2.2.1]
      exact HH.out.1.map_ hgd hT2
  case done =>
    intro D1 S V hlt hD h hd
    have hlen : (List.range q).reverse.length = q := by simp
    rw [hlen, Nat.sub_self] at h
    have hbw : Below w.heap.size w V := by rw [hg]; exact h.bel
    obtain ⟨A, c, hlv, hrB⟩ := HT0.out.2.2.2.1.form
    rw [hn] at hlv hrB
    obtain ⟨ad, X, vF, hAd, hX, k0, k1, k2, hrf⟩ := hrB.parts.2.2.2 i hi b hb
    subst hAd
    obtain ⟨A3, c3, hvF, hrF⟩ := hrf.form
    have c0 := h.b0.cell
    have c1 := h.b1.cell
    have s0 := cell9_blk ((hbw.block ps (blk9_lt HT0.out.2.2.1)).trans HT0.out.2.2.1) 0 rfl
    have m2 := cell9_below k2 hbw
    rw [hvF] at m2
    have s0' : V.cell? { block := ps, off := 0 } = some (.slice (some ad) n c) := by rw [← hlv]; exact s0
    obtain ⟨F, hF⟩ : ∃ F, b.2.2.length = F := ⟨_, rfl⟩
    rw [hF] at m2 hrF
    have HBf := Lib.hid (backF_any A3 F c3)
    have HS2 := Lib.hid (And.intro c0 (And.intro c1 (And.intro s0' m2)))
    have HSt2 : Hid (∀ W, Below V.drew.heap.size V.drew W → W.cell? { block := g, off := 0 } = some (.pointer (some { block := ps, off := 0 })) ∧ W.cell? { block := g + 1, off := 0 } = some (.int .i64 (i : Nat)) ∧ W.cell? { block := ps, off := 0 } = some (.slice (some ad) n c) ∧ W.cell? { block := X.block, off := X.off + 2 } = some (.slice A3 F c3)) := fun W h => ⟨cell9_below (w := V.drew) c0 h, cell9_below (w := V.drew) c1 h, cell9_below (w := V.drew) s0' h, cell9_below (w := V.drew) m2 h⟩
    have HH := Lib.hid (And.intro h (And.intro hlt (And.intro hD (And.intro hd (And.intro hrF hF)))))
    clear h hlt hD hd hbw hlen s0 k0 k1 k2 hrf hrB hlv hrF hvF
    gi_wp2_with fail
    refine wpIn_wide.2 ?_
    go_region_held3 (fun W => W.cell? { block := g, off := 0 } = some (.pointer (some { block := ps, off := 0 })) ∧ W.cell? { block := g + 1, off := 0 } = some (.int .i64 (i : Nat)) ∧ W.cell? { block := ps, off := 0 } = some (.slice (some ad) n c) ∧ W.cell? { block := X.block, off := X.off + 2 } = some (.slice A3 F c3)) (first | exact HS2.out | exact HSt2.out _ (by assumption)) (first
      | (go_at_call 71
         refine (HBf.out _).mono ?_
         rintro e V3 ⟨rfl, hb3, hbx3⟩))
    have ht3 : TfI w g (.pointer (some ⟨ps, 0, none⟩)) (.int .i64 (i : Nat)) (fldP b.2.2 (tmpP l js 0) F) (fun k => k = V.heap.size) V3 := by
      rw [fldP_start _ _ F (by rw [HH.out.2.2.2.2.2]; exact Nat.le_refl _)]
      have h := HH.out.1.below (V' := V3) ⟨hb3.os, hb3.tape, hb3.output, hb3.size, hb3.block⟩
      exact ⟨h.bel, h.b0, h.b1, h.b3, h.tab, fun k hk => by rw [hk]; exact HH.out.1.big, h.big⟩
    have hd3 : V3.heap[D1]? = some (.deferred (some [])) := (hb3.block D1 (blk9_lt HH.out.2.2.2.1)).trans HH.out.2.2.2.1
    have hx3 : Bx V3 V.heap.size 46 (.slice A3 F c3) := hbx3
    have hDl := HH.out.1.low D1 HH.out.2.2.1
    have hDs := blk9_lt HH.out.2.2.2.1
    have HV3 := Lib.hid (And.intro ht3 (And.intro hx3 hd3))
    have hFl : F ≤ 1000000 := by rw [← HH.out.2.2.2.2.2]; exact (HJs.out.2.2.2 b (List.mem_of_getElem? hb)).1
    have hRF : Rd w A3 (b.2.2.flatMap fdC) := by
      obtain ⟨A9, c9, e9, _, _, h9⟩ := HH.out.2.2.2.2.1
      injection e9 with e9
      rw [e9]
      exact h9
    have HRF := Lib.hid hRF
    clear ht3 hb3 hx3 hbx3 hd3 hRF
    gi_wp2_with fail
    refine wpIn_deals3 (gf := 90) rfl (enters_of Tryz.func90 (by kernel_rfl) rfl) (enc1 := iC) (enc2 := fun k => fV (b.2.2.getD k zF0)) (xs := (List.range F).reverse) (S0 := fun k => k = V.heap.size) (F := fun V => Rd V A3 (b.2.2.flatMap fdC)) ?S02 ?seq2
      (fun S pre W => TfI w g (.pointer (some ⟨ps, 0, none⟩)) (.int .i64 (i : Nat)) (fldP b.2.2 (tmpP l js 0) (F - pre.length)) S W ∧ W.heap[D1]? = some (.deferred (some [])) ∧ ¬ S D1) (fun _ _ _ => False) ?stI2 ?stX2 ?IF2 ?start2
      (fun x p => { tmps := #[.pointer (some ⟨ps, 0, none⟩), .int .i64 (i : Nat), .pointer (some ⟨g, 0, none⟩), .pointer (some ⟨g + 1, 0, none⟩), .map none, .pointer (some ⟨g + 3, 0, none⟩), undef, undef, undef, .pointer (some ⟨p, 0, none⟩), undef, undef, .map (some (g + 2)), .pointer (some ⟨ps, 0, none⟩), .pointer (some ⟨ps, 0, none⟩), .pointer (some ⟨ps, 2, none⟩), .slice (some ⟨bt, 0, none⟩) n n, .int .i64 (i : Nat), .pointer (some ⟨bt, i, none⟩), .slice AE q cE, .func (.func 89) #[] #[.pointer (some ⟨V0.heap.size, 0, none⟩)], undef, undef, undef, undef, undef, undef, undef, undef, undef, undef, undef, .pointer (some ⟨ps, 0, none⟩), .pointer (some ⟨ps, 0, none⟩), .pointer (some ⟨ps, 0, none⟩), .slice (some ad) n c, .int .i64 (i : Nat), .pointer (some X), .pointer (some { block := X.block, off := X.off + 2 }), .slice A3 F c3, .func (.func 90) #[] #[.pointer (some ⟨V.heap.size, 0, none⟩)], iC x, fV (b.2.2.getD x zF0), undef, undef, undef, undef, undef, undef, undef, undef, undef, undef, undef, undef, undef, undef, undef, undef, undef, undef, undef, undef, undef, undef, undef, undef, undef, undef, undef, undef, undef, undef, undef], defers := [] })
      (fun x => #[.int .i64 (b.2.2.getD x zF0).1, .string (str (b.2.2.getD x zF0).2.1), .string (str (b.2.2.getD x zF0).2.2)]) 45 ?assign2 ?body2 ?done2 ?stop2
    case S02 =>
      intro k hk
      rw [hk]
      exact HV3.out.2.1.lt
    case seq2 =>
      intro W hbW
      exact backF_deals A3 c3 b.2.2 F V.heap.size (fun k => k = V.heap.size) rfl W (fun k hk => by have e : k = V.heap.size := hk; rw [e]; exact (HV3.out.2.1.below hbW).lt) HH.out.2.2.2.2.2 hFl (HV3.out.2.1.below hbW)
    case stI2 =>
      rintro S T s W W' ⟨h1, h2, h3⟩ ht
      have hlt := blk9_lt h2
      exact ⟨h1.turned ht, (ht.same D1 hlt h3).trans h2, fun hT => (ht.more D1 hT).elim h3 (fun h9 => by omega)⟩
    case stX2 => exact fun S T s V V' h ht => h
    case IF2 =>
      intro S s W h
      have hbW : Below w.heap.size w W := by rw [hg]; exact h.1.bel
      exact HRF.out.below hbW
    case start2 => exact ⟨by simpa using HV3.out.1, HV3.out.2.2, fun h => by have e : D1 = V.heap.size := h; omega⟩
    case assign2 =>
      intro l2 x W K hK
      unfold fV
      generalize b.2.2.getD x zF0 = f at *
      gi_wp2_with fail
      exact hK
    case body2 =>
      rintro l2 S pre x post U p9 hx hlt ⟨h, hdD, hSD⟩ hp9 hSp ⟨m9, hm9, hmp, W9, hW9, hI9, _⟩
      obtain ⟨hxF, hp1, hp2⟩ := rev_pos hx
      have hgp : g + 4 ≤ p9 := by rw [← hW9]; exact hI9.big
      have hxj : x < b.2.2.length := by rw [HH.out.2.2.2.2.2]; exact hxF
      have hgx : b.2.2[x]? = some b.2.2[x] := List.getElem?_eq_getElem hxj
      have hgd : b.2.2.getD x zF0 = b.2.2[x] := by rw [List.getD_eq_getElem?_getD, hgx]; rfl
      obtain ⟨f, hfe⟩ : ∃ f, b.2.2[x] = f := ⟨_, rfl⟩
      have hbm : b ∈ l := List.mem_of_getElem? hb
      have hfm : f ∈ b.2.2 := by rw [← hfe]; exact List.getElem_mem hxj
      have hfl := (HJs.out.2.2.2 b hbm).2 f hfm
      rw [hgd, hfe] at hp9 ⊢
      rw [hfe] at hgx
      rw [hp1] at h
      have hst := fun k => fldP_step (gv := tmpP l js 0) hgx k
      obtain ⟨FV, hFV⟩ : ∃ x, str f.2.2 = x := ⟨_, rfl⟩
      obtain ⟨FN, hFN⟩ : ∃ x, str f.2.1 = x := ⟨_, rfl⟩
      have HCu := Lib.hid (fun W => cutPre_any f.2.2 W)
      have t0 : str [43] = { data := #[43] } := rfl
      rw [t0] at HCu
      have hz : (FV.toList == [110, 117, 108, 108]) = decide (f.2.2 = nmZ) := by
        rw [← hFV, str_toList]
        by_cases e : f.2.2 = nmZ
        · rw [e]; rfl
        · rw [decide_eq_false e, beq_eq_false_iff_ne]; exact e
      rw [hFV, hFN] at hp9
      rw [hFV] at HCu
      have HP9 := Lib.hid (And.intro hp9 (And.intro hgp (And.intro hSp (And.intro hdD (And.intro hSD hlt)))))
      have HN := Lib.hid (And.intro hFN (And.intro hFV (And.intro hfl hst)))
      have hbU : Below w.heap.size w U := by rw [hg]; exact h.bel
      have HU := Lib.hid (And.intro h (And.intro hp2 hbU))
      have c0 := cell9_blk hp9 0 rfl
      have c1 := cell9_blk hp9 1 rfl
      have c2 := cell9_blk hp9 2 rfl
      have e0 := h.b0.cell
      have e1 := h.b1.cell
      have e3 := h.b3.cell
      have hUb := h.big
      have hNP : ∀ j, j < l.length → ∀ k f, gotP l k j = some f → k ∈ allN l := fun j hj k f hf => gotP_allN HJs.out.2.2.1 hj hf
      have hNF : ∀ m k f', fldP b.2.2 (tmpP l js 0) m k = some f' → k ∈ allN l := fun m k f' hf => by
        unfold fldP at hf
        cases hfd : (b.2.2.drop m).find? (fun f => f.2.1 == k) with
        | some f9 =>
          have h1 := List.mem_of_find?_eq_some hfd
          have h2 := List.find?_some hfd
          exact List.mem_flatMap.2 ⟨b, hbm, List.mem_map.2 ⟨f9, List.mem_of_mem_drop h1, by simpa using h2⟩⟩
        | none =>
          rw [hfd] at hf
          obtain ⟨j, hj, hj2⟩ := List.mem_map.1 (fstS_mem (show fstS _ = some f' from hf))
          have hjm : j ∈ edg l i := by rw [HJs.out.1]; exact List.mem_of_mem_drop hj
          exact hNP j (edg_lt hjm) k f' hj2
      have HNF := Lib.hid hNF
      clear hx hxF hp1 hp2 hxj hgx hgd hfe hbm hfm hp9 hSp hdD hSD hlt hfl hst hFV hFN h hNP hNF hI9 hm9 hbU
      by_cases hzz : f.2.2 = nmZ
      · rw [decide_eq_true hzz] at hz
        obtain ⟨U2, hrun, hT2, hg2⟩ := HU.out.1.tab.del (k := f.2.1) HN.out.2.2.1.1 0
        rw [HN.out.1] at hrun
        have hfn : (fun k' => if k' = f.2.1 then none else fldP b.2.2 (tmpP l js 0) (x + 1) k') = fldP b.2.2 (tmpP l js 0) x := by
          funext k
          rw [HN.out.2.2.2 k]
          by_cases e : k = f.2.1
          · rw [if_pos e, if_pos e, if_pos hzz]
          · rw [if_neg e, if_neg e]
        rw [hfn] at hT2
        have H2 := Lib.hid (And.intro hT2 hg2)
        clear hT2 hg2 hfn hzz
        gi_wp2_with fail
        refine ⟨trivial, rfl, (CallsIn.inRound l2 (callsIn_wide.2 (HCu.out _))).mono ?_⟩
        rintro e U1 ⟨rfl, rfl⟩
        gi_wp2_with fail
        all_goals
          refine ⟨Spares.grown H2.out.2 HP9.out.2.2.2.2.2 (fun k hk hs => by injection hk with hk; have := HU.out.1.low k hs; omega), ?_⟩
          show TfI w g _ _ (fldP b.2.2 (tmpP l js 0) (F - (pre ++ [x]).length)) S U2 ∧ _
          rw [HU.out.2.1]
          exact ⟨HU.out.1.map_ H2.out.2 H2.out.1, (H2.out.2.block D1 (blk9_lt HP9.out.2.2.2.1) (fun e => by injection e with e; omega)).trans HP9.out.2.2.2.1, HP9.out.2.2.2.2.1⟩
      · rw [decide_eq_false hzz] at hz
        by_cases h43 : f.2.2.head? = some 43
        · rw [if_pos h43, decide_eq_true h43] at HCu
          have hNl2 : ∀ c ∈ l, ∀ f ∈ c.2.2, f.2.2.length ≤ 900000 := fun c hc f hf => ((HJs.out.2.2.2 c hc).2 f hf).2
          have hgl : (valF (tmpP l js 0 f.2.1)).length ≤ 1000000 := by
            unfold tmpP
            rw [List.drop_zero]
            cases hF9 : fstS (js.map (gotP l f.2.1)) with
            | none => simp [valF]
            | some f9 =>
              obtain ⟨j, hj, hj2⟩ := List.mem_map.1 (fstS_mem hF9)
              have hjm : j ∈ edg l i := by rw [HJs.out.1]; exact hj
              have := gotP_len HJs.out.2.2.1 hNl2 _ j f9 (Nat.lt_succ_self _) (edg_lt hjm) hj2
              show f9.2.2.length ≤ 1000000
              omega
          have hgv := given_any ps bt tt n i lv x1 x3 Z Zt l D f.2.1 U hn hl hi ((HU.out.2.2.block ps (blk9_lt HT0.out.2.2.1)).trans HT0.out.2.2.1) (HT0.out.2.2.2.2.1.below HU.out.2.2) (HT0.out.2.2.2.2.2.1.below HU.out.2.2) (fun j hj => HT0.out.2.2.2.2.2.2.2 j (by rw [← HJs.out.1]; exact hj)) HN.out.2.2.1.1
          have htp : fstS ((edg l i).map (gotP l f.2.1)) = tmpP l js 0 f.2.1 := by unfold tmpP; rw [List.drop_zero, HJs.out.1]
          rw [htp, HN.out.1] at hgv
          have HGv := Lib.hid hgv
          have htl : f.2.2.tail.length ≤ 1000000 := by rw [List.length_tail]; have := HN.out.2.2.1.2; omega
          have HJo := Lib.hid (fun W => join_any (valF (tmpP l js 0 f.2.1)) f.2.2.tail W hgl htl)
          obtain ⟨GV, hGV⟩ : ∃ x, str (valF (tmpP l js 0 f.2.1)) = x := ⟨_, rfl⟩
          obtain ⟨TL, hTL⟩ : ∃ x, str f.2.2.tail = x := ⟨_, rfl⟩
          obtain ⟨JV, hJV⟩ : ∃ x, joinP (valF (tmpP l js 0 f.2.1)) f.2.2.tail = x := ⟨_, rfl⟩
          obtain ⟨JS, hJS⟩ : ∃ x, str JV = x := ⟨_, rfl⟩
          rw [hGV] at HGv
          rw [hGV, hTL, hJV, hJS] at HJo
          rw [hTL] at HCu
          have HJV := Lib.hid (And.intro hJV hJS)
          have H43 := Lib.hid (And.intro hzz h43)
          clear hgv htp hgl htl hNl2 hGV hTL hJV hJS hzz h43
          gi_wp2_with fail
          refine ⟨trivial, rfl, (CallsIn.inRound l2 (callsIn_wide.2 (HCu.out _))).mono ?_⟩
          rintro e U1 ⟨rfl, rfl⟩
          gi_wp2_with fail
          refine ⟨trivial, rfl, (CallsIn.inRound l2 (callsIn_wide.2 HGv.out)).mono ?_⟩
          rintro e U3 ⟨rfl, hb3⟩
          gi_wp2_with fail
          refine ⟨trivial, rfl, (CallsIn.inRound l2 (callsIn_wide.2 (HJo.out _))).mono ?_⟩
          rintro e U4 ⟨rfl, rfl⟩
          have hp4 := (hb3.block p9 (blk9_lt HP9.out.1)).trans HP9.out.1
          have f4 := frz9_blk hp4 2
          have k4 := cell9_blk hp4 2 rfl
          have hp5 := set3rd (z := .string JS) hp4
          have m0 := cell9_blk hp5 0 rfl
          have m1 := cell9_blk hp5 1 rfl
          have m2 := cell9_blk hp5 2 rfl
          have T4 := HU.out.1.below hb3
          have T5 := T4.setP (p := ⟨p9, 2, none⟩) HP9.out.2.1 (.string JS)
          obtain ⟨U2, hrun, hT2, hg2⟩ := T5.tab.put (k := f.2.1) HN.out.2.2.1.1 (f.1, f.2.1, JV) (NL := allN l) (fun k f' h => HNF.out _ k f' h) hN
          unfold fV at hrun
          dsimp only at hrun
          rw [HN.out.1, HJV.out.2] at hrun
          have hfn : (fun k' => if k' = f.2.1 then some (f.1, f.2.1, JV) else fldP b.2.2 (tmpP l js 0) (x + 1) k') = fldP b.2.2 (tmpP l js 0) x := by
            funext k
            rw [HN.out.2.2.2 k]
            by_cases e : k = f.2.1
            · rw [if_pos e, if_pos e, if_neg H43.out.1, if_pos H43.out.2, e, HJV.out.1]
            · rw [if_neg e, if_neg e]
          rw [hfn] at hT2
          have hsp : Spares S U1 U2 := ((Spares.below HP9.out.2.2.2.2.2 hb3).trans (Spares.setCell (p := ⟨p9, 2, none⟩) HP9.out.2.2.1 (.string JS))).trans (Spares.grown hg2 (fun k hk => by have := HP9.out.2.2.2.2.2 k hk; have h9 := hb3.size; simp [World.setCell]; omega) (fun k hk hs => by injection hk with hk; have := HU.out.1.low k hs; omega))
          have hDp : D1 ≠ p9 := fun e => by
            have h1 := HP9.out.1
            have h2 := HP9.out.2.2.2.1
            rw [e, h1] at h2
            injection h2 with h2
            injection h2
          have hD2 : U2.heap[D1]? = some (.deferred (some [])) := (hg2.block D1 (by have := blk9_lt HP9.out.2.2.2.1; have h9 := hb3.size; simp [World.setCell]; omega) (fun e => by injection e with e; omega)).trans ((Below.heap_setCell U4 ⟨p9, 2, none⟩ _ D1 hDp).trans ((hb3.block D1 (blk9_lt HP9.out.2.2.2.1)).trans HP9.out.2.2.2.1))
          have e5 := T5.b3.cell
          have H2 := Lib.hid (And.intro (T5.map_ hg2 hT2) (And.intro hsp hD2))
          clear hT2 hg2 hfn hsp hD2 T4 T5 hp4 hp5 hb3
          gi_wp2_with fail
          refine ⟨H2.out.2.1, ?_⟩
          show TfI w g _ _ (fldP b.2.2 (tmpP l js 0) (F - (pre ++ [x]).length)) S U2 ∧ _
          rw [HU.out.2.1]
          exact ⟨H2.out.1, H2.out.2.2, HP9.out.2.2.2.2.1⟩
        · rw [if_neg h43, decide_eq_false h43] at HCu
          obtain ⟨U2, hrun, hT2, hg2⟩ := HU.out.1.tab.put (k := f.2.1) HN.out.2.2.1.1 f (NL := allN l) (fun k f' h => HNF.out _ k f' h) hN
          unfold fV at hrun
          rw [HN.out.1, HN.out.2.1] at hrun
          have hfn : (fun k' => if k' = f.2.1 then some f else fldP b.2.2 (tmpP l js 0) (x + 1) k') = fldP b.2.2 (tmpP l js 0) x := by
            funext k
            rw [HN.out.2.2.2 k]
            by_cases e : k = f.2.1
            · rw [if_pos e, if_pos e, if_neg hzz, if_neg h43]
            · rw [if_neg e, if_neg e]
          rw [hfn] at hT2
          have H2 := Lib.hid (And.intro hT2 hg2)
          clear hT2 hg2 hfn hzz h43
          gi_wp2_with fail
          refine ⟨trivial, rfl, (CallsIn.inRound l2 (callsIn_wide.2 (HCu.out _))).mono ?_⟩
          rintro e U1 ⟨rfl, rfl⟩
          gi_wp2_with fail
          refine ⟨Spares.grown H2.out.2 HP9.out.2.2.2.2.2 (fun k hk hs => by injection hk with hk; have := HU.out.1.low k hs; omega), ?_⟩
          show TfI w g _ _ (fldP b.2.2 (tmpP l js 0) (F - (pre ++ [x]).length)) S U2 ∧ _
          rw [HU.out.2.1]
          exact ⟨HU.out.1.map_ H2.out.2 H2.out.1, (H2.out.2.block D1 (blk9_lt HP9.out.2.2.2.1) (fun e => by injection e with e; omega)).trans HP9.out.2.2.2.1, HP9.out.2.2.2.2.1⟩
    case done2 =>
      rintro D2 S2 V5 hlt5 hD5 ⟨h5, hd5, hnd5⟩ hd6
      have hlen5 : (List.range F).reverse.length = F := by simp
      rw [hlen5, Nat.sub_self] at h5
      have hDg : g + 4 ≤ D1 := hDl
      have hD2g := h5.low D2 hD5
      have hfin : ∀ k, gotP l k i = (fun k' => if k' = nmR then none else (fun k' => if k' = nmU then none else (fun k' => if k' = nmN then none else fldP b.2.2 (tmpP l js 0) 0 k') k') k') k := fun k => by
        rw [gotP_eq HJs.out.2.2.1 k hb]
        have e : ownP (ownF b k) (fstS ((edg l i).map (gotP l k))) = fldP b.2.2 (tmpP l js 0) 0 k := by
          unfold fldP tmpP
          rw [List.drop_zero, List.drop_zero, HJs.out.1]
          rfl
        rw [e]
        unfold three
        by_cases e1 : k = nmR
        · simp [e1]
        · by_cases e2 : k = nmU
          · simp [e2]
          · by_cases e3 : k = nmN
            · simp [e3]
            · simp [e1, e2, e3]
      obtain ⟨V6, hr6, hT6, hg6⟩ := h5.tab.del (k := nmN) (by decide) 0
      have h6 := h5.map_ hg6 hT6
      obtain ⟨V7, hr7, hT7, hg7⟩ := h6.tab.del (k := nmU) (by decide) 0
      have h7 := h6.map_ hg7 hT7
      obtain ⟨V8, hr8, hT8, hg8⟩ := h7.tab.del (k := nmR) (by decide) 0
      have h8 := h7.map_ hg8 hT8
      have hds : ∀ D, g + 4 ≤ D → D < V5.heap.size → V8.heap[D]? = V5.heap[D]? := fun D hD hDl =>
        (hg8.block D (Nat.lt_of_lt_of_le hDl (Nat.le_trans hg6.size hg7.size)) (fun e => by injection e with e; omega)).trans ((hg7.block D (Nat.lt_of_lt_of_le hDl hg6.size) (fun e => by injection e with e; omega)).trans (hg6.block D hDl (fun e => by injection e with e; omega)))
      have hd18 := (hds D1 hDg (blk9_lt hd5)).trans hd5
      have hd28 := (hds D2 hD2g (hlt5 D2 hD5)).trans hd6
      have c3 := h5.b3.cell
      have c36 := h6.b3.cell
      have c37 := h7.b3.cell
      have c38 := h8.b3.cell
      have t1 : str nmN = { data := #[110, 97, 109, 101] } := rfl
      have t2 : str nmU = { data := #[117, 115, 101] } := rfl
      have t3 : str nmR = { data := #[114, 101, 103, 105, 115, 116, 101, 114] } := rfl
      rw [t1] at hr6
      rw [t2] at hr7
      rw [t3] at hr8
      have H8 := Lib.hid (And.intro h8 (And.intro hd18 (And.intro hd28 (And.intro hfin (And.intro hDg (And.intro hD2g (fun e : D1 = D2 => hnd5 (e ▸ hD5))))))))
      clear h8 hd18 hd28 hfin hds h5 h6 h7 hT6 hg6 hT7 hg7 hT8 hg8 t1 t2 t3 hlt5 hD5 hd5 hnd5 hd6 hDg hD2g
      gi_wp2_with fail
      refine ⟨by simp, .inl ⟨_, _, rfl, run_takeDeferred H8.out.2.2.1, ?_⟩⟩
      refine ⟨by simp, .inl ⟨_, _, rfl, run_takeDeferred ((World.putObj_heap_other H8.out.2.2.2.2.2.2).trans H8.out.2.1), ?_⟩⟩
      refine ⟨_, results_tmp rfl _ _ _, g + 2, rfl, ?_, ?_, by omega⟩
      · have hT := H8.out.1.tab.block (w' := (V8.putObj D2 (.deferred none)).putObj D1 (.deferred none)) ((World.putObj_heap_other (by have := H8.out.2.2.2.2.1; omega)).trans (World.putObj_heap_other (by have := H8.out.2.2.2.2.2.1; omega)))
        have e := funext H8.out.2.2.2.1
        rw [e]
        exact hT
      · have hB := H8.out.1.bel
        refine ⟨hB.os, hB.tape, hB.output, by rw [World.putObj_size, World.putObj_size]; exact hB.size, fun k hk => ?_⟩
        rw [World.putObj_heap_other (by have := H8.out.2.2.2.2.1; omega), World.putObj_heap_other (by have := H8.out.2.2.2.2.2.1; omega)]
        exact hB.block k hk
    case stop2 => exact fun D S pre V hlt hD h hd => h.elim
  case stop => exact fun D S pre V hlt hD h hd => h.elim
end Go.Proofs.YthnogakjaaopkaaGreatDoor

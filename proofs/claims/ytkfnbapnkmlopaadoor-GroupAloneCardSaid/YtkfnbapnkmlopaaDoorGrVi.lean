/- Contract: visit: going on from a place till all were seen. -/
import Derived.Test.YtkfnbapnkmlopaaDoorGrLe
namespace Go.Proofs.YtkfnbapnkmlopaaDoor
open Go.RowKit

theorem cnt_set : ∀ (S : List Bool) (a : Nat), S[a]? = some false → (S.set a true).count false + 1 = S.count false
  | [], _, h => by cases h
  | b :: S, 0, h => by
    have e : b = false := by simpa using h
    subst e
    simp
  | b :: S, a + 1, h => by
    have h1 := cnt_set S a (by simpa using h)
    rw [List.set_cons_succ, List.count_cons, List.count_cons]
    omega
theorem Vs.cnt {E : Nat → List Nat} {ls S L S' L'} (h : Vs E ls S L S' L') : L'.length + S'.count false = L.length + S.count false := by
  induction h with
  | nil => rfl
  | seen _ _ ih => exact ih
  | new ha _ _ ih1 ih2 =>
    have := cnt_set _ _ ha
    rw [List.length_append] at ih2
    simp only [List.length_singleton] at ih2
    omega
theorem Vs.less {E : Nat → List Nat} {ls S L S' L'} (h : Vs E ls S L S' L') : S'.count false ≤ S.count false := by
  have h1 := h.cnt
  obtain ⟨P, e, _⟩ := h.ex
  rw [e, List.length_append] at h1
  omega
/-- What stays: all that was there, but a block and a row. -/
structure VisK (bs : Nat) (ob : Option Nat) (w w' : World) : Prop where
  os : w'.os = w.os
  tape : w'.tape = w.tape
  output : w'.output = w.output
  size : w.heap.size ≤ w'.heap.size
  block : ∀ k, k < w.heap.size → k ≠ bs → ob ≠ some k → w'.heap[k]? = w.heap[k]?
theorem VisK.refl (bs : Nat) (ob : Option Nat) (w : World) : VisK bs ob w w := ⟨rfl, rfl, rfl, Nat.le_refl _, fun _ _ _ _ => rfl⟩
/-- A row that was there, or is new. -/
def NewR (ob ob' : Option Nat) (w : World) : Prop := ob' = ob ∨ ∀ b, ob' = some b → w.heap.size ≤ b
theorem VisK.trans {bs : Nat} {ob ob' : Option Nat} {w w1 w2 : World} (h : VisK bs ob w w1) (k : VisK bs ob' w1 w2) (hr : NewR ob ob' w) : VisK bs ob w w2 :=
  ⟨k.os.trans h.os, k.tape.trans h.tape, k.output.trans h.output, Nat.le_trans h.size k.size, fun b h1 h2 h3 => (k.block b (Nat.lt_of_lt_of_le h1 h.size) h2 (fun e => by
    rcases hr with hr | hr
    · exact h3 (by rw [← hr]; exact e)
    · exact absurd (hr b e) (Nat.not_le.2 h1))).trans (h.block b h1 h2 h3)⟩
theorem NewR.trans {a b c : Option Nat} {w w1 : World} (h : NewR a b w) (k : NewR b c w1) (hs : w.heap.size ≤ w1.heap.size) : NewR a c w := by
  rcases k with k | k
  · rw [k]; exact h
  · exact .inr fun x hx => Nat.le_trans hs (k x hx)
theorem VisK.below {bs B : Nat} {ob : Option Nat} {w w' : World} (h : VisK bs ob w w') (hb : B ≤ bs) (ho : ∀ b, ob = some b → B ≤ b) (hB : B ≤ w.heap.size) : Below B w w' :=
  ⟨h.os, h.tape, h.output, h.size, fun k hk => h.block k (Nat.lt_of_lt_of_le hk hB) (fun e => by omega) (fun e => by have := ho k e; omega)⟩
/-- The marks' block is none of the rows'. -/
def Aprt (g : Nat) (Z : List Value) (bs : Nat) : Prop := g ≠ bs ∧ ∀ (i : Nat) (v : Value), Z[i]? = some v → v.ownBlock ≠ some bs
theorem NxO.visk {W0 w : World} {B g n bs : Nat} {E : Nat → List Nat} {Z : List Value} (h : NxO W0 B g E n Z) (hk : VisK bs none W0 w) (ha : Aprt g Z bs) : NxO w B g E n Z :=
  ⟨h.ge, (hk.block g h.lt ha.1 (fun e => by cases e)).trans h.blk, h.len, fun i v hv => own_block9 (h.row i v hv) fun b hb => hk.block b ((h.row i v hv).lt b hb).2 (fun e => ha.2 i v hv (by rw [hb, e])) (fun e => by cases e), h.apt⟩
theorem Aprt.new {W0 : World} {B g n bs : Nat} {E : Nat → List Nat} {Z : List Value} (h : NxO W0 B g E n Z) (hb : W0.heap.size ≤ bs) : Aprt g Z bs :=
  ⟨fun e => by have := h.lt; omega, fun i v hv e => by have := ((h.row i v hv).lt bs e).2; omega⟩
theorem Aprt.typed {W0 : World} {B g n bs : Nat} {E : Nat → List Nat} {Z : List Value} {S : List Bool} (h : NxO W0 B g E n Z) (hb : BolB bs S W0) : Aprt g Z bs :=
  ⟨fun e => by
    have h1 := h.blk
    rw [e] at h1
    unfold BolB at hb
    rw [hb] at h1
    injection h1 with h1
    injection h1 with _ h1
    exact absurd h1 (by decide), fun i v hv e => by
    obtain ⟨cur, fr, hc⟩ := own_typed (h.row i v hv) bs e
    unfold BolB at hb
    rw [hb] at hc
    injection hc with hc
    injection hc with _ hc
    exact absurd hc (by decide)⟩
def ViC (W0 : World) (g n : Nat) (Z : List Value) (E : Nat → List Nat) (m : Nat) : Prop :=
  ∀ (x : Nat) (S : List Bool) (L : List Nat) (lv : Value) (bs : Nat) (w : World), S.count false ≤ m → S.length = n → x < n → L.length + S.count false ≤ 1000000 → VisK bs none W0 w → Aprt g Z bs → BolB bs S w → w.ownsRow W0.heap.size 3 1 lv L.length (L.map intC) →
    Calls Tryd.prog 60 #[.slice (some ⟨g, 0, none⟩) n n, .int .i64 (x : Nat), .slice (some ⟨bs, 0, none⟩) n n, lv] w fun e w' => ∃ S' L' lv', e = .returned lv' ∧ Vs E [x] S L S' L' ∧ BolB bs S' w' ∧ w'.ownsRow W0.heap.size 3 1 lv' L'.length (L'.map intC) ∧ VisK bs lv.ownBlock w w' ∧ NewR lv.ownBlock lv'.ownBlock w
theorem bol_own {w : World} {base bs n : Nat} {S : List Bool} {v : Value} {xs : List Value} (h : BolB bs S w) (ho : w.ownsRow base 3 1 v n xs) : v.ownBlock ≠ some bs := fun e => by
  obtain ⟨cur, fr, hc⟩ := own_typed ho bs e
  unfold BolB at h
  rw [h] at hc
  injection hc with hc
  injection hc with _ hc
  exact absurd hc (by decide)
set_option maxRecDepth 100000 in
set_option maxHeartbeats 4000000 in
theorem visit_seen (W0 : World) (g n : Nat) (E : Nat → List Nat) (x : Nat) (S : List Bool) (L : List Nat) (lv : Value) (bs : Nat) (w : World) (hx : x < n) (hs : BolB bs S w) (ho : w.ownsRow W0.heap.size 3 1 lv L.length (L.map intC)) (h1 : S[x]? = some true) :
    Calls Tryd.prog 60 #[.slice (some ⟨g, 0, none⟩) n n, .int .i64 (x : Nat), .slice (some ⟨bs, 0, none⟩) n n, lv] w fun e w' => ∃ S' L' lv', e = .returned lv' ∧ Vs E [x] S L S' L' ∧ BolB bs S' w' ∧ w'.ownsRow W0.heap.size 3 1 lv' L'.length (L'.map intC) ∧ VisK bs lv.ownBlock w w' ∧ NewR lv.ownBlock lv'.ownBlock w := by
  have c0 := hs.load h1
  have H := Lib.hid (And.intro hs (And.intro ho h1))
  have q0 : (0 : Int) ≤ x := by omega
  have q1 : (x : Int) < n := by omega
  clear hs ho h1
  go_enter Tryd.func60, Tryd.ntmps60
  go_wp2_with fail
  go_ret
  exact ⟨S, L, lv, rfl, .seen H.out.2.2 .nil, H.out.1, H.out.2.1, VisK.refl _ _ _, .inl rfl⟩
set_option maxRecDepth 100000 in
set_option maxHeartbeats 4000000 in
theorem visit_new (W0 : World) (B g n : Nat) (Z : List Value) (E : Nat → List Nat) (_ : n ≤ 4096) (hZ : NxO W0 B g E n Z) (hE : ∀ i, i < n → ∀ j ∈ E i, j < n) (hEl : ∀ i, (E i).length ≤ 1048576) (m : Nat) (ih : ViC W0 g n Z E m)
    (x : Nat) (S : List Bool) (L : List Nat) (lv : Value) (bs : Nat) (w : World) (hm : S.count false ≤ m + 1) (hS : S.length = n) (hx : x < n) (hL : L.length + S.count false ≤ 1000000) (hb : VisK bs none W0 w) (hap : Aprt g Z bs) (hs : BolB bs S w) (ho : w.ownsRow W0.heap.size 3 1 lv L.length (L.map intC)) (h1 : S[x]? = some false) :
    Calls Tryd.prog 60 #[.slice (some ⟨g, 0, none⟩) n n, .int .i64 (x : Nat), .slice (some ⟨bs, 0, none⟩) n n, lv] w fun e w' => ∃ S' L' lv', e = .returned lv' ∧ Vs E [x] S L S' L' ∧ BolB bs S' w' ∧ w'.ownsRow W0.heap.size 3 1 lv' L'.length (L'.map intC) ∧ VisK bs lv.ownBlock w w' ∧ NewR lv.ownBlock lv'.ownBlock w := by
  have c0 := hs.load h1
  have f0 := hs.frz x
  have hc := cnt_set S x h1
  obtain ⟨w1, hw1⟩ : ∃ y, w.setCell ⟨bs, x, none⟩ (.bool true) = y := ⟨_, rfl⟩
  have hs1 : BolB bs (S.set x true) w1 := by rw [← hw1]; exact hs.set x true
  have hvb := bol_own hs ho
  have ho1 : w1.ownsRow W0.heap.size 3 1 lv L.length (L.map intC) := by
    rw [← hw1]
    exact own_block9 ho fun i hi => Below.heap_setCell _ _ _ _ (fun e => hvb (by rw [hi, e]))
  have hk1 : VisK bs lv.ownBlock w w1 := by
    rw [← hw1]
    exact ⟨rfl, rfl, rfl, by simp [World.setCell], fun k _ h2 _ => Below.heap_setCell _ _ _ _ (fun e => h2 e)⟩
  have hlift : ∀ V, VisK bs lv.ownBlock w V → VisK bs none W0 V := fun V hV =>
    ⟨hV.os.trans hb.os, hV.tape.trans hb.tape, hV.output.trans hb.output, Nat.le_trans hb.size hV.size, fun k h1 h2 h3 => (hV.block k (Nat.lt_of_lt_of_le h1 hb.size) h2 (fun e => by have := (ho.lt k e).1; omega)).trans (hb.block k h1 h2 h3)⟩
  have hB1 := hlift w1 hk1
  obtain ⟨vz, hvz⟩ := hZ.get hx
  have cz := (hZ.visk hB1 hap).load hvz
  have hrw : ∀ V, VisK bs none W0 V → RowN V vz (E x) := fun V hV => (hZ.visk hV hap).rowN hvz
  obtain ⟨AE, cE, hve, _⟩ := (hZ.rowN hvz).form
  obtain ⟨q, hq⟩ : ∃ q, (E x).length = q := ⟨_, rfl⟩
  have hq9 : q ≤ 1048576 := by rw [← hq]; exact hEl x
  rw [hq] at hve
  subst hve
  have H := Lib.hid (And.intro hs1 (And.intro ho1 (And.intro hk1 (And.intro hB1 (And.intro hrw (And.intro hq (And.intro h1 (And.intro hc hvb))))))))
  have HI := Lib.hid ih
  have HW := Lib.hid (And.intro hE (And.intro hS (And.intro hm hL)))
  have HB0 := Lib.hid (And.intro hlift hap)
  have q0 : (0 : Int) ≤ x := by omega
  have q1 : (x : Int) < n := by omega
  clear hs ho h1 hc hs1 hvb ho1 hk1 hB1 hvz hrw hq ih hE hS hm hL hb hZ hlift hap
  go_enter Tryd.func60, Tryd.ntmps60
  go_wp2_with fail
  go_loopw [3, 24] (fun sv kv wr => ∃ (k : Nat) (S' : List Bool) (L' : List Nat) (lv' : Value), lv' = sv ∧ kv = .int .i64 k ∧ k ≤ q ∧ Vs E ((E x).take k) (S.set x true) L S' L' ∧ BolB bs S' wr ∧ wr.ownsRow W0.heap.size 3 1 lv' L'.length (L'.map intC) ∧ VisK bs lv.ownBlock w wr ∧ NewR lv.ownBlock lv'.ownBlock w) (fun _ kv _ => q - (intOf kv).toNat)
  case atStart => exact ⟨0, _, L, lv, rfl, rfl, Nat.zero_le _, by rw [List.take_zero]; exact .nil, H.out.1, H.out.2.1, H.out.2.2.1, .inl rfl⟩
  case round =>
    obtain ⟨k, S', L', lv', rfl, rfl, hk, hV, hs', ho', hk', hnr⟩ := hrel
    have hBr := HB0.out.1 wr hk'
    obtain ⟨l5, hl5⟩ : ∃ l, L'.length = l := ⟨_, rfl⟩
    have hcn := hV.cnt
    have hle := hV.less
    have hb5 : L'.length + S'.count false ≤ 1000000 := by have := HW.out.2.2.2; have := H.out.2.2.2.2.2.2.2.1; omega
    have HV := Lib.hid (And.intro hV (And.intro hs' (And.intro ho' (And.intro hk' (And.intro hnr (And.intro hBr (And.intro hb5 hl5)))))))
    by_cases hkq : k < q
    · have hkE : k < (E x).length := by rw [H.out.2.2.2.2.2.1]; exact hkq
      have hat := (RowN.at9 (H.out.2.2.2.2.1 wr hBr)).2.2.2
      obtain ⟨ae, t, rfl, ht, ce⟩ := hat k hkq
      have htm : t ∈ E x := List.mem_of_getElem? ht
      have htn : t < n := HW.out.1 x hx t htm
      have htk : (E x).take (k + 1) = (E x).take k ++ [t] := by
        rw [List.take_succ_eq_append_getElem hkE]
        rw [List.getElem?_eq_getElem hkE] at ht
        rw [Option.some.inj ht]
      have hcall := HI.out t S' L' lv' bs wr (by have := HW.out.2.2.1; have := H.out.2.2.2.2.2.2.2.1; omega) (by rw [hV.ex.choose_spec.2.len, List.length_set]; exact HW.out.2.1) htn hb5 hBr HB0.out.2 hs' ho'
      have HC := Lib.hid hcall
      have HT := Lib.hid htk
      have r0 : (0 : Int) ≤ k := by omega
      have r1 : (k : Int) < q := by omega
      clear hV hs' ho' hk' hnr hBr hcn hle hb5 hl5 hkE hat ht htm htk hcall
      go_wp2_with fail
      with_reducible refine HC.out.mono ?_
      rintro e w5 ⟨S5, L5, lv5, rfl, hV5, hs5, ho5, hk5, hn5⟩
      have H5 := Lib.hid (And.intro hV5 (And.intro hs5 (And.intro ho5 (And.intro hk5 hn5))))
      clear hV5 hs5 ho5 hk5 hn5
      go_wp2_with fail
      refine ⟨⟨k + 1, S5, L5, _, rfl, by go_num, hkq, ?_, H5.out.2.1, H5.out.2.2.1, HV.out.2.2.2.1.trans H5.out.2.2.2.1 HV.out.2.2.2.2.1, HV.out.2.2.2.2.1.trans H5.out.2.2.2.2 HV.out.2.2.2.1.size⟩, by simp [intOf]; omega⟩
      rw [HT.out]
      exact HV.out.1.app H5.out.1
    · obtain rfl : q = k := by omega
      have htk : (E x).take q = E x := List.take_of_length_le (by rw [H.out.2.2.2.2.2.1]; exact Nat.le_refl _)
      have HT := Lib.hid htk
      have r1 : ¬ (q : Int) < q := by omega
      have hl9 : l5 ≤ 1000000 := by rw [← hl5]; omega
      rw [hl5] at ho'
      have HO := Lib.hid ho'
      have hws := hBr.size
      clear hV hs' ho' hk' hnr hBr hcn hle hb5 hl5 htk
      go_wp2_with
        (at_builtin
         refine wpList_app rfl (.tmp 34) (.tmp 36) 48 rfl elN W0.heap.size lv' l5 (L'.map intC) rfl (own_sameO HO.out ((Below.refl wr.heap.size wr).alloc (Nat.le_refl _) _)) (some ⟨wr.heap.size, 0, none⟩) 1 1 [.int .i64 (x : Nat)] rfl rfl (Rd.block (MapKept.heap_alloc wr (.cells #[.int .i64 (x : Nat)] 3)).1) (fun u hu => by rw [List.mem_singleton.1 hu]; rfl) (by unfold maxLen; omega) (by omega) (by rw [World.size_alloc]; omega) ?_
         intro v' w'' ho hg hob
         have HN2 := Lib.hid (And.intro ho (And.intro hg hob))
         clear ho hg hob)
      go_ret
      have hgr : VisK bs lv'.ownBlock (wr.alloc (.cells #[.int .i64 (x : Nat)] 3)) w'' := ⟨HN2.out.2.1.os, HN2.out.2.1.tape, HN2.out.2.1.output, HN2.out.2.1.size, fun b hb' _ h3 => HN2.out.2.1.block b hb' (fun e => h3 e.symm)⟩
      have hbf : BolB bs S' w'' := by
        have h3 := HV.out.2.1.below ((Below.refl wr.heap.size wr).alloc (Nat.le_refl _) (.cells #[.int .i64 (x : Nat)] 3))
        exact (HN2.out.2.1.block bs h3.lt (fun e => bol_own HV.out.2.1 HO.out e.symm)).trans h3
      have hnw : NewR lv'.ownBlock v'.ownBlock wr := by
        rcases HN2.out.2.2 with h | h
        · exact .inl h
        · refine .inr fun b hb' => ?_
          rw [h] at hb'
          injection hb' with hb'
          rw [World.size_alloc] at hb'
          omega
      have hk2 : VisK bs lv'.ownBlock wr w'' := (⟨rfl, rfl, rfl, by rw [World.size_alloc]; omega, fun b hb' _ _ => Below.heap_alloc wr _ b hb'⟩ : VisK bs lv'.ownBlock wr (wr.alloc (.cells #[.int .i64 (x : Nat)] 3))).trans hgr (.inl rfl)
      refine ⟨S', L' ++ [x], v', rfl, ?_, hbf, ?_, HV.out.2.2.2.1.trans hk2 HV.out.2.2.2.2.1, HV.out.2.2.2.2.1.trans hnw HV.out.2.2.2.1.size⟩
      · have hv := HV.out.1
        rw [HT.out] at hv
        exact .new H.out.2.2.2.2.2.2.1 hv .nil
      · rw [List.length_append, HV.out.2.2.2.2.2.2.2, List.map_append]
        exact HN2.out.1
theorem visit_all (W0 : World) (B g n : Nat) (Z : List Value) (E : Nat → List Nat) (hn : n ≤ 4096) (hZ : NxO W0 B g E n Z) (hE : ∀ i, i < n → ∀ j ∈ E i, j < n) (hEl : ∀ i, (E i).length ≤ 1048576) : ∀ m, ViC W0 g n Z E m
  | 0 => fun x S L lv bs w hm hS hx hL hb hap hs ho => by
    have hxs : x < S.length := by rw [hS]; exact hx
    cases h : S[x] with
    | true => exact visit_seen W0 g n E x S L lv bs w hx hs ho (by rw [List.getElem?_eq_getElem hxs, h])
    | false =>
      have := cnt_set S x (by rw [List.getElem?_eq_getElem hxs, h])
      omega
  | m + 1 => fun x S L lv bs w hm hS hx hL hb hap hs ho => by
    have hxs : x < S.length := by rw [hS]; exact hx
    cases h : S[x] with
    | true => exact visit_seen W0 g n E x S L lv bs w hx hs ho (by rw [List.getElem?_eq_getElem hxs, h])
    | false => exact visit_new W0 B g n Z E hn hZ hE hEl m (visit_all W0 B g n Z E hn hZ hE hEl m) x S L lv bs w hm hS hx hL hb hap hs ho (by rw [List.getElem?_eq_getElem hxs, h])
end Go.Proofs.YtkfnbapnkmlopaaDoor

/- PdDfs, PdLoop, PdLoopB, PdChk, in one text. -/
import Derived.Test.YtlogapkpllgdcaaGreatDoorMa7
import Derived.Test.YtlogapkpllgdcaaGreatDoorPdCh
import Derived.Test.YtlogapkpllgdcaaGreatDoorRlI7
import Derived.Laws.Rows
import Derived.Laws.OwnMore
/- How far each period was looked at: what the search for a loop keeps. Plain. -/
namespace Go.Proofs.YtlogapkpllgdcaaGreatDoor

def lk (L : List Int) (j : Nat) : Int := L.getD j 0
theorem lk_set {L : List Int} {i j : Nat} {x : Int} (hi : i < L.length) : lk (L.set i x) j = if j = i then x else lk L j := by
  unfold lk
  rw [List.getD_eq_getElem?_getD, List.getD_eq_getElem?_getD, List.getElem?_set]
  by_cases h : i = j
  · subst h; rw [if_pos rfl, if_pos hi, if_pos rfl]; rfl
  · rw [if_neg h, if_neg fun e => h e.symm]
theorem lk_out {L : List Int} {j : Nat} (h : L.length ≤ j) : lk L j = 0 := by
  unfold lk
  rw [List.getD_eq_getElem?_getD, List.getElem?_eq_none h]
  rfl
structure DInv (l : List Prd) (L : List Int) : Prop where
  len : L.length = l.length
  val : ∀ j, lk L j = 0 ∨ lk L j = 1 ∨ lk L j = 2
  closed : ∀ i j, lk L i = 2 → Step l i j → lk L j = 2
  none : ∀ i, lk L i = 2 → ¬ Way l i i
/-- From L on to L': who was begun is begun, who was done is done. -/
structure DOn (L L' : List Int) : Prop where
  begun : ∀ j, lk L' j = 1 ↔ lk L j = 1
  done : ∀ j, lk L j = 2 → lk L' j = 2
theorem DOn.refl (L : List Int) : DOn L L := ⟨fun _ => Iff.rfl, fun _ h => h⟩
theorem DOn.trans {L M R : List Int} (h : DOn L M) (h' : DOn M R) : DOn L R := ⟨fun j => (h'.begun j).trans (h.begun j), fun j hj => h'.done j (h.done j hj)⟩
theorem DInv.zero (l : List Prd) : DInv l (List.replicate l.length 0) := by
  have hz : ∀ j, lk (List.replicate l.length 0) j = 0 := fun j => by
    unfold lk
    rw [List.getD_eq_getElem?_getD, List.getElem?_replicate]
    split <;> rfl
  exact ⟨List.length_replicate, fun j => .inl (hz j), fun i _ h => absurd h (by rw [hz]; decide), fun i h => absurd h (by rw [hz]; decide)⟩
/-- How many were not seen. -/
def zeros (L : List Int) : Nat := ((List.range L.length).filter fun j => lk L j == 0).length
theorem filter_le {α : Type} (p q : α → Bool) : ∀ (L : List α), (∀ x ∈ L, p x = true → q x = true) → (L.filter p).length ≤ (L.filter q).length := by
  intro L
  induction L with
  | nil => intro _; simp
  | cons a L ih =>
    intro h
    have h1 := ih fun x hx => h x (List.mem_cons_of_mem _ hx)
    have h2 := h a List.mem_cons_self
    rw [List.filter_cons, List.filter_cons]
    by_cases ha : p a = true
    · rw [if_pos ha, if_pos (h2 ha)]; simpa using h1
    · rw [if_neg ha]; split <;> simp <;> omega
theorem zeros_on {l : List Prd} {L L' : List Int} (h : DInv l L) (h' : DInv l L') (ho : DOn L L') : zeros L' ≤ zeros L := by
  unfold zeros
  rw [h.len, h'.len]
  refine filter_le _ _ _ fun j _ hj => ?_
  have hj' : lk L' j = 0 := by simpa using hj
  rcases h.val j with e | e | e
  · rw [e]; rfl
  · have := (ho.begun j).2 e; omega
  · have := ho.done j e; omega
theorem zeros_set {L : List Int} {i : Nat} (hi : i < L.length) (h0 : lk L i = 0) (x : Int) (hx : x ≠ 0) : zeros (L.set i x) < zeros L := by
  unfold zeros
  rw [List.length_set]
  refine filter_lt _ _ _ (fun j _ hj => ?_) ⟨i, List.mem_range.2 hi, by rw [h0]; rfl, ?_⟩
  · rw [lk_set hi] at hj
    by_cases e : j = i
    · rw [if_pos e] at hj; exact absurd (by simpa using hj) hx
    · rw [if_neg e] at hj; exact hj
  · rw [lk_set hi, if_pos rfl]
    simpa using hx
/-- i is begun. -/
theorem DInv.begin_ {l : List Prd} {L : List Int} (h : DInv l L) {i : Nat} (hi : i < l.length) (h0 : lk L i = 0) : DInv l (L.set i 1) := by
  have hi' : i < L.length := by rw [h.len]; exact hi
  refine ⟨by rw [List.length_set]; exact h.len, fun j => ?_, fun a b ha hs => ?_, fun a ha => ?_⟩
  · rw [lk_set hi']; split
    · exact .inr (.inl rfl)
    · exact h.val j
  · rw [lk_set hi'] at ha ⊢
    by_cases e : a = i
    · rw [if_pos e] at ha; omega
    · rw [if_neg e] at ha
      have hb := h.closed a b ha hs
      rw [if_neg (fun e' => by rw [e', h0] at hb; omega)]
      exact hb
  · rw [lk_set hi'] at ha
    by_cases e : a = i
    · rw [if_pos e] at ha; omega
    · rw [if_neg e] at ha; exact h.none a ha
/-- i is done: all that it leads to is. -/
theorem DInv.end_ {l : List Prd} {L L' : List Int} (h : DInv l L) (h' : DInv l L') {i : Nat} (hi : i < l.length) (h0 : lk L i = 0) (ho : DOn (L.set i 1) L') (hall : ∀ j, Step l i j → lk L' j = 2) :
    DInv l (L'.set i 2) ∧ DOn L (L'.set i 2) := by
  have hi' : i < L.length := by rw [h.len]; exact hi
  have hi2 : i < L'.length := by rw [h'.len]; exact hi
  have h1 : lk L' i = 1 := (ho.begun i).2 (by rw [lk_set hi', if_pos rfl])
  refine ⟨⟨by rw [List.length_set]; exact h'.len, fun j => ?_, fun a b ha hs => ?_, fun a ha hw => ?_⟩, fun j => ?_, fun j hj => ?_⟩
  · rw [lk_set hi2]; split
    · exact .inr (.inr rfl)
    · exact h'.val j
  · rw [lk_set hi2] at ha ⊢
    by_cases e : b = i
    · rw [if_pos e]
    · rw [if_neg e]
      by_cases e' : a = i
      · exact hall b (e' ▸ hs)
      · rw [if_neg e'] at ha; exact h'.closed a b ha hs
  · rw [lk_set hi2] at ha
    by_cases e : a = i
    · subst e
      have hc : ∀ x y, lk L' x = 2 → Step l x y → lk L' y = 2 := h'.closed
      have : lk L' a = 2 := by
        cases hw with
        | one s => exact hall _ s
        | more s t => exact t.closed (D := fun x => lk L' x = 2) hc (hall _ s)
      omega
    · rw [if_neg e] at ha; exact h'.none a ha hw
  · rw [lk_set hi2]
    have := ho.begun j
    rw [lk_set hi'] at this
    by_cases e : j = i
    · rw [if_pos e, e, h0]; constructor <;> intro x <;> omega
    · rw [if_neg e]; rw [if_neg e] at this; exact this
  · rw [lk_set hi2]
    by_cases e : j = i
    · rw [if_pos e]
    · rw [if_neg e]
      exact ho.done j (by rw [lk_set hi', if_neg e]; exact hj)
/-- All are done: there is no loop. -/
theorem DInv.all {l : List Prd} {L : List Int} (h : DInv l L) (ha : ∀ i, i < l.length → lk L i = 2) : ¬ Loops l := fun ⟨i, hi⟩ => h.none i (ha i hi.lt) hi
end Go.Proofs.YtlogapkpllgdcaaGreatDoor
/- Contracts: isLoop, and the closure that goes down the excludes. -/
namespace Go.Proofs.YtlogapkpllgdcaaGreatDoor
open Go.RowKit

theorem intL_get (L : List Int) (k : Nat) (hk : k < L.length) : (intL L).toArray[k]? = some (.int .i64 (lk L k)) := by
  unfold intL lk
  rw [List.getElem?_toArray, List.getElem?_map, getD_some hk 0]
  rfl
theorem intL_set (L : List Int) (k : Nat) (x : Int) : (intL L).toArray.setIfInBounds k (.int .i64 x) = (intL (L.set k x)).toArray := by
  unfold intL
  simp [List.map_set]
/-- Where isLoop's variables lie: the set, how far each was looked at (array and variable), the closure. -/
structure LSt (l : List Prd) (v : Value) (w0 : World) (bL : Nat) (pL pS pC : Addr) (L : List Int) (W : World) : Prop where
  below : Below w0.heap.size w0 W
  arr : W.heap[bL]? = some (.cells (intL L).toArray 3 (0, 0))
  looked : W.cell? pL = some (.slice (some ⟨bL, 0, none⟩) l.length l.length)
  set : W.cell? pS = some v
  self : W.cell? pC = some (.func (.func 58) #[] #[.pointer (some pL), .pointer (some pS), .pointer (some pC)])
  base : w0.heap.size ≤ bL
  nL : pL.block ≠ bL
  nS : pS.block ≠ bL
  nC : pC.block ≠ bL
theorem LSt.drew {l : List Prd} {v : Value} {w0 : World} {bL : Nat} {pL pS pC : Addr} {L : List Int} {W : World} (h : LSt l v w0 bL pL pS pC L W) : LSt l v w0 bL pL pS pC L W.drew :=
  ⟨h.below.drew, h.arr, h.looked, h.set, h.self, h.base, h.nL, h.nS, h.nC⟩
theorem LSt.store {l : List Prd} {v : Value} {w0 : World} {bL : Nat} {pL pS pC : Addr} {L : List Int} {W : World} (h : LSt l v w0 bL pL pS pC L W) (i : Nat) (x : Int) :
    LSt l v w0 bL pL pS pC (L.set i x) (W.setCell ⟨bL, i, none⟩ (.int .i64 x)) := by
  have ho : ∀ p : Addr, p.block ≠ bL → (W.setCell ⟨bL, i, none⟩ (.int .i64 x)).cell? p = W.cell? p := fun p hp =>
    World.cell?_of_block (heap_setCell_other W ⟨bL, i, none⟩ p.block _ hp)
  refine ⟨h.below.setCell (p := ⟨bL, i, none⟩) h.base _, ?_, (ho _ h.nL).trans h.looked, (ho _ h.nS).trans h.set, (ho _ h.nC).trans h.self, h.base, h.nL, h.nS, h.nC⟩
  have := heap_setCell_same W bL i _ _ (.int .i64 x) h.arr
  rw [intL_set] at this
  exact this

/-- One of two, by a bool. -/
def TwoB (b : Bool) (p q : Prop) : Prop := (b = true ∧ p) ∨ (b = false ∧ q)
theorem two_of {e : Ending} {p q : Prop} (h : (e = .returned (.bool true) ∧ p) ∨ (e = .returned (.bool false) ∧ q)) : ∃ b, e = .returned (.bool b) ∧ TwoB b p q := by
  rcases h with ⟨he, h⟩ | ⟨he, h⟩
  · exact ⟨true, he, .inl ⟨rfl, h⟩⟩
  · exact ⟨false, he, .inr ⟨rfl, h⟩⟩
theorem ent_back : Ent1 58 := enters_of Tryz.func58 (by kernel_rfl) rfl
/-- What comesBack ends with. -/
def Back (l : List Prd) (v : Value) (w0 : World) (bL : Nat) (pL pS pC : Addr) (L : List Int) (i : Nat) (e : Ending) (W : World) : Prop :=
  (e = .returned (.bool true) ∧ Loops l ∧ ∃ L', LSt l v w0 bL pL pS pC L' W) ∨ (e = .returned (.bool false) ∧ ∃ L', LSt l v w0 bL pL pS pC L' W ∧ DInv l L' ∧ DOn L L' ∧ lk L' i = 2)
/-- What the walk of its excludes keeps. -/
def BackI (l : List Prd) (v : Value) (w0 : World) (bL : Nat) (pL pS pC : Addr) (L : List Int) (ex : List Int) (k : Nat) (W : World) : Prop :=
  ∃ L', LSt l v w0 bL pL pS pC L' W ∧ DInv l L' ∧ DOn L L' ∧ ∀ j, j < k → lk L' (ex.getD j 0).toNat = 2
def BackJ (l : List Prd) (v : Value) (w0 : World) (bL : Nat) (pL pS pC : Addr) (W : World) : Prop := Loops l ∧ ∃ L', LSt l v w0 bL pL pS pC L' W
set_option maxRecDepth 100000 in
set_option maxHeartbeats 1000000 in
theorem back_any (l : List Prd) (v : Value) (w0 : World) (bL : Nat) (pL pS pC : Addr) (hr : InRange l) (hset : HPd w0 v l) (hlx : ∀ p ∈ l, p.ex.length ≤ 1000000) :
    ∀ (m : Nat) (L : List Int) (i : Nat) (W : World), zeros L < m → LSt l v w0 bL pL pS pC L W → DInv l L → i < l.length → (∀ b, lk L b = 1 → Way l b i) →
      Calls Tryz.prog 58 #[.int .i64 i, .pointer (some pL), .pointer (some pS), .pointer (some pC)] W (Back l v w0 bL pL pS pC L i) := by
  obtain ⟨A, c, E, U, rfl, _, _, hk⟩ := hset
  intro m
  induction m with
  | zero => intro L i W hz; omega
  | succ m ih =>
    intro L i W hz hst hinv hi hpath
    have hi' : i < L.length := by rw [hinv.len]; exact hi
    have k1 := hst.looked
    have k2 : W.cell? ⟨bL, i, none⟩ = some (.int .i64 (lk L i)) := cell_blk hst.arr i (intL_get L i hi')
    by_cases h0 : lk L i = 0
    · have hst1 := hst.store i 1
      have hinv1 := hinv.begin_ hi h0
      obtain ⟨⟨ad, X, rfl, hX, x1, x2⟩, _, hu⟩ := hk i hi
      have HEX : Hid (l.getD i dP ∈ l) := getD_mem hi dP
      have hex : ∀ j : Nat, Step l i j ↔ (j : Int) ∈ (l.getD i dP).ex := fun j => ⟨fun ⟨p, hp, h⟩ => by rw [getD_some hi dP] at hp; injection hp with hp; rw [hp]; exact h, fun h => ⟨_, getD_some hi dP, h⟩⟩
      have hxr := hr _ (getD_mem hi dP)
      have hxl := hlx _ (getD_mem hi dP)
      generalize (l.getD i dP).ex = ex at *
      obtain ⟨W1, hW1⟩ : ∃ W1, W.setCell ⟨bL, i, none⟩ (.int .i64 1) = W1 := ⟨_, rfl⟩
      rw [hW1] at hst1
      have z1 := frz_blk hst.arr i
      have hz1 := zeros_set hi' h0 1 (by decide)
      have hp1 : ∀ b, lk (L.set i 1) b = 1 → ∀ j : Nat, (j : Int) ∈ ex → Way l b j := fun b hb j hj => by
        rw [lk_set hi'] at hb
        by_cases e : b = i
        · subst e; exact .one ((hex j).2 hj)
        · rw [if_neg e] at hb; exact (hpath b hb).snoc ((hex j).2 hj)
      have HC : Hid (∀ W', Below w0.heap.size w0 W' → LSt l (.slice (some ad) l.length c) w0 bL pL pS pC (L.set i 1) W' → Calls Tryz.prog 27 #[U i, .func (.func 58) #[] #[.pointer (some pL), .pointer (some pS), .pointer (some pC)]] W' fun e w' => ∃ b, e = .returned (.bool b) ∧ TwoB b (BackJ l (.slice (some ad) l.length c) w0 bL pL pS pC w') (BackI l (.slice (some ad) l.length c) w0 bL pL pS pC (L.set i 1) ex ex.length w')) := by
        intro W' hb' hst'
        refine Calls.mono ?_ fun e w' h => two_of h
        obtain ⟨A', c', e', _, _, h3⟩ := hu
        rw [e']
        refine containsI A' ex.length c' 58 _ W' ent_back (fun k => ex.getD k 0) (BackI l (.slice (some ad) l.length c) w0 bL pL pS pC (L.set i 1) ex) (BackJ l (.slice (some ad) l.length c) w0 bL pL pS pC) (fun k V hk' hV => ?_) (fun k V hk' hV => ?_) ⟨_, hst', hinv1, DOn.refl _, fun j hj => by omega⟩ hxl
        · obtain ⟨L', hs', _⟩ := hV
          obtain ⟨ad', e1, e2⟩ := h3 k hk'
          exact ⟨ad', e1, cell_below e2 hs'.below⟩
        · obtain ⟨L', hs', hi2, ho, hd⟩ := hV
          have hb := hxr _ (getD_mem hk' 0)
          obtain ⟨x, hx⟩ : ∃ x : Nat, ex.getD k 0 = x := ⟨(ex.getD k 0).toNat, by omega⟩
          have hxm : (x : Int) ∈ ex := by rw [← hx]; exact getD_mem hk' 0
          rw [hx]
          refine (ih L' x V ?_ hs' hi2 (by rw [hx] at hb; omega) (fun b hb' => hp1 b ((ho.begun b).1 hb') x hxm)).mono fun e W'' h => ?_
          · have := zeros_on hinv1 hi2 ho
            omega
          · rcases h with ⟨he, hl', hb'⟩ | ⟨he, L2, s2, i2, o2, d2⟩
            · exact .inl ⟨he, hl', hb'⟩
            · refine .inr ⟨he, L2, s2, i2, ho.trans o2, fun j hj => ?_⟩
              rcases Nat.lt_succ_iff_lt_or_eq.1 hj with h' | rfl
              · exact o2.done _ (hd j h')
              · rw [hx, Int.toNat_natCast]; exact d2
      have HEND : Hid (∀ w2 : World, BackI l (.slice (some ad) l.length c) w0 bL pL pS pC (L.set i 1) ex ex.length w2 → ∃ L', LSt l (.slice (some ad) l.length c) w0 bL pL pS pC L' w2 ∧ i < L'.length ∧ DInv l (L'.set i 2) ∧ DOn L (L'.set i 2)) := by
        intro w2 ⟨L', s2, i2, o2, d2⟩
        refine ⟨L', s2, by rw [i2.len]; exact hi, hinv.end_ i2 hi h0 o2 fun j hj => ?_⟩
        obtain ⟨k, hk', e⟩ := List.getElem_of_mem ((hex j).1 hj)
        have := d2 k hk'
        rw [List.getD_eq_getElem?_getD, List.getElem?_eq_getElem hk', Option.getD_some, e, Int.toNat_natCast] at this
        exact this
      have HSS := Lib.hid (show ∀ V, (∃ L', LSt l (.slice (some ad) l.length c) w0 bL pL pS pC L' V) → V.cell? pS = some (.slice (some ad) l.length c) ∧ V.cell? { block := X.block, off := X.off + 1 } = some (U i) ∧ V.cell? pC = some (.func (.func 58) #[] #[.pointer (some pL), .pointer (some pS), .pointer (some pC)]) from fun V ⟨L', h⟩ => ⟨h.set, cell_below x2 h.below, h.self⟩)
      have hs2 := (⟨_, hst1.drew⟩ : ∃ L', LSt l (.slice (some ad) l.length c) w0 bL pL pS pC L' W1.drew)
      have HST := Lib.hid hst1
      have HW1 := Lib.hid hW1
      have HX1 := Lib.hid x1
      have HX2 := Lib.hid x2
      rw [h0] at k2
      clear hst1 hW1 x1 x2 hst hinv hinv1 hpath hz hz1 hp1 hex hxr hxl hu ih hk
      go_enter Tryz.func58, Tryz.ntmps58
      go_wp2_with fail
      rw [HW1.out]
      go_region_held3 (fun V => V.cell? pS = some (.slice (some ad) l.length c) ∧ V.cell? { block := X.block, off := X.off + 1 } = some (U i) ∧ V.cell? pC = some (.func (.func 58) #[] #[.pointer (some pL), .pointer (some pS), .pointer (some pC)]))
        (exact HSS.out _ hs2)
        (first
          | (go_at_call 27
             refine (HC.out _ HST.out.below.drew HST.out.drew).mono ?_
             rintro e w2 ⟨b, rfl, htwo⟩
             clear hs2
             have hs2 : ∃ L', LSt l (.slice (some ad) l.length c) w0 bL pL pS pC L' w2 := by
               rcases htwo with ⟨_, _, h⟩ | ⟨_, L', h, _⟩
               · exact h
               · exact ⟨L', h⟩))
      all_goals
        clear hs2
        rcases htwo with ⟨rfl, hj⟩ | ⟨rfl, hj⟩
        · have HJ := Lib.hid hj
          clear hj
          go_wp2_with fail
          go_ret
          exact .inl ⟨rfl, HJ.out⟩
        · obtain ⟨L', s2, hi2, hd1, hd2⟩ := HEND.out _ hj
          have HD := Lib.hid (And.intro hd1 hd2)
          have H2 := Lib.hid s2
          have y1 := s2.looked
          have y2 := frz_blk s2.arr i
          have y3 : w2.cell? ⟨bL, i, none⟩ = some (.int .i64 (lk L' i)) := cell_blk s2.arr i (intL_get L' i hi2)
          have H3 := Lib.hid (show lk (L'.set i 2) i = 2 by rw [lk_set hi2, if_pos rfl])
          clear hd1 hd2 hj s2
          go_wp2_with fail
          go_ret
          exact .inr ⟨rfl, _, H2.out.store i 2, HD.out.1, HD.out.2, H3.out⟩
    · have H1 := Lib.hid hst
      have H3 : Hid (lk L i = 1 → Loops l) := fun h => ⟨i, hpath i h⟩
      have H5 : Hid (lk L i = 2 → ∃ L', LSt l (.slice A l.length c) w0 bL pL pS pC L' W ∧ DInv l L' ∧ DOn L L' ∧ lk L' i = 2) := fun h => ⟨L, hst, hinv, DOn.refl _, h⟩
      have H4 := hinv.val i
      clear hst hinv hpath hz ih hk
      obtain ⟨x, hx⟩ : ∃ x, lk L i = x := ⟨_, rfl⟩
      rw [hx] at H4 k2 h0
      have HX := Lib.hid hx
      clear hx
      rcases H4 with h | rfl | rfl
      · exact absurd h h0
      · have H6 := Lib.hid (H3.out HX.out)
        clear h0 H3 H5
        go_enter Tryz.func58, Tryz.ntmps58
        go_wp2_with fail
        go_ret
        exact .inl ⟨rfl, H6.out, _, H1.out⟩
      · have H6 := Lib.hid (H5.out HX.out)
        clear h0 H3 H5
        go_enter Tryz.func58, Tryz.ntmps58
        go_wp2_with fail
        go_ret
        exact .inr ⟨rfl, H6.out⟩
end Go.Proofs.YtlogapkpllgdcaaGreatDoor
/- Contract: isLoop. -/
namespace Go.Proofs.YtlogapkpllgdcaaGreatDoor
open Go.RowKit

theorem made_zero (n : Nat) : madeCells #[Value.int .i64 0] n = (intL (List.replicate n 0)).toArray := by
  rw [← Array.toList_inj, toList_madeCells_one]
  simp [intL]
theorem elI : Elem Tryz.prog 55 3 (.int .i64 0) 8 := ⟨Tryz.underlying55, by kernel_rfl, rfl⟩
/-- Four new blocks. -/
theorem blk4 (w : World) (o0 o1 o2 o3 : Obj) : ((((w.alloc o0).alloc o1).alloc o2).alloc o3).heap[w.heap.size]? = some o0 ∧ ((((w.alloc o0).alloc o1).alloc o2).alloc o3).heap[w.heap.size + 1]? = some o1 ∧
    ((((w.alloc o0).alloc o1).alloc o2).alloc o3).heap[w.heap.size + 2]? = some o2 ∧ ((((w.alloc o0).alloc o1).alloc o2).alloc o3).heap[w.heap.size + 3]? = some o3 := by
  have s1 : (w.alloc o0).heap.size = w.heap.size + 1 := World.size_alloc w o0
  have s2 : ((w.alloc o0).alloc o1).heap.size = w.heap.size + 2 := by rw [World.size_alloc, s1]
  have s3 : (((w.alloc o0).alloc o1).alloc o2).heap.size = w.heap.size + 3 := by rw [World.size_alloc, s2]
  have e0 := heap_alloc_new w o0
  have e1 := heap_alloc_new (w.alloc o0) o1
  have e2 := heap_alloc_new ((w.alloc o0).alloc o1) o2
  have e3 := heap_alloc_new (((w.alloc o0).alloc o1).alloc o2) o3
  rw [s1] at e1
  rw [s2] at e2
  rw [s3] at e3
  refine ⟨?_, ?_, ?_, e3⟩
  · rw [Below.heap_alloc _ _ _ (by omega), Below.heap_alloc _ _ _ (by omega), Below.heap_alloc _ _ _ (by omega), e0]
  · rw [Below.heap_alloc _ _ _ (by omega), Below.heap_alloc _ _ _ (by omega), e1]
  · rw [Below.heap_alloc _ _ _ (by omega), e2]
/-- A bool says p. -/
def Says (b : Bool) (p : Prop) : Prop := b = true ↔ p
/-- What isLoop's own loop keeps: the first k are done. -/
def LoopR (l : List Prd) (v : Value) (w0 : World) (bL : Nat) (pL pS pC : Addr) (k : Nat) (W : World) : Prop :=
  ∃ L, LSt l v w0 bL pL pS pC L W ∧ DInv l L ∧ (∀ b, lk L b ≠ 1) ∧ ∀ j, j < k → lk L j = 2
set_option maxRecDepth 100000 in
set_option maxHeartbeats 1000000 in
theorem isLoop_any (l : List Prd) (v : Value) (w : World) (hr : InRange l) (hset : HPd w v l) (hl : l.length ≤ 1000000) (hlx : ∀ p ∈ l, p.ex.length ≤ 1000000) :
    Calls Tryz.prog 31 #[v] w fun e w' => ∃ b, e = .returned (.bool b) ∧ Says b (Loops l) ∧ Below w.heap.size w w' := by
  have HBK := Lib.hid (back_any l v w (w.heap.size + 1) ⟨w.heap.size + 2, 0, none⟩ ⟨w.heap.size, 0, none⟩ ⟨w.heap.size + 3, 0, none⟩ hr hset hlx)
  obtain ⟨A, c, E, U, rfl, _, _, _⟩ := hset
  obtain ⟨n, hn⟩ : ∃ n, l.length = n := ⟨_, rfl⟩
  rw [hn] at hl ⊢
  rw [hn] at HBK
  have HN := Lib.hid hn
  have hmk : ∀ W : World, (Instr.makeSlice 55 (.int .i64 (n : Int)) (.int .i64 (n : Int))).run Tryz.prog W = .ok (.slice (some ⟨W.heap.size, 0, none⟩) n n) (W.alloc (.cells (madeCells #[.int .i64 0] n) 3)) := fun W => by
    have := run_mk elI (n : Int) (n : Int) (by omega) (Int.le_refl _) (by omega) (by omega) W
    exact this
  obtain ⟨w4, hw4⟩ : ∃ w4, (((w.alloc (.cells #[.slice A n c] 30)).alloc (.cells (madeCells #[.int .i64 0] n) 3)).alloc (.cells #[.slice (some ⟨w.heap.size + 1, 0, none⟩) n n] 55)).alloc (.cells #[.func (.func 58) #[] #[.pointer (some ⟨w.heap.size + 2, 0, none⟩), .pointer (some ⟨w.heap.size, 0, none⟩), .pointer (some ⟨w.heap.size + 3, 0, none⟩)]] 85) = w4 := ⟨_, rfl⟩
  have HR : Hid (LoopR l (.slice A n c) w (w.heap.size + 1) ⟨w.heap.size + 2, 0, none⟩ ⟨w.heap.size, 0, none⟩ ⟨w.heap.size + 3, 0, none⟩ 0 w4) := by
    have hz : lk (List.replicate n 0) = fun _ => 0 := funext fun j => by
      unfold lk
      rw [List.getD_eq_getElem?_getD, List.getElem?_replicate]
      split <;> rfl
    refine ⟨List.replicate n 0, ⟨?_, ?_, ?_, ?_, ?_, by omega, by simp, by simp, by simp⟩, by rw [← hn]; exact DInv.zero l, fun b => by rw [hz]; simp, fun j hj => by omega⟩
    · rw [← hw4]
      exact (((((Below.refl _ _).alloc (Nat.le_refl _) _).alloc (by simp) _).alloc (by simp; omega) _).alloc (by simp; omega) _)
    · rw [← hw4, ← made_zero]
      exact (blk4 _ _ _ _ _).2.1
    · rw [← hw4, hn]
      exact cell_blk (blk4 _ _ _ _ _).2.2.1 0 rfl
    · rw [← hw4]
      exact cell_blk (blk4 _ _ _ _ _).1 0 rfl
    · rw [← hw4]
      exact cell_blk (blk4 _ _ _ _ _).2.2.2 0 rfl
  have HW := Lib.hid hw4
  clear hn hw4 hlx
  go_enter Tryz.func31, Tryz.ntmps31
  go_wp2_with fail
  rw [HW.out]
  clear hmk
  go_loopw [12] (fun i wr => ∃ k : Nat, k ≤ n ∧ i = .int .i64 k ∧ LoopR l (.slice A n c) w (w.heap.size + 1) ⟨w.heap.size + 2, 0, none⟩ ⟨w.heap.size, 0, none⟩ ⟨w.heap.size + 3, 0, none⟩ k wr) (fun i _ => n - (intOf i).toNat)
  case atStart => exact ⟨0, Nat.zero_le _, rfl, HR.out⟩
  case round =>
    obtain ⟨k, hk, rfl, L, h1, h2, h3, h4⟩ := hrel
    have H1 := Lib.hid h1
    have H2 := Lib.hid h2
    have H3 := Lib.hid h3
    have H4 := Lib.hid h4
    clear h1 h2 h3 h4
    by_cases hlt : k < n
    · have y1 := H1.out.self
      go_wp2_with fail
      refine (HBK.out _ L k _ (Nat.lt_succ_self _) H1.out H2.out hlt (fun b hb => absurd hb (H3.out b))).mono ?_
      rintro e w' (⟨rfl, h5, L', h6⟩ | ⟨rfl, L', h6, h7, h8, h9⟩)
      · have H5 := Lib.hid h5
        have H6 := Lib.hid h6
        clear h5 h6 y1
        go_wp2_with fail
        go_ret
        exact ⟨true, rfl, ⟨fun _ => H5.out, fun _ => rfl⟩, H6.out.below⟩
      · have HR' : Hid (LoopR l (.slice A n c) w (w.heap.size + 1) ⟨w.heap.size + 2, 0, none⟩ ⟨w.heap.size, 0, none⟩ ⟨w.heap.size + 3, 0, none⟩ (k + 1) w') :=
          ⟨L', h6, h7, fun b hb => H3.out b ((h8.begun b).1 hb), fun j hj => by
            rcases Nat.lt_succ_iff_lt_or_eq.1 hj with h | rfl
            · exact h8.done j (H4.out j h)
            · exact h9⟩
        clear h6 h7 h8 h9 y1
        go_wp2_with fail
        go_roundw
        case rel => exact ⟨k + 1, by omega, by go_num, HR'.out⟩
        case measure => simp [intOf]; omega
    · obtain rfl : k = n := by omega
      go_wp2_with fail
      go_ret
      exact ⟨false, rfl, ⟨fun h => absurd h (by decide), fun h => absurd h (H2.out.all (fun i hi => H4.out i (by rw [HN.out] at hi; exact hi)))⟩, H1.out.below⟩
end Go.Proofs.YtlogapkpllgdcaaGreatDoor
/- Contract: Check. -/
namespace Go.Proofs.YtlogapkpllgdcaaGreatDoor
open Go.RowKit

open Classical in
/-- What Check answers, by its number; 0: none. -/
noncomputable def chk (l : List Prd) : Int :=
  if 64 < l.length ∨ l.any longP = true then 2 else if l.any wrongP = true then 1 else if l.any (noneP l.length) = true then 5 else if Loops l then 9 else 0
theorem chk_long {l : List Prd} (h : 64 < l.length ∨ l.any longP = true) : chk l = 2 := if_pos h
theorem chk_wrong {l : List Prd} (h : ¬ (64 < l.length ∨ l.any longP = true)) (h1 : l.any wrongP = true) : chk l = 1 := by
  unfold chk
  rw [if_neg h, if_pos h1]
theorem chk_none {l : List Prd} (h : ¬ (64 < l.length ∨ l.any longP = true)) (h1 : l.any wrongP = false) (h2 : l.any (noneP l.length) = true) : chk l = 5 := by
  unfold chk
  rw [if_neg h, if_neg (by rw [h1]; decide), if_pos h2]
theorem chk_loop {l : List Prd} (h : ¬ (64 < l.length ∨ l.any longP = true)) (h1 : l.any wrongP = false) (h2 : l.any (noneP l.length) = false) (h3 : Loops l) : chk l = 9 := by
  unfold chk
  rw [if_neg h, if_neg (by rw [h1]; decide), if_neg (by rw [h2]; decide), if_pos h3]
theorem chk_good {l : List Prd} (h : ¬ (64 < l.length ∨ l.any longP = true)) (h1 : l.any wrongP = false) (h2 : l.any (noneP l.length) = false) (h3 : ¬ Loops l) : chk l = 0 := by
  unfold chk
  rw [if_neg h, if_neg (by rw [h1]; decide), if_neg (by rw [h2]; decide), if_neg h3]
/-- What lists that may be are. -/
structure Good (l : List Prd) : Prop where
  len : l.length ≤ 64
  es : ∀ p ∈ l, p.es.length ≤ 64
  ex : ∀ p ∈ l, p.ex.length ≤ 64
  sp : ∀ p ∈ l, ∀ e ∈ p.es, e.sp.length ≤ 32
  may : ∀ p ∈ l, ∀ e ∈ p.es, mayR e.r = true
  span : ∀ p ∈ l, ∀ e ∈ p.es, ∀ s ∈ e.sp, badS s = false
  range : InRange l
  loops : ¬ Loops l
theorem short_of {l : List Prd} (h : ¬ (64 < l.length ∨ l.any longP = true)) : l.length ≤ 64 ∧ (∀ p ∈ l, p.es.length ≤ 64 ∧ p.ex.length ≤ 64 ∧ ∀ e ∈ p.es, e.sp.length ≤ 32) := by
  have h1 : ¬ 64 < l.length := fun x => h (.inl x)
  have h2 : l.any longP = false := by
    cases hx : l.any longP
    · rfl
    · exact absurd (.inr hx) h
  refine ⟨by omega, fun p hp => ?_⟩
  have h3 := List.any_eq_false.1 h2 p hp
  simp only [longP, Bool.not_eq_true, Bool.or_eq_false_iff, decide_eq_false_iff_not, List.any_eq_false] at h3
  refine ⟨by omega, by omega, fun e he => ?_⟩
  have := h3.2.2 e he
  simp only [longE, decide_eq_false_iff_not] at this
  omega
theorem good_of {l : List Prd} (h : chk l = 0) : Good l := by
  have a : ¬ (64 < l.length ∨ l.any longP = true) := fun x => by rw [chk_long x] at h; omega
  have b : l.any wrongP = false := by
    cases hx : l.any wrongP
    · rfl
    · rw [chk_wrong a hx] at h; omega
  have c : l.any (noneP l.length) = false := by
    cases hx : l.any (noneP l.length)
    · rfl
    · rw [chk_none a b hx] at h; omega
  have d : ¬ Loops l := fun x => by rw [chk_loop a b c x] at h; omega
  obtain ⟨s1, s2⟩ := short_of a
  have hw : ∀ p ∈ l, ∀ e ∈ p.es, mayR e.r = true ∧ ∀ s ∈ e.sp, badS s = false := fun p hp e he => by
    have h3 := List.any_eq_false.1 b p hp
    simp only [wrongP, Bool.not_eq_true, List.any_eq_false] at h3
    have h4 := h3 e he
    simp only [wrongE, Bool.or_eq_false_iff, Bool.not_eq_eq_eq_not, Bool.not_false, List.any_eq_false, Bool.not_eq_true] at h4
    exact h4
  exact ⟨s1, fun p hp => (s2 p hp).1, fun p hp => (s2 p hp).2.1, fun p hp => (s2 p hp).2.2, fun p hp e he => (hw p hp e he).1, fun p hp e he => (hw p hp e he).2, inRange_of c, d⟩
theorem errE_two : errE 2 = errK 2 := if_neg (by omega)
theorem errE_five : errE 5 = errK 5 := if_neg (by omega)
theorem errE_nine : errE 9 = errK 9 := if_neg (by omega)
set_option maxRecDepth 100000 in
set_option maxHeartbeats 2000000 in
theorem chk_any (l : List Prd) (v : Value) (w : World) (ht : Tab w) (hset : HPd w v l) :
    Calls Tryz.prog 12 #[v] w fun e w' => e = .returned (errE (chk l)) ∧ Below w.heap.size w w' := by
  have hset0 := hset
  obtain ⟨A, c, E, U, rfl, _, _, _⟩ := hset0
  obtain ⟨n, hn⟩ : ∃ n, l.length = n := ⟨_, rfl⟩
  rw [hn] at hset ⊢
  have hb1 := (Below.refl w.heap.size w).alloc (Nat.le_refl _) (.cells #[.slice A n c] 30)
  have hb2 := hb1.alloc hb1.size (.cells #[.func (.func 24) #[] #[.pointer (some ⟨w.heap.size, 0, none⟩)]] 85)
  have g1 := (Below.heap_alloc (w.alloc (.cells #[.slice A n c] 30)) (.cells #[.func (.func 24) #[] #[.pointer (some ⟨w.heap.size, 0, none⟩)]] 85) w.heap.size (by simp)).trans (heap_alloc_new w (.cells #[.slice A n c] 30))
  have g2 := heap_new2 w (.cells #[.slice A n c] 30) (.cells #[.func (.func 24) #[] #[.pointer (some ⟨w.heap.size, 0, none⟩)]] 85)
  obtain ⟨w2, hw2⟩ : ∃ w2, (w.alloc (.cells #[.slice A n c] 30)).alloc (.cells #[.func (.func 24) #[] #[.pointer (some ⟨w.heap.size, 0, none⟩)]] 85) = w2 := ⟨_, rfl⟩
  rw [hw2] at hb2 g1 g2
  have c1 : w2.cell? ⟨w.heap.size, 0, none⟩ = some (.slice A n c) := cell_blk g1 0 rfl
  have c2 : w2.cell? ⟨w.heap.size + 1, 0, none⟩ = some (.func (.func 24) #[] #[.pointer (some ⟨w.heap.size, 0, none⟩)]) := cell_blk g2 0 rfl
  have HSZ := Lib.hid hb2.size
  have HFIN := Lib.hid (fun W (hW : Below w2.heap.size w2 W) => hb2.trans (hW.mono hb2.size))
  have HC1 := Lib.hid (fun W (hW : Below w2.heap.size w2 W) => cell_below c1 hW)
  have HC2 := Lib.hid (fun W (hW : Below w2.heap.size w2 W) => cell_below c2 hW)
  have HSET := Lib.hid (fun W (hW : Below w2.heap.size w2 W) => hset.below (hb2.trans (hW.mono hb2.size)))
  have HTAB := Lib.hid (fun W (hW : Below w2.heap.size w2 W) => ht.below (hb2.trans (hW.mono hb2.size)))
  have HW := Lib.hid hw2
  clear hb1 hb2 g1 g2 c1 c2 hw2 ht hset
  by_cases hlen : 64 < n
  · have HK := Lib.hid (chk_long (l := l) (.inl (by rw [hn]; exact hlen)))
    have HN := Lib.hid hn
    clear hn
    rw [HK.out, errE_two]
    unfold errK
    have hd : decide (64 < (n : Int)) = true := decide_eq_true (by omega)
    go_enter Tryz.func12, Tryz.ntmps12
    go_wp2_with fail
    rw [HW.out]
    go_wp2_with fail
    go_ret
    exact ⟨rfl, HFIN.out _ (Below.refl _ _)⟩
  · have hd : decide (64 < (n : Int)) = false := decide_eq_false (by omega)
    have HL := Lib.hid (anyP 29 #[] w2 ent_longP longP (by rw [hn]; omega) (HSET.out w2 (Below.refl _ _)) (fun x s u W _ hs hu _ => longP_any x s u W hs hu))
    cases hlong : l.any longP
    · obtain ⟨_, hsh⟩ := short_of (l := l) (by rw [hn, hlong]; simpa using hlen)
      have HWR := Lib.hid (fun W (hW : Below w2.heap.size w2 W) => anyP 30 #[] W ent_wrongP wrongP (by rw [hn]; omega) (HSET.out W hW) (fun x s u W' hx hs _ hW' => wrongP_any x s u W' (HTAB.out _ (hW.trans (hW'.mono hW.size))) hs (by have := (hsh x hx).1; omega) (fun e he => by have := (hsh x hx).2.2 e he; omega)))
      have HNO := Lib.hid (fun W (hW : Below w2.heap.size w2 W) => anyP 26 #[.pointer (some ⟨w.heap.size + 1, 0, none⟩)] W (enters_of Tryz.func26 (by kernel_rfl) rfl) (noneP n) (by rw [hn]; omega) (HSET.out W hW) (fun x s u W' hx _ hu hW' => exNone_any ⟨w.heap.size, 0, none⟩ ⟨w.heap.size + 1, 0, none⟩ A n c x s u W' (HC1.out _ (hW.trans (hW'.mono hW.size))) (HC2.out _ (hW.trans (hW'.mono hW.size))) hu (by have := (hsh x hx).2.1; omega)))
      have HLO := Lib.hid (fun (hr : InRange l) W (hW : Below w2.heap.size w2 W) => isLoop_any l _ W hr (HSET.out W hW) (by rw [hn]; omega) (fun x hx => by have := (hsh x hx).2.1; omega))
      rw [hlong] at HL
      have HSH : Hid (¬ (64 < l.length ∨ l.any longP = true)) := by
        unfold Hid
        rw [hn, hlong]
        simpa using hlen
      have HN := Lib.hid hn
      clear hn hlong hsh
      cases hwr : l.any wrongP
      · rw [hwr] at HWR
        cases hno : l.any (noneP n)
        · have hno' : l.any (noneP l.length) = false := by rw [HN.out]; exact hno
          have HLO' := Lib.hid (HLO.out (inRange_of hno'))
          have HKY := Lib.hid (fun (h : Loops l) => chk_loop HSH.out hwr hno' h)
          have HKN := Lib.hid (fun (h : ¬ Loops l) => chk_good HSH.out hwr hno' h)
          rw [hno] at HNO
          clear hno hno' hwr HLO
          go_enter Tryz.func12, Tryz.ntmps12
          go_wp2_with fail
          rw [HW.out]
          have k1 := HC1.out _ (Below.refl _ _)
          go_wp2_with fail
          refine HL.out.mono ?_
          rintro e w3 ⟨rfl, hb3⟩
          have HB3 := Lib.hid hb3
          have k2 := HC1.out _ hb3
          clear hb3 k1
          go_wp2_with fail
          refine (HWR.out _ HB3.out).mono ?_
          rintro e w4 ⟨rfl, hb4⟩
          have HB4 := Lib.hid (HB3.out.trans (hb4.mono HB3.out.size))
          have k4 := HC1.out _ HB4.out
          clear hb4 k2
          go_wp2_with fail
          refine (HNO.out _ HB4.out).mono ?_
          rintro e w5 ⟨rfl, hb5⟩
          have HB5 := Lib.hid (HB4.out.trans (hb5.mono HB4.out.size))
          have k5 := HC1.out _ HB5.out
          clear hb5 k4
          go_wp2_with fail
          refine (HLO'.out _ HB5.out).mono ?_
          rintro e w6 ⟨b, rfl, hsay, hb6⟩
          have HB6 := Lib.hid (HB5.out.trans (hb6.mono HB5.out.size))
          have HSAY := Lib.hid hsay
          clear hb6 k5 hsay
          cases b
          · go_wp2_with fail
            go_ret
            exact ⟨by rw [HKN.out (fun h => by have := HSAY.out.2 h; cases this), errE_zero]; rfl, HFIN.out _ HB6.out⟩
          · go_wp2_with fail
            go_ret
            exact ⟨by rw [HKY.out (HSAY.out.1 rfl), errE_nine]; rfl, HFIN.out _ HB6.out⟩
        · have HK := Lib.hid (chk_none HSH.out hwr (show l.any (noneP l.length) = true by rw [HN.out]; exact hno))
          rw [hno] at HNO
          rw [HK.out, errE_five]
          unfold errK
          clear hno hwr HLO
          go_enter Tryz.func12, Tryz.ntmps12
          go_wp2_with fail
          rw [HW.out]
          have k1 := HC1.out _ (Below.refl _ _)
          go_wp2_with fail
          refine HL.out.mono ?_
          rintro e w3 ⟨rfl, hb3⟩
          have HB3 := Lib.hid hb3
          have k2 := HC1.out _ hb3
          clear hb3 k1
          go_wp2_with fail
          refine (HWR.out _ HB3.out).mono ?_
          rintro e w4 ⟨rfl, hb4⟩
          have HB4 := Lib.hid (HB3.out.trans (hb4.mono HB3.out.size))
          have k4 := HC1.out _ HB4.out
          clear hb4 k2
          go_wp2_with fail
          refine (HNO.out _ HB4.out).mono ?_
          rintro e w5 ⟨rfl, hb5⟩
          have HB5 := Lib.hid (HB4.out.trans (hb5.mono HB4.out.size))
          clear hb5 k4
          go_wp2_with fail
          go_ret
          exact ⟨rfl, HFIN.out _ HB5.out⟩
      · have HK := Lib.hid (chk_wrong HSH.out hwr)
        rw [hwr] at HWR
        rw [HK.out, errE_one]
        unfold errK
        clear hwr HLO HNO
        go_enter Tryz.func12, Tryz.ntmps12
        go_wp2_with fail
        rw [HW.out]
        have k1 := HC1.out _ (Below.refl _ _)
        go_wp2_with fail
        refine HL.out.mono ?_
        rintro e w3 ⟨rfl, hb3⟩
        have HB3 := Lib.hid hb3
        have k2 := HC1.out _ hb3
        clear hb3 k1
        go_wp2_with fail
        refine (HWR.out _ HB3.out).mono ?_
        rintro e w4 ⟨rfl, hb4⟩
        have HB4 := Lib.hid (HB3.out.trans (hb4.mono HB3.out.size))
        clear hb4 k2
        go_wp2_with fail
        go_ret
        exact ⟨rfl, HFIN.out _ HB4.out⟩
    · have HK := Lib.hid (chk_long (l := l) (.inr hlong))
      rw [hlong] at HL
      rw [HK.out, errE_two]
      unfold errK
      have HN := Lib.hid hn
      clear hlong hn
      go_enter Tryz.func12, Tryz.ntmps12
      go_wp2_with fail
      rw [HW.out]
      have k1 := HC1.out _ (Below.refl _ _)
      go_wp2_with fail
      refine HL.out.mono ?_
      rintro e w3 ⟨rfl, hb3⟩
      have HB3 := Lib.hid hb3
      clear hb3 k1
      go_wp2_with fail
      go_ret
      exact ⟨rfl, HFIN.out _ HB3.out⟩
end Go.Proofs.YtlogapkpllgdcaaGreatDoor

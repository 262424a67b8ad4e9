/- PdInB, PdInC, PdInD, PdIn, in one text. -/
import Derived.Test.YtlogapkpllgdcaaGreatDoorPdInA
import Derived.Test.YtlogapkpllgdcaaGreatDoorPdKe
/- What isIn keeps: who was looked at, and what was found. -/
namespace Go.Proofs.YtlogapkpllgdcaaGreatDoor
open Go.RowKit

def boolL (l : List Bool) : List Value := l.map .bool
theorem boolL_get (L : List Bool) (k : Nat) (hk : k < L.length) : (boolL L).toArray[k]? = some (.bool (L.getD k false)) := by
  unfold boolL
  rw [List.getElem?_toArray, List.getElem?_map, getD_some hk false]
  rfl
theorem boolL_set (L : List Bool) (k : Nat) (x : Bool) : (boolL L).toArray.setIfInBounds k (.bool x) = (boolL (L.set k x)).toArray := by
  unfold boolL
  simp [List.map_set]
theorem made_false (n : Nat) : madeCells #[Value.bool false] n = (boolL (List.replicate n false)).toArray := by
  rw [← Array.toList_inj, toList_madeCells_one]
  simp [boolL]
/-- All blocks of w1 but two are as they were. -/
def Keeps (bL bK : Nat) (w1 W : World) : Prop := w1.heap.size ≤ W.heap.size ∧ ∀ b, b < w1.heap.size → b ≠ bL → b ≠ bK → W.heap[b]? = w1.heap[b]?
/-- What was looked at, and found. -/
structure MB (l : List Prd) (hit : Ent → Bool) (w0 w1 : World) (bL bK : Nat) (W : World) : Prop where
  below : Below w0.heap.size w0 W
  keeps : Keeps bL bK w1 W
  bases : bL ≠ bK ∧ w0.heap.size ≤ bL ∧ w0.heap.size ≤ bK
  st : ∃ (L : List Int) (K : List Bool), L.length = l.length ∧ K.length = l.length ∧ W.heap[bL]? = some (.cells (intL L).toArray 3 (0, 0)) ∧ W.heap[bK]? = some (.cells (boolL K).toArray 4 (0, 0)) ∧ ∀ i, lk L i = 2 → K.getD i false = inn l hit i
section
variable {l : List Prd} {hit : Ent → Bool} {w0 w1 W W' : World} {bL bK : Nat}
theorem MB.cell (h : MB l hit w0 w1 bL bK W) {p : Addr} {v : Value} (hc : w1.cell? p = some v) (h1 : p.block ≠ bL) (h2 : p.block ≠ bK) : W.cell? p = some v :=
  (World.cell?_of_block (h.keeps.2 _ (World.block_lt_of_cell? w1 p hc) h1 h2)).trans hc
theorem MB.step (h : MB l hit w0 w1 bL bK W) (hb : Below W.heap.size W W') : MB l hit w0 w1 bL bK W' := by
  obtain ⟨L, K, e1, e2, e3, e4, e5⟩ := h.st
  refine ⟨h.below.trans (hb.mono h.below.size), ⟨Nat.le_trans h.keeps.1 hb.size, fun b hb' h1 h2 => (hb.block b (Nat.lt_of_lt_of_le hb' h.keeps.1)).trans (h.keeps.2 b hb' h1 h2)⟩, h.bases, L, K, e1, e2, ?_, ?_, e5⟩
  · exact (hb.block bL (Array.getElem?_eq_some_iff.1 e3).1).trans e3
  · exact (hb.block bK (Array.getElem?_eq_some_iff.1 e4).1).trans e4
theorem MB.drew (h : MB l hit w0 w1 bL bK W) : MB l hit w0 w1 bL bK W.drew := ⟨h.below.drew, h.keeps, h.bases, h.st⟩
theorem MB.store (h : MB l hit w0 w1 bL bK W) {i : Nat} (hi : i < l.length) : MB l hit w0 w1 bL bK ((W.setCell ⟨bK, i, none⟩ (.bool (inn l hit i))).setCell ⟨bL, i, none⟩ (.int .i64 2)) := by
  obtain ⟨L, K, e1, e2, e3, e4, e5⟩ := h.st
  obtain ⟨n1, n2, n3⟩ := h.bases
  refine ⟨(h.below.setCell (p := ⟨bK, i, none⟩) n3 _).setCell (p := ⟨bL, i, none⟩) n2 _, ⟨by simpa using h.keeps.1, fun b hb h1 h2 => ?_⟩, h.bases, L.set i 2, K.set i (inn l hit i), by rw [List.length_set]; exact e1, by rw [List.length_set]; exact e2, ?_, ?_, fun k hk => ?_⟩
  · rw [heap_setCell_other _ ⟨bL, i, none⟩ b _ h1, heap_setCell_other _ ⟨bK, i, none⟩ b _ h2]
    exact h.keeps.2 b hb h1 h2
  · have h1 := (heap_setCell_other W ⟨bK, i, none⟩ bL (.bool (inn l hit i)) n1).trans e3
    have := heap_setCell_same _ bL i _ _ (.int .i64 2) h1
    rw [intL_set] at this
    exact this
  · rw [heap_setCell_other _ ⟨bL, i, none⟩ bK _ (Ne.symm n1)]
    have := heap_setCell_same W bK i _ _ (.bool (inn l hit i)) e4
    rw [boolL_set] at this
    exact this
  · rw [lk_set (by rw [e1]; exact hi)] at hk
    rw [List.getD_eq_getElem?_getD, List.getElem?_set]
    by_cases e : i = k
    · subst e; rw [if_pos rfl, if_pos (by rw [e2]; exact hi)]; rfl
    · rw [if_neg e, ← List.getD_eq_getElem?_getD]
      rw [if_neg (fun e' => e e'.symm)] at hk
      exact e5 k hk
end
/-- Where isIn's variables lie: p S set, F has, C look; of keep: L, N, K. -/
structure Fix (l : List Prd) (v : Value) (w0 w1 : World) (bL bK pL pN pK pS pF pC pH bM : Nat) (day : Int) (j : Nat) : Prop where
  cL : w1.cell? ⟨pL, 0, none⟩ = some (.slice (some ⟨bL, 0, none⟩) l.length l.length)
  cK : w1.cell? ⟨pK, 0, none⟩ = some (.slice (some ⟨bK, 0, none⟩) l.length l.length)
  cN : w1.cell? ⟨pN, 0, none⟩ = some (.func (.func 45) #[] #[.pointer (some ⟨pS, 0, none⟩), .pointer (some ⟨pF, 0, none⟩), .pointer (some ⟨pC, 0, none⟩)])
  cS : w1.cell? ⟨pS, 0, none⟩ = some v
  cF : w1.cell? ⟨pF, 0, none⟩ = some (.func (.func 41) #[] #[.pointer (some ⟨pH, 0, none⟩), .pointer (some ⟨bM, 0, none⟩)])
  cH : w1.cell? ⟨pH, 0, none⟩ = some (.func (.func 40) #[] #[.pointer (some ⟨bM, 0, none⟩)])
  cC : w1.cell? ⟨pC, 0, none⟩ = some (.func (.func 75) #[] #[.pointer (some ⟨pL, 0, none⟩), .pointer (some ⟨pN, 0, none⟩), .pointer (some ⟨pK, 0, none⟩)])
  m0 : w1.cell? ⟨bM, 0, none⟩ = some (.int .i64 day)
  m1 : w1.cell? ⟨bM, 1, none⟩ = some (.int .i64 j)
  ne : (pL ≠ bL ∧ pL ≠ bK) ∧ (pK ≠ bL ∧ pK ≠ bK) ∧ (pN ≠ bL ∧ pN ≠ bK) ∧ (pS ≠ bL ∧ pS ≠ bK) ∧ (pF ≠ bL ∧ pF ≠ bK) ∧ (pH ≠ bL ∧ pH ≠ bK) ∧ (pC ≠ bL ∧ pC ≠ bK) ∧ (bM ≠ bL ∧ bM ≠ bK)
/-- ContainsFunc of ints, by a closure that answers p and keeps what is said of the world. -/
theorem keepI {v : Value} {l : List Int} (g : FuncId) (caps : Array Value) (w : World) (eg : Ent1 g) (p : Int → Bool) (hl : l.length ≤ 1000000) (I : World → Prop) (hv : ∀ W, I W → HIn W v l) (h0 : I w)
    (hp : ∀ x W, x ∈ l → I W → Calls Tryz.prog g (#[.int .i64 x] ++ caps) W fun e W' => e = .returned (.bool (p x)) ∧ I W') :
    Calls Tryz.prog 27 #[v, .func (.func g) #[] caps] w fun e w' => e = .returned (.bool (l.any p)) ∧ I w' := by
  obtain ⟨A, c, rfl, _, _, _⟩ := hv w h0
  refine (containsI A l.length c g caps w eg (fun k => l.getD k 0) (fun k W => I W ∧ (l.take k).any p = false) (fun W => I W ∧ l.any p = true) (fun k W hk hW => ?_) (fun k W hk hW => ?_) ⟨h0, rfl⟩ hl).mono fun e w' h => ?_
  · obtain ⟨A', c', e, _, _, h3⟩ := hv W hW.1
    injection e with e1 e2 e3
    subst e1
    exact h3 k hk
  · refine (hp _ W (getD_mem hk 0) hW.1).mono fun e W' ⟨he, hb⟩ => ?_
    cases h : p (l.getD k 0)
    · exact .inr ⟨by rw [he, h], hb, by rw [any_take p l 0 k hk, hW.2, h]; rfl⟩
    · exact .inl ⟨by rw [he, h], hb, any_hit hk h⟩
  · rcases h with ⟨he, hb, h⟩ | ⟨he, hb, h⟩
    · exact ⟨by rw [he, h], hb⟩
    · rw [List.take_length] at h
      exact ⟨by rw [he, h], hb⟩
theorem ent_look : Ent1 75 := enters_of Tryz.func75 (by kernel_rfl) rfl
set_option maxRecDepth 100000 in
set_option maxHeartbeats 2000000 in
theorem in3_yes (l : List Prd) (v : Value) (w0 w1 : World) (bL bK pL pN pK pS pF pC pH bM : Nat) (day : Int) (j : Nat) (hg : Good l) (ht : Tab w0) (hset : HPd w0 v l) (ha1 : -70368744177664 ≤ day) (ha2 : day ≤ 70368744177664)
    (hfix : Fix l v w0 w1 bL bK pL pN pK pS pF pC pH bM day j) (i : Nat) (hi : i < l.length) (W : World) (hW : MB l (hitE day j) w0 w1 bL bK W) (ha : (l.getD i dP).es.any (hitE day j) = true)
    (ih : ∀ (x : Nat) (V : World), Step l i x → x < l.length → MB l (hitE day j) w0 w1 bL bK V → Calls Tryz.prog 75 #[.int .i64 x, .pointer (some ⟨pL, 0, none⟩), .pointer (some ⟨pN, 0, none⟩), .pointer (some ⟨pK, 0, none⟩)] V fun e V' => e = .returned (.bool (inn l (hitE day j) x)) ∧ MB l (hitE day j) w0 w1 bL bK V') :
    Calls Tryz.prog 45 #[.int .i64 i, .pointer (some ⟨pS, 0, none⟩), .pointer (some ⟨pF, 0, none⟩), .pointer (some ⟨pC, 0, none⟩)] W fun e V' => e = .returned (.bool (inn l (hitE day j) i)) ∧ MB l (hitE day j) w0 w1 bL bK V' := by
  obtain ⟨A, c, E, U, rfl, _, _, hk⟩ := hset
  obtain ⟨⟨ad, X, rfl, hX, x1, x2⟩, hes, hex⟩ := hk i hi
  have hp := getD_some hi dP
  have hmem := getD_mem hi dP
  have hq := inn_eq (hitE day j) hg.loops hg.range hp
  rw [ha, Bool.true_and] at hq
  have HCE := Lib.hid (show ∀ V, MB l (hitE day j) w0 w1 bL bK V → Calls Tryz.prog 46 #[E i, .func (.func 41) #[] #[.pointer (some ⟨pH, 0, none⟩), .pointer (some ⟨bM, 0, none⟩)]] V fun e V' => e = .returned (.bool true) ∧ MB l (hitE day j) w0 w1 bL bK V' from fun V hV => by
    refine (anyE 41 #[.pointer (some ⟨pH, 0, none⟩), .pointer (some ⟨bM, 0, none⟩)] V ent_hasE (hitE day j) (by have := hg.es _ hmem; omega) (hes.below hV.below) fun x s V' hx hs hb => ?_).mono fun e V' ⟨he, hb⟩ => ⟨by rw [he, ha], hV.step hb⟩
    have hV' := hV.step hb
    exact hasE_any x s j bM pH day V' (ht.below hV'.below) hs (by have := hg.sp _ hmem x hx; omega) (hg.may _ hmem x hx) ha1 ha2 (hV'.cell hfix.m0 hfix.ne.2.2.2.2.2.2.2.1 hfix.ne.2.2.2.2.2.2.2.2) (hV'.cell hfix.m1 hfix.ne.2.2.2.2.2.2.2.1 hfix.ne.2.2.2.2.2.2.2.2) (hV'.cell hfix.cH hfix.ne.2.2.2.2.2.1.1 hfix.ne.2.2.2.2.2.1.2))
  have HCI := Lib.hid (show ∀ V, MB l (hitE day j) w0 w1 bL bK V → Calls Tryz.prog 27 #[U i, .func (.func 75) #[] #[.pointer (some ⟨pL, 0, none⟩), .pointer (some ⟨pN, 0, none⟩), .pointer (some ⟨pK, 0, none⟩)]] V fun e V' => e = .returned (.bool ((l.getD i dP).ex.any fun x => inn l (hitE day j) x.toNat)) ∧ MB l (hitE day j) w0 w1 bL bK V' from fun V hV =>
    keepI 75 #[.pointer (some ⟨pL, 0, none⟩), .pointer (some ⟨pN, 0, none⟩), .pointer (some ⟨pK, 0, none⟩)] V ent_look (fun x => inn l (hitE day j) x.toNat) (by have := hg.ex _ hmem; omega) (MB l (hitE day j) w0 w1 bL bK) (fun V' hV' => hex.below hV'.below) hV fun x V' hx hV' => by
      have hb := hg.range _ hmem x hx
      obtain ⟨y, rfl⟩ : ∃ y : Nat, x = y := ⟨x.toNat, by omega⟩
      exact ih y V' ⟨_, hp, hx⟩ (by omega) hV')
  have HSS := Lib.hid (show ∀ V, MB l (hitE day j) w0 w1 bL bK V → V.cell? ⟨pS, 0, none⟩ = some (.slice (some ad) l.length c) ∧ V.cell? X = some (E i) ∧ V.cell? { block := X.block, off := X.off + 1 } = some (U i) ∧ V.cell? ⟨pF, 0, none⟩ = some (.func (.func 41) #[] #[.pointer (some ⟨pH, 0, none⟩), .pointer (some ⟨bM, 0, none⟩)]) ∧ V.cell? ⟨pC, 0, none⟩ = some (.func (.func 75) #[] #[.pointer (some ⟨pL, 0, none⟩), .pointer (some ⟨pN, 0, none⟩), .pointer (some ⟨pK, 0, none⟩)]) from fun V hV =>
    ⟨hV.cell hfix.cS hfix.ne.2.2.2.1.1 hfix.ne.2.2.2.1.2, cell_below x1 hV.below, cell_below x2 hV.below, hV.cell hfix.cF hfix.ne.2.2.2.2.1.1 hfix.ne.2.2.2.2.1.2, hV.cell hfix.cC hfix.ne.2.2.2.2.2.2.1.1 hfix.ne.2.2.2.2.2.2.1.2⟩)
  have HQ := Lib.hid hq
  have hm0 := hW.drew
  generalize ((l.getD i dP).ex.any fun x => inn l (hitE day j) x.toNat) = r at *
  generalize inn l (hitE day j) i = b at *
  clear hq hp hmem hex hes x1 x2 hk ha ih hg ht hfix hW
  go_enter Tryz.func45, Tryz.ntmps45
  go_wp2_with fail
  go_region_held3 (fun V => V.cell? ⟨pS, 0, none⟩ = some (.slice (some ad) l.length c) ∧ V.cell? X = some (E i) ∧ V.cell? { block := X.block, off := X.off + 1 } = some (U i) ∧ V.cell? ⟨pF, 0, none⟩ = some (.func (.func 41) #[] #[.pointer (some ⟨pH, 0, none⟩), .pointer (some ⟨bM, 0, none⟩)]) ∧ V.cell? ⟨pC, 0, none⟩ = some (.func (.func 75) #[] #[.pointer (some ⟨pL, 0, none⟩), .pointer (some ⟨pN, 0, none⟩), .pointer (some ⟨pK, 0, none⟩)]))
    (exact HSS.out _ (by assumption))
    (first
      | (go_at_call 46
         refine (HCE.out _ hm0).mono ?_
         rintro e w2 ⟨rfl, hm1⟩
         clear hm0)
      | (go_at_call 27
         refine (HCI.out _ hm1).mono ?_
         rintro e w3 ⟨rfl, hm2⟩
         clear hm1))
  all_goals
    have HZ := Lib.hid hm2
    clear hm2
    go_wp2_with fail
    go_ret
    exact ⟨ret_bool HQ.out.symm, HZ.out⟩
end Go.Proofs.YtlogapkpllgdcaaGreatDoor
/- isIn's closure: the period's own entries have not the second. -/
namespace Go.Proofs.YtlogapkpllgdcaaGreatDoor
open Go.RowKit

set_option maxRecDepth 100000 in
set_option maxHeartbeats 2000000 in
theorem in3_no (l : List Prd) (v : Value) (w0 w1 : World) (bL bK pL pN pK pS pF pC pH bM : Nat) (day : Int) (j : Nat) (hg : Good l) (ht : Tab w0) (hset : HPd w0 v l) (ha1 : -70368744177664 ≤ day) (ha2 : day ≤ 70368744177664)
    (hfix : Fix l v w0 w1 bL bK pL pN pK pS pF pC pH bM day j) (i : Nat) (hi : i < l.length) (W : World) (hW : MB l (hitE day j) w0 w1 bL bK W) (ha : (l.getD i dP).es.any (hitE day j) = false) :
    Calls Tryz.prog 45 #[.int .i64 i, .pointer (some ⟨pS, 0, none⟩), .pointer (some ⟨pF, 0, none⟩), .pointer (some ⟨pC, 0, none⟩)] W fun e V' => e = .returned (.bool (inn l (hitE day j) i)) ∧ MB l (hitE day j) w0 w1 bL bK V' := by
  obtain ⟨A, c, E, U, rfl, _, _, hk⟩ := hset
  obtain ⟨⟨ad, X, rfl, hX, x1, x2⟩, hes, _⟩ := hk i hi
  have hp := getD_some hi dP
  have hmem := getD_mem hi dP
  have hq := inn_eq (hitE day j) hg.loops hg.range hp
  rw [ha, Bool.false_and] at hq
  have HCE := Lib.hid (show ∀ V, MB l (hitE day j) w0 w1 bL bK V → Calls Tryz.prog 46 #[E i, .func (.func 41) #[] #[.pointer (some ⟨pH, 0, none⟩), .pointer (some ⟨bM, 0, none⟩)]] V fun e V' => e = .returned (.bool false) ∧ MB l (hitE day j) w0 w1 bL bK V' from fun V hV => by
    refine (anyE 41 #[.pointer (some ⟨pH, 0, none⟩), .pointer (some ⟨bM, 0, none⟩)] V ent_hasE (hitE day j) (by have := hg.es _ hmem; omega) (hes.below hV.below) fun x s V' hx hs hb => ?_).mono fun e V' ⟨he, hb⟩ => ⟨by rw [he, ha], hV.step hb⟩
    have hV' := hV.step hb
    exact hasE_any x s j bM pH day V' (ht.below hV'.below) hs (by have := hg.sp _ hmem x hx; omega) (hg.may _ hmem x hx) ha1 ha2 (hV'.cell hfix.m0 hfix.ne.2.2.2.2.2.2.2.1 hfix.ne.2.2.2.2.2.2.2.2) (hV'.cell hfix.m1 hfix.ne.2.2.2.2.2.2.2.1 hfix.ne.2.2.2.2.2.2.2.2) (hV'.cell hfix.cH hfix.ne.2.2.2.2.2.1.1 hfix.ne.2.2.2.2.2.1.2))
  have HSS := Lib.hid (show ∀ V, MB l (hitE day j) w0 w1 bL bK V → V.cell? ⟨pS, 0, none⟩ = some (.slice (some ad) l.length c) ∧ V.cell? X = some (E i) ∧ V.cell? { block := X.block, off := X.off + 1 } = some (U i) ∧ V.cell? ⟨pF, 0, none⟩ = some (.func (.func 41) #[] #[.pointer (some ⟨pH, 0, none⟩), .pointer (some ⟨bM, 0, none⟩)]) ∧ V.cell? ⟨pC, 0, none⟩ = some (.func (.func 75) #[] #[.pointer (some ⟨pL, 0, none⟩), .pointer (some ⟨pN, 0, none⟩), .pointer (some ⟨pK, 0, none⟩)]) from fun V hV =>
    ⟨hV.cell hfix.cS hfix.ne.2.2.2.1.1 hfix.ne.2.2.2.1.2, cell_below x1 hV.below, cell_below x2 hV.below, hV.cell hfix.cF hfix.ne.2.2.2.2.1.1 hfix.ne.2.2.2.2.1.2, hV.cell hfix.cC hfix.ne.2.2.2.2.2.2.1.1 hfix.ne.2.2.2.2.2.2.1.2⟩)
  have HQ := Lib.hid hq
  have hm0 := hW.drew
  generalize inn l (hitE day j) i = b at *
  clear hq hp hmem hes x1 x2 hk ha hg ht hfix hW
  go_enter Tryz.func45, Tryz.ntmps45
  go_wp2_with fail
  refine wp_region_noPanic ?_
  refine wp_region_held_drew (S := fun V => MB l (hitE day j) w0 w1 bL bK V) (by kernel_rfl) hm0 (fun hHeld => ?_)
  refine' wpAnyH_take (i := 0) (oi := { dst := some 6, op := Go.Op.load 30 (Go.Operand.tmp 1), type := 30, pos := "period.go:195", after := #[], guard := none }) (v := _) rfl (by kernel_rfl) (by kernel_rfl) (by kernel_rfl) (fun _ _ _ h => h) (Or.inl ⟨by rfl, ?_⟩) (by assumption) ?_
  rotate_left
  · (intro W hSw; obtain ⟨f0, f1, f2, f3, f4⟩ := HSS.out _ hSw; go_simp; try with_reducible rfl)
  try simp only [Act.put, List.setIfInBounds_toArray, List.set_cons_zero, List.set_cons_succ]
  refine' wpAnyH_take (i := 1) (oi := { dst := some 7, op := Go.Op.move (Go.Operand.tmp 0), type := 3, pos := "period.go:195", after := #[], guard := none }) (v := _) rfl (by kernel_rfl) (by kernel_rfl) (by kernel_rfl) (fun _ _ _ h => h) (Or.inl ⟨by rfl, ?_⟩) (by assumption) ?_
  rotate_left
  · (intro W hSw; go_simp; try with_reducible rfl)
  try simp only [Act.put, List.setIfInBounds_toArray, List.set_cons_zero, List.set_cons_succ]
  refine' wpAnyH_take (i := 2) (oi := { dst := some 8, op := Go.Op.indexAddr 30 (Go.Operand.tmp 6) (Go.Operand.tmp 7), type := 0, pos := "period.go:195", after := #[{ on := 0, ground := Go.Ground.data }, { on := 1, ground := Go.Ground.data }], guard := none }) (v := _) rfl (by kernel_rfl) (by kernel_rfl) (by kernel_rfl) (fun _ _ _ h => h) (Or.inl ⟨by rfl, ?_⟩) (by assumption) ?_
  rotate_left
  · (intro W hSw; go_simp; try with_reducible rfl)
  try simp only [Act.put, List.setIfInBounds_toArray, List.set_cons_zero, List.set_cons_succ]
  refine' wpAnyH_take (i := 3) (oi := { dst := some 9, op := Go.Op.fieldAddr 71 (Go.Operand.tmp 8) 0, type := 0, pos := "period.go:195", after := #[{ on := 2, ground := Go.Ground.data }], guard := none }) (v := _) rfl (by kernel_rfl) (by kernel_rfl) (by kernel_rfl) (fun _ _ _ h => h) (Or.inl ⟨by rfl, ?_⟩) (by assumption) ?_
  rotate_left
  · (intro W hSw; go_simp; try with_reducible rfl)
  try simp only [Act.put, List.setIfInBounds_toArray, List.set_cons_zero, List.set_cons_succ]
  refine' wpAnyH_take (i := 4) (oi := { dst := some 10, op := Go.Op.load 69 (Go.Operand.tmp 9), type := 69, pos := "period.go:195", after := #[{ on := 3, ground := Go.Ground.data }], guard := none }) (v := _) rfl (by kernel_rfl) (by kernel_rfl) (by kernel_rfl) (fun _ _ _ h => h) (Or.inl ⟨by rfl, ?_⟩) (by assumption) ?_
  rotate_left
  · (intro W hSw; obtain ⟨f0, f1, f2, f3, f4⟩ := HSS.out _ hSw; go_simp; try with_reducible rfl)
  try simp only [Act.put, List.setIfInBounds_toArray, List.set_cons_zero, List.set_cons_succ]
  refine' wpAnyH_take (i := 5) (oi := { dst := some 11, op := Go.Op.load 104 (Go.Operand.tmp 2), type := 104, pos := "period.go:195", after := #[], guard := none }) (v := _) rfl (by kernel_rfl) (by kernel_rfl) (by kernel_rfl) (fun _ _ _ h => h) (Or.inl ⟨by rfl, ?_⟩) (by assumption) ?_
  rotate_left
  · (intro W hSw; obtain ⟨f0, f1, f2, f3, f4⟩ := HSS.out _ hSw; go_simp; try with_reducible rfl)
  try simp only [Act.put, List.setIfInBounds_toArray, List.set_cons_zero, List.set_cons_succ]
  refine wpAnyH_ready (rs := [6]) (by kernel_rfl) (by simp) ?_
  refine AllReadyH.cons (o := { dst := some 12, op := Go.Op.call { callee := Go.Callee.value (Go.Operand.func 46), args := #[Go.Operand.tmp 10, Go.Operand.tmp 11], argTypes := #[69, 104] }, type := 4, pos := "period.go:195", after := #[{ on := 4, ground := Go.Ground.data }, { on := 5, ground := Go.Ground.data }], guard := none }) rfl (fun K hK => ?_) AllReadyH.nil
  go_simp
  refine (HCE.out _ hHeld).mono ?_
  rintro e w2 ⟨rfl, hm1⟩
  clear hHeld
  try go_wp2_with fail
  refine hK.out _ _ hm1 (fun hHeld => ?_)
  clear hK K
  try simp only [Act.put, List.setIfInBounds_toArray, List.set_cons_zero, List.set_cons_succ]
  refine' wpAnyH_take (i := 7) (oi := { dst := some 13, op := Go.Op.move (Go.Operand.tmp 12), type := 4, pos := "period.go:195", after := #[{ on := 6, ground := Go.Ground.data }, { on := 6, ground := Go.Ground.chain }], guard := none }) (v := _) rfl (by kernel_rfl) (by kernel_rfl) (by kernel_rfl) (fun _ _ _ h => h) (Or.inl ⟨by rfl, ?_⟩) (by assumption) ?_
  rotate_left
  · (intro W hSw; go_simp; try with_reducible rfl)
  try simp only [Act.put, List.setIfInBounds_toArray, List.set_cons_zero, List.set_cons_succ]
  refine wpAnyH_take (i := 8) (oi := { dst := some 14, op := Go.Op.load 30 (Go.Operand.tmp 1), type := 30, pos := "period.go:195", after := #[{ on := 7, ground := Go.Ground.guard }], guard := some (7, true) }) (v := undef) rfl (by kernel_rfl) (by kernel_rfl) (by kernel_rfl) (fun _ _ _ h => h) (Or.inr ⟨by rfl, rfl⟩) (by assumption) ?_
  try simp only [Act.put, List.setIfInBounds_toArray, List.set_cons_zero, List.set_cons_succ]
  refine wpAnyH_take (i := 9) (oi := { dst := some 15, op := Go.Op.move (Go.Operand.tmp 0), type := 3, pos := "period.go:195", after := #[{ on := 7, ground := Go.Ground.guard }], guard := some (7, true) }) (v := undef) rfl (by kernel_rfl) (by kernel_rfl) (by kernel_rfl) (fun _ _ _ h => h) (Or.inr ⟨by rfl, rfl⟩) (by assumption) ?_
  try simp only [Act.put, List.setIfInBounds_toArray, List.set_cons_zero, List.set_cons_succ]
  refine wpAnyH_take (i := 10) (oi := { dst := some 16, op := Go.Op.indexAddr 30 (Go.Operand.tmp 14) (Go.Operand.tmp 15), type := 0, pos := "period.go:195", after := #[{ on := 8, ground := Go.Ground.data }, { on := 9, ground := Go.Ground.data }, { on := 7, ground := Go.Ground.guard }], guard := some (7, true) }) (v := undef) rfl (by kernel_rfl) (by kernel_rfl) (by kernel_rfl) (fun _ _ _ h => h) (Or.inr ⟨by rfl, rfl⟩) (by assumption) ?_
  try simp only [Act.put, List.setIfInBounds_toArray, List.set_cons_zero, List.set_cons_succ]
  refine wpAnyH_take (i := 11) (oi := { dst := some 17, op := Go.Op.fieldAddr 71 (Go.Operand.tmp 16) 1, type := 0, pos := "period.go:195", after := #[{ on := 10, ground := Go.Ground.data }, { on := 7, ground := Go.Ground.guard }], guard := some (7, true) }) (v := undef) rfl (by kernel_rfl) (by kernel_rfl) (by kernel_rfl) (fun _ _ _ h => h) (Or.inr ⟨by rfl, rfl⟩) (by assumption) ?_
  try simp only [Act.put, List.setIfInBounds_toArray, List.set_cons_zero, List.set_cons_succ]
  refine wpAnyH_take (i := 12) (oi := { dst := some 18, op := Go.Op.load 55 (Go.Operand.tmp 17), type := 55, pos := "period.go:195", after := #[{ on := 11, ground := Go.Ground.data }, { on := 7, ground := Go.Ground.guard }], guard := some (7, true) }) (v := undef) rfl (by kernel_rfl) (by kernel_rfl) (by kernel_rfl) (fun _ _ _ h => h) (Or.inr ⟨by rfl, rfl⟩) (by assumption) ?_
  try simp only [Act.put, List.setIfInBounds_toArray, List.set_cons_zero, List.set_cons_succ]
  refine wpAnyH_take (i := 13) (oi := { dst := some 19, op := Go.Op.load 85 (Go.Operand.tmp 3), type := 85, pos := "period.go:195", after := #[{ on := 7, ground := Go.Ground.guard }], guard := some (7, true) }) (v := undef) rfl (by kernel_rfl) (by kernel_rfl) (by kernel_rfl) (fun _ _ _ h => h) (Or.inr ⟨by rfl, rfl⟩) (by assumption) ?_
  try simp only [Act.put, List.setIfInBounds_toArray, List.set_cons_zero, List.set_cons_succ]
  refine wpAnyH_take (i := 14) (oi := { dst := some 20, op := Go.Op.call { callee := Go.Callee.value (Go.Operand.func 27), args := #[Go.Operand.tmp 18, Go.Operand.tmp 19], argTypes := #[55, 85] }, type := 4, pos := "period.go:195", after := #[{ on := 12, ground := Go.Ground.data }, { on := 13, ground := Go.Ground.data }, { on := 7, ground := Go.Ground.chain }, { on := 7, ground := Go.Ground.guard }], guard := some (7, true) }) (v := undef) rfl (by kernel_rfl) (by kernel_rfl) (by kernel_rfl) (fun _ _ _ h => h) (Or.inr ⟨by rfl, rfl⟩) (by assumption) ?_
  try simp only [Act.put, List.setIfInBounds_toArray, List.set_cons_zero, List.set_cons_succ]
  refine wpAnyH_take (i := 15) (oi := { dst := some 21, op := Go.Op.unOp Go.UnOp.not 4 (Go.Operand.tmp 20), type := 4, pos := "period.go:195", after := #[{ on := 14, ground := Go.Ground.data }, { on := 7, ground := Go.Ground.guard }], guard := some (7, true) }) (v := undef) rfl (by kernel_rfl) (by kernel_rfl) (by kernel_rfl) (fun _ _ _ h => h) (Or.inr ⟨by rfl, rfl⟩) (by assumption) ?_
  try simp only [Act.put, List.setIfInBounds_toArray, List.set_cons_zero, List.set_cons_succ]
  refine' wpAnyH_take (i := 16) (oi := { dst := some 22, op := Go.Op.pick (Go.Operand.tmp 13) (Go.Operand.tmp 21) (Go.Operand.const (Go.Value.bool false)), type := 4, pos := "period.go:195", after := #[{ on := 7, ground := Go.Ground.data }, { on := 15, ground := Go.Ground.data }], guard := none }) (v := _) rfl (by kernel_rfl) (by kernel_rfl) (by kernel_rfl) (fun _ _ _ h => h) (Or.inl ⟨by rfl, ?_⟩) (by assumption) ?_
  rotate_left
  · (intro W hSw; go_simp; try with_reducible rfl)
  try simp only [Act.put, List.setIfInBounds_toArray, List.set_cons_zero, List.set_cons_succ]
  refine' wpAnyH_take (i := 17) (oi := { dst := some 5, op := Go.Op.assign (Go.Operand.tmp 22), type := 4, pos := "period.go:195", after := #[{ on := 16, ground := Go.Ground.data }, { on := 14, ground := Go.Ground.chain }, { on := 0, ground := Go.Ground.phase }, { on := 1, ground := Go.Ground.phase }, { on := 2, ground := Go.Ground.phase }, { on := 3, ground := Go.Ground.phase }, { on := 4, ground := Go.Ground.phase }, { on := 5, ground := Go.Ground.phase }, { on := 6, ground := Go.Ground.phase }, { on := 7, ground := Go.Ground.phase }, { on := 8, ground := Go.Ground.phase }, { on := 9, ground := Go.Ground.phase }, { on := 10, ground := Go.Ground.phase }, { on := 11, ground := Go.Ground.phase }, { on := 12, ground := Go.Ground.phase }, { on := 13, ground := Go.Ground.phase }, { on := 14, ground := Go.Ground.phase }, { on := 15, ground := Go.Ground.phase }, { on := 16, ground := Go.Ground.phase }], guard := none }) (v := _) rfl (by kernel_rfl) (by kernel_rfl) (by kernel_rfl) (fun _ _ _ h => h) (Or.inl ⟨by rfl, ?_⟩) (by assumption) ?_
  rotate_left
  · (intro W hSw; go_simp; try with_reducible rfl)
  try simp only [Act.put, List.setIfInBounds_toArray, List.set_cons_zero, List.set_cons_succ]
  refine wpAnyH_done (by kernel_rfl) ?_ _
  refine NoPanic.normal ?_
  have HZ := Lib.hid hm1
  go_wp2_with fail
  go_ret
  exact ⟨ret_bool HQ.out.symm, HZ.out⟩
end Go.Proofs.YtlogapkpllgdcaaGreatDoor
/- isIn's closures together: look. -/
namespace Go.Proofs.YtlogapkpllgdcaaGreatDoor
open Go.RowKit

theorem MB.storeK {l : List Prd} {hit : Ent → Bool} {w0 w1 W : World} {bL bK : Nat} (h : MB l hit w0 w1 bL bK W) {i : Nat} (hi : i < l.length) : MB l hit w0 w1 bL bK (W.setCell ⟨bK, i, none⟩ (.bool (inn l hit i))) := by
  obtain ⟨L, K, e1, e2, e3, e4, e5⟩ := h.st
  obtain ⟨n1, n2, n3⟩ := h.bases
  refine ⟨h.below.setCell (p := ⟨bK, i, none⟩) n3 _, ⟨by simpa using h.keeps.1, fun b hb h1 h2 => ?_⟩, h.bases, L, K.set i (inn l hit i), e1, by rw [List.length_set]; exact e2, ?_, ?_, fun k hk => ?_⟩
  · rw [heap_setCell_other _ ⟨bK, i, none⟩ b _ h2]
    exact h.keeps.2 b hb h1 h2
  · exact (heap_setCell_other W ⟨bK, i, none⟩ bL (.bool (inn l hit i)) n1).trans e3
  · have := heap_setCell_same W bK i _ _ (.bool (inn l hit i)) e4
    rw [boolL_set] at this
    exact this
  · rw [List.getD_eq_getElem?_getD, List.getElem?_set]
    by_cases e : i = k
    · subst e; rw [if_pos rfl, if_pos (by rw [e2]; exact hi)]; rfl
    · rw [if_neg e, ← List.getD_eq_getElem?_getD]
      exact e5 k hk
theorem stored_b {W : World} {bL bK i : Nat} (hne : bL ≠ bK) {K : List Bool} (h : W.heap[bK]? = some (.cells (boolL K).toArray 4 (0, 0))) (hi : i < K.length) (b : Bool) :
    ((W.setCell ⟨bK, i, none⟩ (.bool b)).setCell ⟨bL, i, none⟩ (.int .i64 2)).cell? ⟨bK, i, none⟩ = some (.bool b) := by
  have h1 := heap_setCell_same W bK i _ _ (.bool b) h
  have h2 := (heap_setCell_other (W.setCell ⟨bK, i, none⟩ (.bool b)) ⟨bL, i, none⟩ bK (.int .i64 2) (Ne.symm hne)).trans h1
  rw [boolL_set] at h2
  have h3 := cell_blk h2 i (boolL_get (K.set i b) i (by rw [List.length_set]; exact hi))
  rw [h3, List.getD_eq_getElem?_getD, List.getElem?_set, if_pos rfl, if_pos hi]
  rfl
set_option maxRecDepth 100000 in
set_option maxHeartbeats 2000000 in
theorem look_any (l : List Prd) (v : Value) (w0 w1 : World) (bL bK pL pN pK pS pF pC pH bM : Nat) (day : Int) (j : Nat) (hg : Good l) (ht : Tab w0) (hset : HPd w0 v l) (ha1 : -70368744177664 ≤ day) (ha2 : day ≤ 70368744177664)
    (hfix : Fix l v w0 w1 bL bK pL pN pK pS pF pC pH bM day j) :
    ∀ (m : Nat) (i : Nat) (W : World), rk l i < m → i < l.length → MB l (hitE day j) w0 w1 bL bK W →
      Calls Tryz.prog 75 #[.int .i64 i, .pointer (some ⟨pL, 0, none⟩), .pointer (some ⟨pN, 0, none⟩), .pointer (some ⟨pK, 0, none⟩)] W fun e V' => e = .returned (.bool (inn l (hitE day j) i)) ∧ MB l (hitE day j) w0 w1 bL bK V' := by
  intro m
  induction m with
  | zero => intro i W h; omega
  | succ m ih =>
    intro i W hm hi hW
    have HC : Hid (∀ V, MB l (hitE day j) w0 w1 bL bK V → Calls Tryz.prog 45 #[.int .i64 i, .pointer (some ⟨pS, 0, none⟩), .pointer (some ⟨pF, 0, none⟩), .pointer (some ⟨pC, 0, none⟩)] V fun e V' => e = .returned (.bool (inn l (hitE day j) i)) ∧ MB l (hitE day j) w0 w1 bL bK V') := fun V hV => by
      cases ha : (l.getD i dP).es.any (hitE day j)
      · exact in3_no l v w0 w1 bL bK pL pN pK pS pF pC pH bM day j hg ht hset ha1 ha2 hfix i hi V hV ha
      · exact in3_yes l v w0 w1 bL bK pL pN pK pS pF pC pH bM day j hg ht hset ha1 ha2 hfix i hi V hV ha fun x V' hs hx hV' => ih x V' (by have := rk_lt hg.loops hs hx; omega) hx hV'
    have HSS := Lib.hid (show ∀ V, MB l (hitE day j) w0 w1 bL bK V → V.cell? ⟨pK, 0, none⟩ = some (.slice (some ⟨bK, 0, none⟩) l.length l.length) ∧ V.cell? ⟨pL, 0, none⟩ = some (.slice (some ⟨bL, 0, none⟩) l.length l.length) ∧ V.cell? ⟨pN, 0, none⟩ = some (.func (.func 45) #[] #[.pointer (some ⟨pS, 0, none⟩), .pointer (some ⟨pF, 0, none⟩), .pointer (some ⟨pC, 0, none⟩)]) from fun V hV =>
      ⟨hV.cell hfix.cK hfix.ne.2.1.1 hfix.ne.2.1.2, hV.cell hfix.cL hfix.ne.1.1 hfix.ne.1.2, hV.cell hfix.cN hfix.ne.2.2.1.1 hfix.ne.2.2.1.2⟩)
    have HMB := Lib.hid hW
    have hm0 := hW.drew
    obtain ⟨k1, k2, k3⟩ := HSS.out W hW
    have hst := hW.st
    obtain ⟨L, K, e1, e2, e3, e4, e5⟩ := hst
    have y1 : W.cell? ⟨bL, i, none⟩ = some (.int .i64 (lk L i)) := cell_blk e3 i (intL_get L i (by rw [e1]; exact hi))
    by_cases h2 : lk L i = 2
    · have y2 : W.cell? ⟨bK, i, none⟩ = some (.bool (K.getD i false)) := cell_blk e4 i (boolL_get K i (by rw [e2]; exact hi))
      rw [e5 i h2] at y2
      rw [h2] at y1
      generalize inn l (hitE day j) i = b at *
      clear e1 e2 e3 e4 e5 h2 hW hg ht hset hfix ih
      go_enter Tryz.func75, Tryz.ntmps75
      go_wp2_with fail
      go_ret
      exact ⟨rfl, HMB.out⟩
    · have hne : (lk L i != 2) = true := by simpa using h2
      obtain ⟨b, hb⟩ : ∃ b, inn l (hitE day j) i = b := ⟨_, rfl⟩
      have HQ := Lib.hid hb
      rw [hb] at HC
      generalize lk L i = x at *
      clear hb e1 e2 e3 e4 e5 h2 hW hg ht hset hfix ih
      rw [HQ.out]
      go_enter Tryz.func75, Tryz.ntmps75
      go_wp2_with fail
      clear k1 k2 k3 y1
      refine wp_region_noPanic ?_
      refine wp_region_held_drew (S := fun V => MB l (hitE day j) w0 w1 bL bK V) (by kernel_rfl) hm0 (fun hHeld => ?_)
      refine' wpAnyH_take (i := 0) (oi := { dst := some 11, op := Go.Op.load 91 (Go.Operand.tmp 3), type := 91, pos := "period.go:183", after := #[], guard := none }) (v := _) rfl (by kernel_rfl) (by kernel_rfl) (by kernel_rfl) (fun _ _ _ h => h) (Or.inl ⟨by rfl, ?_⟩) (by assumption) ?_
      rotate_left
      · (intro W hSw; obtain ⟨f0, f1, f2⟩ := HSS.out _ hSw; go_simp; try with_reducible rfl)
      try simp only [Act.put, List.setIfInBounds_toArray, List.set_cons_zero, List.set_cons_succ]
      refine' wpAnyH_take (i := 1) (oi := { dst := some 12, op := Go.Op.move (Go.Operand.tmp 0), type := 3, pos := "period.go:183", after := #[], guard := none }) (v := _) rfl (by kernel_rfl) (by kernel_rfl) (by kernel_rfl) (fun _ _ _ h => h) (Or.inl ⟨by rfl, ?_⟩) (by assumption) ?_
      rotate_left
      · (intro W hSw; go_simp; try with_reducible rfl)
      try simp only [Act.put, List.setIfInBounds_toArray, List.set_cons_zero, List.set_cons_succ]
      refine' wpAnyH_take (i := 2) (oi := { dst := some 13, op := Go.Op.load 55 (Go.Operand.tmp 1), type := 55, pos := "period.go:183", after := #[], guard := none }) (v := _) rfl (by kernel_rfl) (by kernel_rfl) (by kernel_rfl) (fun _ _ _ h => h) (Or.inl ⟨by rfl, ?_⟩) (by assumption) ?_
      rotate_left
      · (intro W hSw; obtain ⟨f0, f1, f2⟩ := HSS.out _ hSw; go_simp; try with_reducible rfl)
      try simp only [Act.put, List.setIfInBounds_toArray, List.set_cons_zero, List.set_cons_succ]
      refine' wpAnyH_take (i := 3) (oi := { dst := some 14, op := Go.Op.move (Go.Operand.tmp 0), type := 3, pos := "period.go:183", after := #[{ on := 8, ground := Go.Ground.gcOnly Go.Departure.lateStores }], guard := none }) (v := _) rfl (by kernel_rfl) (by kernel_rfl) (by kernel_rfl) (fun _ _ _ h => h) (Or.inl ⟨by rfl, ?_⟩) (by assumption) ?_
      rotate_left
      · (intro W hSw; go_simp; try with_reducible rfl)
      try simp only [Act.put, List.setIfInBounds_toArray, List.set_cons_zero, List.set_cons_succ]
      refine' wpAnyH_take (i := 4) (oi := { dst := some 15, op := Go.Op.load 85 (Go.Operand.tmp 2), type := 85, pos := "period.go:183", after := #[], guard := none }) (v := _) rfl (by kernel_rfl) (by kernel_rfl) (by kernel_rfl) (fun _ _ _ h => h) (Or.inl ⟨by rfl, ?_⟩) (by assumption) ?_
      rotate_left
      · (intro W hSw; obtain ⟨f0, f1, f2⟩ := HSS.out _ hSw; go_simp; try with_reducible rfl)
      try simp only [Act.put, List.setIfInBounds_toArray, List.set_cons_zero, List.set_cons_succ]
      refine' wpAnyH_take (i := 5) (oi := { dst := some 16, op := Go.Op.move (Go.Operand.tmp 0), type := 3, pos := "period.go:183", after := #[], guard := none }) (v := _) rfl (by kernel_rfl) (by kernel_rfl) (by kernel_rfl) (fun _ _ _ h => h) (Or.inl ⟨by rfl, ?_⟩) (by assumption) ?_
      rotate_left
      · (intro W hSw; go_simp; try with_reducible rfl)
      try simp only [Act.put, List.setIfInBounds_toArray, List.set_cons_zero, List.set_cons_succ]
      refine wpAnyH_ready (rs := [6]) (by kernel_rfl) (by simp) ?_
      refine AllReadyH.cons (o := { dst := some 17, op := Go.Op.call { callee := Go.Callee.value (Go.Operand.tmp 15), args := #[Go.Operand.tmp 16], argTypes := #[3] }, type := 4, pos := "period.go:183", after := #[{ on := 4, ground := Go.Ground.data }, { on := 5, ground := Go.Ground.data }], guard := none }) rfl (fun K hK => ?_) AllReadyH.nil
      go_simp
      refine (HC.out _ hHeld).mono ?_
      rintro e w2 ⟨rfl, hm1⟩
      clear hHeld
      try go_wp2_with fail
      refine hK.out _ _ hm1 (fun hHeld => ?_)
      clear hK K
      have hst := hm1.st
      obtain ⟨L2, K2, n1, n2, b1, b2, _⟩ := hst
      have z1 := cell_blk b2 i (boolL_get K2 i (by rw [n2]; exact hi))
      have z2 := frz_blk b2 i
      have hs1 := hm1.storeK hi
      have hs2 := hm1.store hi
      have b3 := (heap_setCell_other w2 ⟨bK, i, none⟩ bL (.bool (inn l (hitE day j) i)) hm1.bases.1).trans b1
      have z3 := cell_blk b3 i (intL_get L2 i (by rw [n1]; exact hi))
      have z4 := frz_blk b3 i
      have z5 := stored_b hm1.bases.1 b2 (i := i) (by rw [n2]; exact hi) (inn l (hitE day j) i)
      rw [HQ.out] at hs1 hs2 z3 z4 z5
      have HZ5 := Lib.hid z5
      clear z5
      clear n1 n2 b1 b2 b3 hm1
      try simp only [Act.put, List.setIfInBounds_toArray, List.set_cons_zero, List.set_cons_succ]
      refine' wpAnyH_take (i := 7) (oi := { dst := some 18, op := Go.Op.indexAddr 91 (Go.Operand.tmp 11) (Go.Operand.tmp 12), type := 0, pos := "period.go:183", after := #[{ on := 0, ground := Go.Ground.data }, { on := 1, ground := Go.Ground.data }, { on := 0, ground := Go.Ground.phase }, { on := 1, ground := Go.Ground.phase }, { on := 2, ground := Go.Ground.textOnly Go.Departure.inlinedCapture }, { on := 3, ground := Go.Ground.textOnly Go.Departure.lateStores }, { on := 4, ground := Go.Ground.phase }, { on := 5, ground := Go.Ground.phase }, { on := 6, ground := Go.Ground.phase }], guard := none }) (v := _) rfl (by kernel_rfl) (by kernel_rfl) (by kernel_rfl) (fun _ _ _ h => h) (Or.inl ⟨by rfl, ?_⟩) (by assumption) ?_
      rotate_left
      · (intro W hSw; go_simp; try with_reducible rfl)
      try simp only [Act.put, List.setIfInBounds_toArray, List.set_cons_zero, List.set_cons_succ]
      refine wpAnyH_ready (rs := [8]) (by kernel_rfl) (by simp) ?_
      refine AllReadyH.cons (o := { dst := none, op := Go.Op.store 4 (Go.Operand.tmp 18) (Go.Operand.tmp 17), type := 0, pos := "period.go:183", after := #[{ on := 7, ground := Go.Ground.data }, { on := 6, ground := Go.Ground.data }, { on := 6, ground := Go.Ground.chain }, { on := 0, ground := Go.Ground.phase }, { on := 1, ground := Go.Ground.phase }, { on := 2, ground := Go.Ground.textOnly Go.Departure.inlinedCapture }, { on := 3, ground := Go.Ground.textOnly Go.Departure.lateStores }, { on := 4, ground := Go.Ground.phase }, { on := 5, ground := Go.Ground.phase }, { on := 6, ground := Go.Ground.phase }], guard := none }) rfl (fun K hK => ?_) AllReadyH.nil
      go_simp
      refine hK.out _ _ hs1 (fun hHeld => ?_)
      clear hK K
      try simp only [Act.put, List.setIfInBounds_toArray, List.set_cons_zero, List.set_cons_succ]
      refine' wpAnyH_take (i := 9) (oi := { dst := some 19, op := Go.Op.indexAddr 55 (Go.Operand.tmp 13) (Go.Operand.tmp 14), type := 0, pos := "period.go:183", after := #[{ on := 2, ground := Go.Ground.data }, { on := 3, ground := Go.Ground.data }, { on := 0, ground := Go.Ground.phase }, { on := 1, ground := Go.Ground.phase }, { on := 2, ground := Go.Ground.phase }, { on := 3, ground := Go.Ground.phase }, { on := 4, ground := Go.Ground.phase }, { on := 5, ground := Go.Ground.phase }, { on := 6, ground := Go.Ground.phase }, { on := 7, ground := Go.Ground.phase }, { on := 8, ground := Go.Ground.phase }], guard := none }) (v := _) rfl (by kernel_rfl) (by kernel_rfl) (by kernel_rfl) (fun _ _ _ h => h) (Or.inl ⟨by rfl, ?_⟩) (by assumption) ?_
      rotate_left
      · (intro W hSw; go_simp; try with_reducible rfl)
      try simp only [Act.put, List.setIfInBounds_toArray, List.set_cons_zero, List.set_cons_succ]
      refine wpAnyH_ready (rs := [10]) (by kernel_rfl) (by simp) ?_
      refine AllReadyH.cons (o := { dst := none, op := Go.Op.store 3 (Go.Operand.tmp 19) (Go.Operand.const (Go.Value.int Go.IntKind.i64 2)), type := 0, pos := "period.go:183", after := #[{ on := 9, ground := Go.Ground.data }, { on := 8, ground := Go.Ground.chain }, { on := 0, ground := Go.Ground.phase }, { on := 1, ground := Go.Ground.phase }, { on := 2, ground := Go.Ground.phase }, { on := 3, ground := Go.Ground.phase }, { on := 4, ground := Go.Ground.phase }, { on := 5, ground := Go.Ground.phase }, { on := 6, ground := Go.Ground.phase }, { on := 7, ground := Go.Ground.phase }, { on := 8, ground := Go.Ground.phase }], guard := none }) rfl (fun K hK => ?_) AllReadyH.nil
      go_simp
      refine hK.out _ _ hs2 (fun hHeld => ?_)
      clear hK K
      try simp only [Act.put, List.setIfInBounds_toArray, List.set_cons_zero, List.set_cons_succ]
      refine wpAnyH_done (by kernel_rfl) ?_ _
      refine NoPanic.normal ?_
      have HZ := Lib.hid hHeld
      obtain ⟨k1, k2, k3⟩ := HSS.out _ hHeld
      have b5 := HZ5.out
      clear hs1 hs2 z1 z2 z3 z4 hHeld
      go_wp2_with fail
      go_ret
      exact ⟨rfl, HZ.out⟩
end Go.Proofs.YtlogapkpllgdcaaGreatDoor
/- Contract: isIn. -/
namespace Go.Proofs.YtlogapkpllgdcaaGreatDoor
open Go.RowKit

theorem lk_zero (n i : Nat) : lk (List.replicate n 0) i = 0 := by
  unfold lk
  rw [List.getD_eq_getElem?_getD, List.getElem?_replicate]
  split <;> rfl
set_option maxRecDepth 100000 in
set_option maxHeartbeats 2000000 in
theorem isIn_any (l : List Prd) (v : Value) (w : World) (day : Int) (j i : Nat) (hg : Good l) (ht : Tab w) (hset : HPd w v l) (ha1 : -70368744177664 ≤ day) (ha2 : day ≤ 70368744177664) (hi : i < l.length) :
    Calls Tryz.prog 19 #[v, .int .i64 i, .agg #[.int .i64 day, .int .i64 j]] w fun e w' => e = .returned (.bool (inn l (hitE day j) i)) ∧ Below w.heap.size w w' := by
  have HLK := Lib.hid (fun w1 bL bK pL pN pK pS pF pC pH bM => look_any l v w w1 bL bK pL pN pK pS pF pC pH bM day j hg ht hset ha1 ha2)
  obtain ⟨A, c, E, U, rfl, _, _, _⟩ := hset
  obtain ⟨n, hn⟩ : ∃ n, l.length = n := ⟨_, rfl⟩
  have hn64 : n ≤ 64 := by have := hg.len; omega
  rw [hn] at HLK ⊢
  have hb5 := (((((Below.refl w.heap.size w).alloc (Nat.le_refl _) (.cells #[.slice A n c] 30)).alloc (by simp) (.cells #[.int .i64 day, .int .i64 j] 73)).alloc (by simp; omega) (.cells #[.func (.func 40) #[] #[.pointer (some ⟨w.heap.size + 1, 0, none⟩)]] 101)).alloc (by simp; omega) (.cells #[.func (.func 41) #[] #[.pointer (some ⟨w.heap.size + 1 + 1, 0, none⟩), .pointer (some ⟨w.heap.size + 1, 0, none⟩)]] 104)).alloc (by simp; omega) (.cells #[.nilFunc] 85)
  obtain ⟨g0, g1, g2, g3, g4⟩ := blk5 w (.cells #[.slice A n c] 30) (.cells #[.int .i64 day, .int .i64 j] 73) (.cells #[.func (.func 40) #[] #[.pointer (some ⟨w.heap.size + 1, 0, none⟩)]] 101) (.cells #[.func (.func 41) #[] #[.pointer (some ⟨w.heap.size + 1 + 1, 0, none⟩), .pointer (some ⟨w.heap.size + 1, 0, none⟩)]] 104) (.cells #[.nilFunc] 85)
  obtain ⟨w5, hw5⟩ : ∃ w5, ((((w.alloc (.cells #[.slice A n c] 30)).alloc (.cells #[.int .i64 day, .int .i64 j] 73)).alloc (.cells #[.func (.func 40) #[] #[.pointer (some ⟨w.heap.size + 1, 0, none⟩)]] 101)).alloc (.cells #[.func (.func 41) #[] #[.pointer (some ⟨w.heap.size + 1 + 1, 0, none⟩), .pointer (some ⟨w.heap.size + 1, 0, none⟩)]] 104)).alloc (.cells #[.nilFunc] 85) = w5 := ⟨_, rfl⟩
  rw [hw5] at hb5 g0 g1 g2 g3 g4
  have HKP := Lib.hid (keepB_any n 45 #[.pointer (some ⟨w.heap.size, 0, none⟩), .pointer (some ⟨w.heap.size + 1 + 1 + 1, 0, none⟩), .pointer (some ⟨w.heap.size + 1 + 1 + 1 + 1, 0, none⟩)] w5 (by omega))
  have HG := Lib.hid (And.intro g0 (And.intro g1 (And.intro g2 (And.intro g3 (And.intro g4 hb5)))))
  have HN := Lib.hid hn
  have HW := Lib.hid hw5
  have HR := Lib.hid (rk_le l i)
  have c0 := cell_blk g0 0 (v := .slice A n c) rfl
  clear g0 g1 g2 g3 g4 hb5 hw5 hn hg ht
  go_enter Tryz.func19, Tryz.ntmps19
  go_wp2_with fail
  rw [HW.out]
  go_wp2_with fail
  refine HKP.out.mono ?_
  rintro e w6 ⟨pL, pN, pK, bL, bK, rfl, hk⟩
  have hG := HG.out
  obtain ⟨g0, g1, g2, g3, g4, hb5⟩ := hG
  have l0 := (Array.getElem?_eq_some_iff.1 g0).1
  have l1 := (Array.getElem?_eq_some_iff.1 g1).1
  have l2 := (Array.getElem?_eq_some_iff.1 g2).1
  have l3 := (Array.getElem?_eq_some_iff.1 g3).1
  have l4 := (Array.getElem?_eq_some_iff.1 g4).1
  have q0 := (hk.below.block _ l0).trans g0
  have q1 := (hk.below.block _ l1).trans g1
  have q2 := (hk.below.block _ l2).trans g2
  have q3 := (hk.below.block _ l3).trans g3
  have q4 := (hk.below.block _ l4).trans g4
  obtain ⟨⟨t1, kL⟩, ⟨t2, kK⟩, ⟨t3, kN⟩, aL, aK, hb6, n1, n2, n3, n4, n5, n6, n7, n8, n9, n10, n11, n12⟩ := hk
  have y1 := frz_blk q4 0
  have y2 := cell_blk q4 0 (v := .nilFunc) rfl
  have ho : ∀ (b : Nat) (o : Obj), w6.heap[b]? = some o → b ≠ w.heap.size + 1 + 1 + 1 + 1 → (w6.setCell ⟨w.heap.size + 1 + 1 + 1 + 1, 0, none⟩ (.func (.func 75) #[] #[.pointer (some ⟨pL, 0, none⟩), .pointer (some ⟨pN, 0, none⟩), .pointer (some ⟨pK, 0, none⟩)])).heap[b]? = some o := fun b o h hne =>
    (heap_setCell_other w6 ⟨w.heap.size + 1 + 1 + 1 + 1, 0, none⟩ b _ hne).trans h
  have hs := heap_setCell_same w6 (w.heap.size + 1 + 1 + 1 + 1) 0 _ _ (.func (.func 75) #[] #[.pointer (some ⟨pL, 0, none⟩), .pointer (some ⟨pN, 0, none⟩), .pointer (some ⟨pK, 0, none⟩)]) q4
  have hb7 : Below w.heap.size w (w6.setCell ⟨w.heap.size + 1 + 1 + 1 + 1, 0, none⟩ (.func (.func 75) #[] #[.pointer (some ⟨pL, 0, none⟩), .pointer (some ⟨pN, 0, none⟩), .pointer (some ⟨pK, 0, none⟩)])) :=
    (hb5.trans (hb6.mono hb5.size)).setCell (p := ⟨w.heap.size + 1 + 1 + 1 + 1, 0, none⟩) (by simp; omega) _
  obtain ⟨w7, hw7⟩ : ∃ w7, w6.setCell ⟨w.heap.size + 1 + 1 + 1 + 1, 0, none⟩ (.func (.func 75) #[] #[.pointer (some ⟨pL, 0, none⟩), .pointer (some ⟨pN, 0, none⟩), .pointer (some ⟨pK, 0, none⟩)]) = w7 := ⟨_, rfl⟩
  rw [hw7] at ho hs hb7
  have HF : Hid (Fix l (.slice A n c) w w7 bL bK pL pN pK w.heap.size (w.heap.size + 1 + 1 + 1) (w.heap.size + 1 + 1 + 1 + 1) (w.heap.size + 1 + 1) (w.heap.size + 1) day j) :=
    ⟨by rw [HN.out]; exact cell_blk (ho _ _ kL (by omega)) 0 rfl, by rw [HN.out]; exact cell_blk (ho _ _ kK (by omega)) 0 rfl, cell_blk (ho _ _ kN (by omega)) 0 rfl, cell_blk (ho _ _ q0 (by omega)) 0 rfl, cell_blk (ho _ _ q3 (by omega)) 0 rfl, cell_blk (ho _ _ q2 (by omega)) 0 rfl, cell_blk hs 0 rfl, cell_blk (ho _ _ q1 (by omega)) 0 rfl, cell_blk (ho _ _ q1 (by omega)) 1 rfl, by omega⟩
  have HM : Hid (MB l (hitE day j) w w7 bL bK w7) :=
    ⟨hb7, ⟨Nat.le_refl _, fun _ _ _ _ => rfl⟩, ⟨n1, by omega, by omega⟩, List.replicate n 0, List.replicate n false, by rw [List.length_replicate, HN.out], by rw [List.length_replicate, HN.out], by rw [← made_zero]; exact ho _ _ aL (by omega), by rw [← made_false]; exact ho _ _ aK (by omega), fun k hk => by rw [lk_zero] at hk; omega⟩
  have HW7 := Lib.hid hw7
  have y3 := cell_blk hs 0 (v := .func (.func 75) #[] #[.pointer (some ⟨pL, 0, none⟩), .pointer (some ⟨pN, 0, none⟩), .pointer (some ⟨pK, 0, none⟩)]) rfl
  clear l0 l1 l2 l3 l4 q0 q1 q2 q3 q4 kL kK kN aL aK hb6 n1 n2 n3 n4 n5 n6 n7 n8 n9 n10 n11 n12 g0 g1 g2 g3 g4 hb5 ho hs hb7 hw7 c0
  go_wp2_with fail
  rw [HW7.out]
  go_wp2_with fail
  refine (HLK.out w7 bL bK pL pN pK _ _ _ _ _ HF.out (n + 1) i w7 (by have := HR.out; have := HN.out; omega) (by rw [← HN.out]; exact hi) HM.out).mono ?_
  rintro e w8 ⟨rfl, hm⟩
  have HZ := Lib.hid hm.below
  clear hm
  go_wp2_with fail
  go_ret
  exact ⟨rfl, HZ.out⟩
end Go.Proofs.YtlogapkpllgdcaaGreatDoor

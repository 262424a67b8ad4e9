/- GpB, GpSt, GpAd, in one text. -/
import Derived.Lib.TrailingZeros
import Derived.Test.YtkfnbapnkmlopaaDoorGpNm
import Derived.Test.YtkfnbapnkmlopaaDoorGrAq
import Derived.Maps.Ext
import Derived.Laws.ShiftsVar
/- Plain: places as bits of words; a list of places that stands in any order, sorted. -/
namespace Go.Proofs.YtkfnbapnkmlopaaDoor

/-- Place p of words: bit p % 64 of word p / 64. -/
def stB (W : Nat → Nat) (p : Nat) : Bool := (W (p / 64)).testBit (p % 64)
def W64 (W : Nat → Nat) : Prop := ∀ j, W j < 18446744073709551616
theorem ctz_form {x : Nat} (h0 : x ≠ 0) (h : x < 18446744073709551616) : ∃ k m, Lib.ctz 64 x = k ∧ x = 2 ^ k * (2 * m + 1) ∧ k < 64 := by
  obtain ⟨m, hm, hk⟩ := Lib.ctzFrom_spec 64 x (by omega) h
  have e : Lib.ctz 64 x = Lib.ctzFrom 64 x := by simp [Lib.ctz, h0]
  exact ⟨_, m, e, hm, hk⟩
theorem ctz_on {x : Nat} (h0 : x ≠ 0) (h : x < 18446744073709551616) : x.testBit (Lib.ctz 64 x) = true := by
  obtain ⟨k, m, e, hx, _⟩ := ctz_form h0 h
  rw [e]
  have e2 : x = 2 ^ k * (2 * m + 1) + 0 := hx
  rw [e2, Nat.testBit_two_pow_mul_add _ (Nat.two_pow_pos k), if_neg (Nat.lt_irrefl k), Nat.sub_self]
  simp [Nat.testBit_zero]
/-- A word without its lowest bit. -/
theorem low_off {x : Nat} (h0 : x ≠ 0) (h : x < 18446744073709551616) (i : Nat) : (x &&& (x - 1)).testBit i = (x.testBit i && decide (i ≠ Lib.ctz 64 x)) := by
  obtain ⟨k, m, e, hx, _⟩ := ctz_form h0 h
  rw [e, Nat.testBit_and]
  have hp := Nat.two_pow_pos k
  have e1 : x = 2 ^ k * (2 * m + 1) + 0 := hx
  have e2 : x - 1 = 2 ^ k * (2 * m) + (2 ^ k - 1) := by rw [hx, Nat.mul_add]; omega
  rw [e2, Nat.testBit_two_pow_mul_add _ (by omega)]
  by_cases hi : i < k
  · have e3 : x.testBit i = false := by rw [e1, Nat.testBit_two_pow_mul_add _ hp, if_pos hi]; simp
    rw [e3]
    rfl
  · rw [if_neg hi, e1, Nat.testBit_two_pow_mul_add _ hp, if_neg hi]
    obtain ⟨d, rfl⟩ : ∃ d, i = k + d := ⟨i - k, by omega⟩
    rw [Nat.add_sub_cancel_left]
    cases d with
    | zero => simp [Nat.testBit_zero]
    | succ d =>
      rw [Nat.testBit_succ, Nat.testBit_succ]
      have d1 : (2 * m + 1) / 2 = m := by omega
      have d2 : 2 * m / 2 = m := by omega
      rw [d1, d2]
      simp
theorem low_lt {x : Nat} (h0 : x ≠ 0) : x &&& (x - 1) < x := by
  have := Nat.and_le_right (n := x) (m := x - 1)
  omega
theorem stB_add (W : Nat → Nat) (p q : Nat) : stB (fun j => if j = p / 64 then W j ||| 2 ^ (p % 64) else W j) q = (stB W q || decide (q = p)) := by
  unfold stB
  dsimp only
  by_cases e : q / 64 = p / 64
  · rw [if_pos e, Nat.testBit_or, Nat.testBit_two_pow]
    congr 1
    rw [decide_eq_decide]
    omega
  · rw [if_neg e, decide_eq_false (by intro h; rw [h] at e; exact e rfl), Bool.or_false]
theorem w64_add {W : Nat → Nat} (h : W64 W) (a b : Nat) (hb : b < 18446744073709551616) : W64 (fun j => if j = a then W j ||| b else W j) := fun j => by
  dsimp only
  split
  · exact Nat.or_lt_two_pow (n := 64) (h j) hb
  · exact h j
theorem pow_lt64 (k : Nat) (h : k < 64) : 2 ^ k < 18446744073709551616 := Nat.pow_lt_pow_right (a := 2) (n := 64) (by decide) h
/-- Words of which one has taken over those of another. -/
def orW (W V : Nat → Nat) (here : Nat → Bool) (j : Nat) : Nat := if here j = true then W j ||| V j else W j
theorem orW_none (W V : Nat → Nat) (here : Nat → Bool) (h : ∀ j, here j = false) : orW W V here = W := funext fun j => by unfold orW; rw [h j]; rfl
theorem orW_step (W V : Nat → Nat) (here : Nat → Bool) (a : Nat) (ha : here a = false) : (fun j => if j = a then orW W V here j ||| V a else orW W V here j) = orW W V (fun j => here j || decide (j = a)) := funext fun j => by
  by_cases e : j = a
  · subst e
    unfold orW
    simp [ha]
  · unfold orW
    simp [e]
theorem orW_all (W V : Nat → Nat) (here : Nat → Bool) (h : ∀ j, here j = false → V j = 0) (p : Nat) : stB (orW W V here) p = (stB W p || stB V p) := by
  unfold stB orW
  by_cases hh : here (p / 64) = true
  · rw [if_pos hh, Nat.testBit_or]
  · rw [if_neg hh, h _ (by simpa using hh)]
    simp
theorem w64_or {W V : Nat → Nat} (hW : W64 W) (hV : W64 V) (here : Nat → Bool) : W64 (orW W V here) := fun j => by
  unfold orW
  split
  · exact Nat.or_lt_two_pow (n := 64) (hW j) (hV j)
  · exact hW j
theorem srt_of {f : Nat → Bool} {n : Nat} {P : List Nat} (hnd : P.Nodup) (hm : ∀ j, j ∈ P ↔ j < n ∧ f j = true) : P.mergeSort (fun a b => decide (a ≤ b)) = (List.range n).filter f := by
  have hlt : ((List.range n).filter f).Pairwise (· < ·) := List.pairwise_lt_range.filter _
  have hnd2 : ((List.range n).filter f).Nodup := hlt.imp fun h => Nat.ne_of_lt h
  have hp : (P.mergeSort (fun a b => decide (a ≤ b))).Perm ((List.range n).filter f) := (List.mergeSort_perm _ _).trans ((List.perm_ext_iff_of_nodup hnd hnd2).2 fun j => by rw [hm, List.mem_filter, List.mem_range])
  refine List.Perm.eq_of_pairwise (le := fun a b => decide (a ≤ b) = true) (fun a b _ _ h1 h2 => ?_) ?_ ?_ hp
  · have := of_decide_eq_true h1
    have := of_decide_eq_true h2
    omega
  · refine List.pairwise_mergeSort (fun a b c h1 h2 => ?_) (fun a b => ?_) P
    · have := of_decide_eq_true h1
      have := of_decide_eq_true h2
      exact decide_eq_true (by omega)
    · by_cases h : a ≤ b
      · rw [decide_eq_true h]; rfl
      · rw [decide_eq_true (show b ≤ a by omega), Bool.or_true]
  · exact hlt.imp fun h => decide_eq_true (Nat.le_of_lt h)
/-- Places that have been told: those of words that are no longer to come, but of word a only those that are no longer in x. -/
structure Tld (f : Nat → Bool) (left : Nat → Bool) (a : Nat) (x : Nat) (P : List Nat) : Prop where
  nd : P.Nodup
  mem : ∀ p, p ∈ P ↔ f p = true ∧ left (p / 64) = false ∧ (p / 64 = a → x.testBit (p % 64) = false)
theorem Tld.start (f : Nat → Bool) (left : Nat → Bool) (h : ∀ p, f p = true → left (p / 64) = true) (a : Nat) : Tld f left a 0 [] :=
  ⟨List.nodup_nil, fun p => ⟨fun hp => absurd hp List.not_mem_nil, fun hp => by
    have h1 := h p hp.1
    rw [hp.2.1] at h1
    cases h1⟩⟩
/-- Word a comes. -/
theorem Tld.come {f : Nat → Bool} {left : Nat → Bool} {a b x : Nat} {P : List Nat} (h : Tld f left b 0 P) (hx : ∀ p, p / 64 = a → f p = x.testBit (p % 64)) (hl : left a = true) : Tld f (fun j => left j && !decide (j = a)) a x P := by
  refine ⟨h.nd, fun p => ?_⟩
  rw [h.mem]
  constructor
  · rintro ⟨h1, h2, _⟩
    have hne : p / 64 ≠ a := fun e => by rw [e, hl] at h2; cases h2
    exact ⟨h1, by rw [h2]; rfl, fun e => absurd e hne⟩
  · rintro ⟨h1, h2, h3⟩
    have hne : p / 64 ≠ a := fun e => by rw [hx p e, h3 e] at h1; cases h1
    refine ⟨h1, ?_, fun _ => by simp⟩
    simpa [hne] using h2
theorem Tld.step {f : Nat → Bool} {left : Nat → Bool} {a x : Nat} {P : List Nat} (h : Tld f left a x P) (hx0 : x ≠ 0) (hx : x < 18446744073709551616) (hs : ∀ p, p / 64 = a → x.testBit (p % 64) = true → f p = true) (hl : left a = false) :
    Tld f left a (x &&& (x - 1)) (P ++ [a * 64 + Lib.ctz 64 x]) := by
  obtain ⟨_, _, hk, _, hk64⟩ := ctz_form hx0 hx
  have hk2 : Lib.ctz 64 x < 64 := by omega
  have hon := ctz_on hx0 hx
  obtain ⟨k, hke⟩ : ∃ k, Lib.ctz 64 x = k := ⟨_, rfl⟩
  have hoff := low_off hx0 hx
  rw [hke] at hk2 hon hoff ⊢
  have d1 : (a * 64 + k) / 64 = a := by omega
  have d2 : (a * 64 + k) % 64 = k := by omega
  refine ⟨List.nodup_append.2 ⟨h.nd, List.nodup_cons.2 ⟨List.not_mem_nil, List.nodup_nil⟩, fun y hy z hz e => ?_⟩, fun p => ?_⟩
  · rw [List.mem_singleton.1 hz] at e
    subst e
    have h3 := ((h.mem _).1 hy).2.2 d1
    rw [d2, hon] at h3
    cases h3
  · rw [List.mem_append, List.mem_singleton, h.mem, hoff]
    constructor
    · rintro (⟨h1, h2, h3⟩ | rfl)
      · exact ⟨h1, h2, fun e => by rw [h3 e]; rfl⟩
      · exact ⟨hs _ d1 (by rw [d2]; exact hon), by rw [d1]; exact hl, fun _ => by rw [d2]; simp⟩
    · rintro ⟨h1, h2, h3⟩
      by_cases e : p = a * 64 + k
      · exact .inr e
      · refine .inl ⟨h1, h2, fun e2 => ?_⟩
        have h4 := h3 e2
        rw [decide_eq_true (show p % 64 ≠ k by omega), Bool.and_true] at h4
        exact h4
theorem Tld.done {f : Nat → Bool} {left : Nat → Bool} {a n : Nat} {P : List Nat} (h : Tld f left a 0 P) (hl : ∀ j, left j = false) (hn : ∀ p, f p = true → p < n) : P.mergeSort (fun a b => decide (a ≤ b)) = (List.range n).filter f :=
  srt_of h.nd fun j => by
    rw [h.mem]
    exact ⟨fun hh => ⟨hn j hh.1, hh.1⟩, fun hh => ⟨hh.2, hl _, fun _ => by simp⟩⟩
theorem Tld.len {f : Nat → Bool} {left : Nat → Bool} {a n x : Nat} {P : List Nat} (h : Tld f left a x P) (hn : ∀ p, f p = true → p < n) : P.length ≤ n := by
  have h2 := List.Nodup.length_le_of_subset (l₁ := P) (l₂ := List.range n) h.nd (fun y hy => List.mem_range.2 (hn y ((h.mem y).1 hy).1))
  rwa [List.length_range] at h2
end Go.Proofs.YtkfnbapnkmlopaaDoor
/- Sets of places: words of bits in a map; add. -/
namespace Go.Proofs.YtkfnbapnkmlopaaDoor
open Go.RowKit Go.Maps Go.ChangeMaps Go.WideMaps

theorem keyLawI : Keyed Tryd.prog 3 := int_keyed Tryd.underlying3
theorem zeroU (w : World) : (zeroValue 93).run Tryd.prog w = .ok (.int .u64 0) w := by kernel_rfl
theorem keyI {p : Nat} (h : p < 1048576) : keyOf Tryd.prog 3 (.int .i64 (p : Nat)) = some (.int .i64 (p : Nat)) := by
  refine keyOf_int_mk Tryd.underlying3 ?_
  have e : (Lit.int .i64 (p : Nat)).wf = (decide ((-9223372036854775808 : Int) ≤ (p : Nat)) && decide (((p : Nat) : Int) ≤ 9223372036854775807)) := rfl
  rw [e, decide_eq_true (by omega), decide_eq_true (by omega)]
  rfl
theorem wfU {x : Nat} (h : x < 18446744073709551616) : (Lit.int .u64 (x : Nat)).wf = true := by
  have e : (Lit.int .u64 (x : Nat)).wf = (decide ((0 : Int) ≤ (x : Nat)) && decide (((x : Nat) : Int) ≤ 18446744073709551615)) := rfl
  rw [e, decide_eq_true (by omega), decide_eq_true (by omega)]
  rfl
/-- A map's datum as words. -/
structure SetD (D : DataW Unit) (W : Nat → Nat) : Prop where
  at_ : ∀ j : Nat, D.atKey (.int .i64 (j : Nat)) (.lit (.int .u64 0)) = .lit (.int .u64 (W j : Nat))
  lt : W64 W
  key : ∀ kl, Maps.has D kl = true → ∃ j : Nat, j < 1024 ∧ kl = .int .i64 (j : Nat)
/-- Block b is a map with these words. -/
def WrdB (w : World) (b : Nat) (W : Nat → Nat) : Prop := ∃ D : DataW Unit, w.ownsMap Tryd.prog 3 (plainElem Tryd.prog 93) b 1024 D ∧ SetD D W
/-- Block b is a set of those places. -/
def SetM (w : World) (b : Nat) (f : Nat → Bool) : Prop := ∃ W, WrdB w b W ∧ ∀ p, f p = stB W p
theorem has_atZ {D : DataW Unit} {W : Nat → Nat} (h : SetD D W) {j : Nat} (hj : Maps.has D (.int .i64 (j : Nat)) = false) : W j = 0 := by
  have h1 := h.at_ j
  rw [atKey_of_not_has hj] at h1
  injection h1 with h1
  injection h1 with _ h1
  omega
theorem size_keys {D : DataW Unit} (hk : ∀ kl, Maps.has D kl = true → ∃ j : Nat, j < 1024 ∧ kl = .int .i64 (j : Nat)) (he : ∃ es, D = .map es ∧ es.Pairwise (fun p q => p.1 ≠ q.1) ∧ ∀ p ∈ es, WideAt.IsKeyLit p.1) : Maps.size D ≤ 1024 := by
  obtain ⟨es, rfl, hp, hl⟩ := he
  have hkey : ∀ p ∈ es, ∃ j : Nat, j < 1024 ∧ p.1 = .int .i64 (j : Nat) := fun p hpm => hk p.1 (List.any_eq_true.2 ⟨p, hpm, WideAt.sameKey_self (hl p hpm)⟩)
  have hn : (es.map fun p => match p.1 with | .int _ z => z.toNat | _ => 0).Nodup := by
    refine List.pairwise_map.2 (hp.imp_of_mem fun {p q} hpm hqm hne h => hne ?_)
    obtain ⟨i, _, e1⟩ := hkey p hpm
    obtain ⟨j, _, e2⟩ := hkey q hqm
    rw [e1, e2] at h ⊢
    have h2 : i = j := by simpa using h
    rw [h2]
  have h2 := List.Nodup.length_le_of_subset (l₂ := List.range 1024) hn (fun y hy => by
    obtain ⟨p, hpm, rfl⟩ := List.mem_map.1 hy
    obtain ⟨i, hi, e1⟩ := hkey p hpm
    rw [e1]
    exact List.mem_range.2 (by simpa using hi))
  rw [List.length_map, List.length_range] at h2
  exact h2
section
variable {w w' : World} {b : Nat} {W : Nat → Nat} {f : Nat → Bool}
theorem owns_size {n : Nat} {D : DataW Unit} (h : w.ownsMap Tryd.prog 3 (plainElem Tryd.prog 93) b n D) (hs : Maps.size D ≤ 1024) : w.ownsMap Tryd.prog 3 (plainElem Tryd.prog 93) b 1024 D := by
  obtain ⟨es, clock, hb, F, _, hD⟩ := h
  refine ⟨es, clock, hb, F, ?_, hD⟩
  have h1 := congrArg Maps.size hD
  have e : Maps.size (DataW.map ((es.toList.map (Go.WideElems.rg Tryd.prog 3 (plainElem (H := Unit) Tryd.prog 93))).foldr DataW.insert [])) = es.size := by simp [Maps.size, length_sorted]
  rw [e] at h1
  omega
theorem WrdB.lt (h : WrdB w b W) : b < w.heap.size := by
  obtain ⟨D, h1, _⟩ := h
  exact h1.lt
theorem WrdB.block (h : WrdB w b W) (hb : w'.heap[b]? = w.heap[b]?) : WrdB w' b W := by
  obtain ⟨D, ⟨es, clock, h1, h2⟩, h3⟩ := h
  exact ⟨D, ⟨es, clock, hb.trans h1, h2⟩, h3⟩
theorem WrdB.below (h : WrdB w b W) (hb : Below w.heap.size w w') : WrdB w' b W := h.block (hb.block b h.lt)
theorem w64_zero : W64 fun _ => 0 := fun _ => by show 0 < 18446744073709551616; omega
set_option maxRecDepth 100000 in
theorem WrdB.made (w : World) : WrdB (w.alloc (.map #[] 0)) w.heap.size (fun _ => 0) := by
  have h1 : SetD (.map []) (fun _ => 0) := ⟨fun _ => rfl, w64_zero, fun kl h => by cases h⟩
  refine ⟨.map [], ?_, ?_⟩
  · have h2 := World.ownsMap_made (H := Unit) w Tryd.prog 3 (plainElem Tryd.prog 93)
    exact h2.mono (Nat.zero_le 1024)
  · exact h1
set_option maxRecDepth 100000 in
theorem WrdB.look (h : WrdB w b W) {j : Nat} (hj : j < 1048576) : (Instr.lookup 65 (.map (some b)) (.int .i64 (j : Nat)) false).run Tryd.prog w = .ok (.int .u64 (W j : Nat)) w := by
  obtain ⟨D, h1, h2⟩ := h
  obtain ⟨c, hr, hc, _⟩ := h1.lookup_int keyLawI Tryd.underlying65 Tryd.underlying93 (zeroU w) (keyI hj)
  rw [h2.at_] at hc
  injection hc with hc
  injection hc with _ hc
  rw [hr, hc]
theorem SetD.put {D : DataW Unit} (h : SetD D W) (hD : IsMap D) {j x : Nat} (hj : j < 1024) (hx : x < 18446744073709551616) : SetD (D.put (.int .i64 (j : Nat)) (.lit (.int .u64 (x : Nat)))) (fun i => if i = j then x else W i) := by
  have hk : WideAt.IsKeyLit (.int .i64 (j : Nat)) := keyLawI.key (keyI (by omega))
  refine ⟨fun i => ?_, fun i => ?_, fun kl hkl => ?_⟩
  · by_cases e : i = j
    · subst e
      rw [if_pos rfl, atKey_put_same hD hk]
    · rw [if_neg e, atKey_put_other (fun h => by injection h with _ h; omega)]
      exact h.at_ i
  · split
    · exact hx
    · exact h.lt i
  · by_cases e : kl = .int .i64 (j : Nat)
    · exact ⟨j, hj, e⟩
    · rw [has_put_other e] at hkl
      exact h.key kl hkl
set_option maxRecDepth 100000 in
theorem WrdB.upd (h : WrdB w b W) {j x : Nat} (hj : j < 1024) (hx : x < 18446744073709551616) : ∃ w', (Instr.mapUpdate 65 (.map (some b)) (.int .i64 (j : Nat)) (.int .u64 (x : Nat))).run Tryd.prog w = .ok () w' ∧ WrdB w' b (fun i => if i = j then x else W i) ∧ w.grownBy w' (some b) := by
  obtain ⟨D, h1, h2⟩ := h
  obtain ⟨w', hr, ho, hg⟩ := World.ownsMap.update (d := .lit (.int .u64 (x : Nat))) (ps := []) (val := .int .u64 (x : Nat)) h1 keyLawI Tryd.underlying65 (by unfold maxLen; omega) (keyI (p := j) (by omega)) (plainElem_int Tryd.underlying93 (wfU hx))
  have h3 := h2.put h1.isMap hj hx
  refine ⟨w', hr, ⟨_, ?_, h3⟩, hg⟩
  have h4 := size_keys h3.key (ho.entries keyLawI)
  exact owns_size ho h4
variable {ops : Array Oper} {rest : List Oper} {o : Oper} {a : Act} {K : Act → World → Prop} {Q : Exit → Act → World → Prop}
set_option maxRecDepth 100000 in
/-- A store into a set in a region that draws. -/
theorem step_wput (b : Nat) (W : Nat → Nat) (j y : Nat) (hown : WrdB w b W) (hj : j < 1024) (hy : y < 18446744073709551616) (h : ∀ w', WrdB w' b (fun i => if i = j then y else W i) → w.grownBy w' (some b) → K (a.put o.dst undef) w') :
    Oper.upon Tryd.prog o a K Q (((Instr.mapUpdate 65 (.map (some b)) (.int .i64 (j : Nat)) (.int .u64 (y : Nat))).run Tryd.prog w).andThen fun _ w' => .ok .skip w') := by
  obtain ⟨w', hrun, r1, r2⟩ := hown.upd hj hy
  rw [hrun]
  exact h w' r1 r2
set_option maxRecDepth 100000 in
/-- .. in one that does not. -/
theorem wpList_wput (hg : o.guard = none) (m x v : Operand) (hop : o.op = Op.mapUpdate 65 m x v) (b : Nat) (W : Nat → Nat) (j y : Nat) (hm : a.eval m = .map (some b)) (hown : WrdB w b W) (hj : j < 1024) (hy : y < 18446744073709551616)
    (hx : a.eval x = .int .i64 (j : Nat)) (hv : a.eval v = .int .u64 (y : Nat)) (hK : ∀ w', WrdB w' b (fun i => if i = j then y else W i) → w.grownBy w' (some b) → wpList Tryd.prog ops Q rest (a.put o.dst undef) w') : wpList Tryd.prog ops Q (o :: rest) a w := by
  refine wpList_plain hg fun K' hK' => ?_
  obtain ⟨w', hrun, r1, r2⟩ := hown.upd hj hy
  unfold Oper.wp
  simp [execOp, hop, hm, hx, hv, hrun, Result.andThen]
  exact hK' _ _ (hK w' r1 r2)
end
set_option maxRecDepth 100000 in
set_option maxHeartbeats 1000000 in
theorem addW_any (b p : Nat) (W : Nat → Nat) (w : World) (hp : p < 65536) (hb : WrdB w b W) :
    Calls Tryd.prog 36 #[.map (some b), .int .i64 (p : Nat)] w fun e w' => e = .returned (.tuple #[]) ∧ WrdB w' b (fun j => if j = p / 64 then W j ||| 2 ^ (p % 64) else W j) ∧ w.grownBy w' (some b) := by
  obtain ⟨x, hx⟩ : ∃ x, W (p / 64) = x := ⟨_, rfl⟩
  have hx64 : x < 18446744073709551616 := by
    obtain ⟨D, _, h2⟩ := hb
    rw [← hx]
    exact h2.lt _
  have hlk := fun V (hV : Below w.heap.size w V) => (hb.below hV).look (j := p / 64) (by omega)
  rw [hx] at hlk
  obtain ⟨a, ha⟩ : ∃ a, p / 64 = a := ⟨_, rfl⟩
  obtain ⟨c, hc⟩ : ∃ c, p % 64 = c := ⟨_, rfl⟩
  have hc64 : c < 64 := by omega
  have ha1 : a < 1024 := by omega
  have hy64 : x ||| 2 ^ c < 18446744073709551616 := Nat.or_lt_two_pow (n := 64) hx64 (pow_lt64 c hc64)
  have hfun : (fun j => if j = p / 64 then W j ||| 2 ^ (p % 64) else W j) = fun j => if j = a then x ||| 2 ^ c else W j := funext fun j => by
    rw [ha, hc]
    by_cases e : j = a
    · rw [if_pos e, if_pos e, e, ← ha, hx]
    · rw [if_neg e, if_neg e]
  rw [hfun]
  rw [ha] at hlk
  have q2 : (p : Int) / 64 = (a : Int) := by omega
  have q1 : (p : Int).tdiv 64 = (a : Int) := by rw [Int.tdiv_eq_ediv_of_nonneg (by omega)]; exact q2
  have q3 : (p : Int).tmod 64 = (c : Int) := by rw [Int.tmod_eq_emod_of_nonneg (by omega)]; omega
  have q4 : (p : Int) % 64 = (c : Int) := by omega
  have q5 : IntKind.i64.wrap (a : Int) = a := by rw [IntKind.wrap_i64]; omega
  obtain ⟨y, hy⟩ : ∃ y, 2 ^ c = y := ⟨_, rfl⟩
  have hyl : y < 18446744073709551616 := by rw [← hy]; exact pow_lt64 c hc64
  have q6 : IntKind.u64.wrap ((2 : Int) ^ c) = (y : Int) := by
    have e : ((2 : Int) ^ c) = ((2 ^ c : Nat) : Int) := by push_cast; rfl
    rw [e, hy, IntKind.wrap_u64]
    omega
  have q7 := bits_or_u64_nat x y hx64 hyl
  rw [hy] at hy64 ⊢
  obtain ⟨z, hz⟩ : ∃ z, x ||| y = z := ⟨_, rfl⟩
  rw [hz] at q7 hy64 ⊢
  have c0 : (0 : Int) ≤ c := by omega
  have c1 : (c : Int) < 64 := by omega
  have HL := Lib.hid hlk
  have HB := Lib.hid (And.intro hb hy64)
  clear hlk hb hy64 hfun hx hc64
  go_enter Tryd.func36, Tryd.ntmps36
  have hl1 : (Instr.lookup 65 (.map (some b)) (.int .i64 (a : Nat)) false).run Tryd.prog w.drew = .ok (.int .u64 (x : Nat)) w.drew := HL.out _ (below_dq _ 1)
  go_region_held3 (fun _ => True) (exact trivial) (first
    | (refine step_wput b W a z (HB.out.1.block rfl) ha1 HB.out.2 ?_
       intro w' h1 h2
       have HW := Lib.hid (And.intro h1 h2)
       clear h1 h2))
  go_wp2_with fail
  go_end0
  exact ⟨rfl, HW.out.1, HW.out.2.os, HW.out.2.tape, HW.out.2.output, HW.out.2.size, HW.out.2.block⟩
theorem WrdB.stM {w : World} {b : Nat} {W : Nat → Nat} (h : WrdB w b W) : SetM w b (stB W) := ⟨W, h, fun _ => rfl⟩
theorem SetM.lt {w : World} {b : Nat} {f : Nat → Bool} (h : SetM w b f) : b < w.heap.size := by
  obtain ⟨W, h1, _⟩ := h
  exact h1.lt
theorem SetM.block {w w' : World} {b : Nat} {f : Nat → Bool} (h : SetM w b f) (hb : w'.heap[b]? = w.heap[b]?) : SetM w' b f := by
  obtain ⟨W, h1, h2⟩ := h
  exact ⟨W, h1.block hb, h2⟩
theorem SetM.below {w w' : World} {b : Nat} {f : Nat → Bool} (h : SetM w b f) (hb : Below w.heap.size w w') : SetM w' b f := h.block (hb.block b h.lt)
theorem SetM.same {w : World} {b : Nat} {f f' : Nat → Bool} (h : SetM w b f) (he : ∀ p, f' p = f p) : SetM w b f' := by
  obtain ⟨W, h1, h2⟩ := h
  exact ⟨W, h1, fun p => (he p).trans (h2 p)⟩
theorem SetM.made (w : World) : SetM (w.alloc (.map #[] 0)) w.heap.size (fun _ => false) := ⟨_, WrdB.made w, fun p => by unfold stB; simp⟩
/-- One place more. -/
theorem add_any (b p : Nat) (f : Nat → Bool) (w : World) (hp : p < 65536) (hb : SetM w b f) :
    Calls Tryd.prog 36 #[.map (some b), .int .i64 (p : Nat)] w fun e w' => e = .returned (.tuple #[]) ∧ SetM w' b (fun q => f q || decide (q = p)) ∧ w.grownBy w' (some b) := by
  obtain ⟨W, h1, h2⟩ := hb
  refine (addW_any b p W w hp h1).mono ?_
  rintro e w' ⟨he, hw, hg⟩
  exact ⟨he, ⟨_, hw, fun q => by rw [stB_add, ← h2]⟩, hg⟩
end Go.Proofs.YtkfnbapnkmlopaaDoor
/- Contract: addAll: one set's places put to another's. -/
namespace Go.Proofs.YtkfnbapnkmlopaaDoor
open Go.RowKit Go.Maps Go.ChangeMaps Go.WideMaps

/-- Is word j told? -/
def hereJ (D : DataW Unit) (left : Lit → Bool) (j : Nat) : Bool := Maps.has D (.int .i64 (j : Nat)) && !left (.int .i64 (j : Nat))
set_option maxRecDepth 100000 in
set_option maxHeartbeats 2000000 in
theorem addAllW_any (b d : Nat) (W V : Nat → Nat) (w : World) (hne : b ≠ d) (hb : WrdB w b W) (hd : WrdB w d V) :
    Calls Tryd.prog 39 #[.map (some b), .map (some d)] w fun e w' => e = .returned (.tuple #[]) ∧ (∃ here : Nat → Bool, WrdB w' b (orW W V here) ∧ ∀ j, here j = false → V j = 0) ∧ w.grownBy w' (some b) := by
  obtain ⟨D, hD1, hD2⟩ := hd
  have hblt := hb.lt
  have hW64 : W64 W := by
    obtain ⟨_, _, h⟩ := hb
    exact h.lt
  have HB := Lib.hid (And.intro hb (And.intro hD2 hW64))
  clear hb hD2 hW64
  go_enter Tryd.func39, Tryd.ntmps39
  go_wp2_with (first
    | (at_range; refine wpList_range_own _ rfl _ 65 rfl 3 93 keyLawI Tryd.underlying65 _ d 1024 _ rfl hD1 ?_; intro w0 hrg0 hg0 hs0)
    | go_in)
  go_frame
  have HG0 := Lib.hid hg0
  clear hg0
  go_loopw [4, 5] (fun _ _ wr => ∃ (left : Lit → Bool) (cnt : Nat), wr.ranges Tryd.prog 3 (plainElem Tryd.prog 93) d w.heap.size 1024 D left cnt ∧ WrdB wr b (orW W V (hereJ D left)) ∧ w.grownBy wr (some b) ∧ w.heap.size < wr.heap.size) (fun _ _ wr => wr.rangeLeft d w.heap.size)
  case atStart =>
    refine ⟨_, _, hrg0, ?_, ⟨HG0.out.os, HG0.out.tape, HG0.out.output, HG0.out.size, fun i hi _ => HG0.out.block i hi (by simp)⟩, by omega⟩
    rw [orW_none W V _ (fun j => by unfold hereJ; cases Maps.has D (.int .i64 (j : Nat)) <;> rfl)]
    exact HB.out.1.block (HG0.out.block b (by omega) (by simp))
  case round =>
    obtain ⟨left, cnt, hrg, hw, hg, hrs⟩ := hrel
    have hHr : ∀ j, orW W V (hereJ D left) j < 18446744073709551616 := by
      obtain ⟨_, _, h⟩ := hw
      exact h.lt
    go_wp2_with (first
      | (at_next; refine wpList_next_ranges_ii _ rfl _ rfl 3 93 .i64 .u64 keyLawI Tryd.underlying3 Tryd.underlying93 d w.heap.size 1024 _ _ _ rfl hrg ?_ ?_)
      | go_in)
    · intro hc0 hl0
      have HN := Lib.hid (And.intro hw (And.intro hg hl0))
      clear hc0 hl0 hrg hw hg hHr
      go_wp2_with fail
      go_end0
      refine ⟨rfl, ⟨_, HN.out.1, fun j hj => has_atZ HB.out.2.1 ?_⟩, HN.out.2.1⟩
      unfold hereJ at hj
      rw [HN.out.2.2] at hj
      simpa using hj
    · intro x c w1 cnt1 hwx hwc hlx hat hrg1 hlt hg1 hs1 hen
      have hhas := has_true_of_atKey hat
      obtain ⟨j, hj, ej⟩ := HB.out.2.1.key _ hhas
      injection ej with _ ej
      subst ej
      have hcv := hat (.lit (.int .u64 0))
      rw [HB.out.2.1.at_] at hcv
      simp only [DataW.lit.injEq, Lit.int.injEq, true_and] at hcv
      subst hcv
      have hw1 : WrdB w1 b (orW W V (hereJ D left)) := hw.block (hg1.block b hw.lt (fun e => by injection e with e; omega))
      obtain ⟨X, hX⟩ : ∃ X, orW W V (hereJ D left) j = X := ⟨_, rfl⟩
      obtain ⟨Y, hY⟩ : ∃ Y, V j = Y := ⟨_, rfl⟩
      have hlk := hw1.look (j := j) (by omega)
      rw [hX] at hlk
      rw [hY] at hen
      have hXl : X < 18446744073709551616 := by rw [← hX]; exact hHr j
      have hYl : Y < 18446744073709551616 := by rw [← hY]; exact HB.out.2.1.lt j
      have q7 := bits_or_u64_nat X Y hXl hYl
      have hZl : X ||| Y < 18446744073709551616 := Nat.or_lt_two_pow (n := 64) hXl hYl
      obtain ⟨Z, hZ⟩ : ∃ Z, X ||| Y = Z := ⟨_, rfl⟩
      rw [hZ] at q7 hZl
      have hrgc := hrg.left_eq
      have HK := Lib.hid (And.intro hw1 (And.intro hg (And.intro hg1 (And.intro hhas (And.intro hlx (And.intro hX (And.intro hY (And.intro hZ (And.intro hZl (And.intro hrg1 (And.intro hlt (And.intro hrgc hrs))))))))))))
      rw [hY]
      clear hhas hwx hwc hlx hat hw hg hHr hX hY hZ hXl hYl hw1 hZl hg1 hrg hrg1 hlt hrgc hs1 hrs
      go_wp2_with (first
        | (at_mapUpdate
           refine wpList_wput rfl (.tmp 13) (.tmp 14) (.tmp 17) rfl b (orW W V (hereJ D left)) j Z rfl HK.out.1 hj HK.out.2.2.2.2.2.2.2.2.1 rfl rfl ?_
           intro w2 hw2 hg2
           go_frame)
        | go_in)
      have hbne : some d ≠ some b := fun e => by injection e with e; exact hne e.symm
      have hrne : some w.heap.size ≠ some b := fun e => by injection e with e; omega
      have hrg2 := HK.out.2.2.2.2.2.2.2.2.2.1.kept hg2 hbne hrne
      go_roundw
      case rel =>
        refine ⟨_, cnt1, hrg2, ?_, ?_, ?_⟩
        · have e0 : hereJ D left j = false := by unfold hereJ; rw [HK.out.2.2.2.1, HK.out.2.2.2.2.1]; rfl
          have e1 : (fun i => if i = j then Z else orW W V (hereJ D left) i) = orW W V (hereJ D fun z => left z && !z.sameKey (.int .i64 (j : Nat))) := by
            have h1 := orW_step W V (hereJ D left) j e0
            have h2 : (fun i => hereJ D left i || decide (i = j)) = hereJ D fun z => left z && !z.sameKey (.int .i64 (j : Nat)) := funext fun i => by
              unfold hereJ
              by_cases e : i = j
              · subst e
                have hs := WideAt.sameKey_self (keyLawI.key (keyI (p := i) (by omega)))
                dsimp only
                rw [HK.out.2.2.2.1, hs]
                simp
              · have hs := sameKey_ne (a := .int .i64 (i : Nat)) (b := .int .i64 (j : Nat)) (fun h => by injection h with _ h; omega)
                dsimp only
                rw [hs, decide_eq_false e]
                simp
            rw [← h2, ← h1]
            funext i
            by_cases e : i = j
            · subst e
              rw [if_pos rfl, if_pos rfl, HK.out.2.2.2.2.2.1, HK.out.2.2.2.2.2.2.1, HK.out.2.2.2.2.2.2.2.1]
            · rw [if_neg e, if_neg e]
          rw [← e1]
          exact hw2
        · have h1 : w.grownBy w1 (some b) := HK.out.2.1.andThen HK.out.2.2.1 fun k hk => by injection hk with hk; exact .inl (by omega)
          exact h1.andThen hg2 fun k hk => .inr hk
        · have h1 := HK.out.2.2.1.size
          have h2 := hg2.size
          have h3 := HK.out.2.2.2.2.2.2.2.2.2.2.2.2
          omega
      case measure => rw [hrg2.left_eq, HK.out.2.2.2.2.2.2.2.2.2.2.2.1]; exact HK.out.2.2.2.2.2.2.2.2.2.2.1
/-- A set takes over another's places. -/
theorem addAll_any (b d : Nat) (f g : Nat → Bool) (w : World) (hne : b ≠ d) (hb : SetM w b f) (hd : SetM w d g) :
    Calls Tryd.prog 39 #[.map (some b), .map (some d)] w fun e w' => e = .returned (.tuple #[]) ∧ SetM w' b (fun q => f q || g q) ∧ w.grownBy w' (some b) := by
  obtain ⟨W, h1, h2⟩ := hb
  obtain ⟨V, h3, h4⟩ := hd
  refine (addAllW_any b d W V w hne h1 h3).mono ?_
  rintro e w' ⟨he, ⟨here, hw, hz⟩, hg⟩
  exact ⟨he, ⟨_, hw, fun q => by rw [orW_all W V here hz, ← h2, ← h4]⟩, hg⟩
end Go.Proofs.YtkfnbapnkmlopaaDoor

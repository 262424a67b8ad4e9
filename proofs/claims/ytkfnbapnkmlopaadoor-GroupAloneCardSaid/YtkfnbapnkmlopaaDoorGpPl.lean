/- Contract: a set's places, ascending. -/
import Derived.Test.YtkfnbapnkmlopaaDoorGpSa
import Derived.Test.YtkfnbapnkmlopaaDoorGrRh
import Derived.Test.YtkfnbapnkmlopaaDoorGpEx
namespace Go.Proofs.YtkfnbapnkmlopaaDoor
open Go.RowKit Go.Maps Go.ChangeMaps Go.WideMaps Go.Sort Go.Shelf

theorem sort_any13 (base : Nat) (v : Value) (P : List Nat) (w : World) (ho : w.ownsRow base 3 1 v P.length (P.map intC)) (hl : P.length ≤ 1000000) :
    Calls Tryd.prog 41 #[v] w fun e w' => e = .returned (.tuple #[]) ∧ w'.ownsRow base 3 1 v P.length ((P.mergeSort (fun a b => decide (a ≤ b))).map intC) ∧ w.grownBy w' v.ownBlock := by
  by_cases hne : P = []
  · subst hne
    obtain ⟨A, c, rfl, _⟩ := owns_form ho
    refine (Any.slices_Sort_int_none Tryd.sortL A c w).mono ?_
    rintro e w' ⟨rfl, rfl⟩
    exact ⟨rfl, by simpa using ho, World.grownBy.refl _ _⟩
  · exact sort_own base v P w hne ho hl
/-- Is word j still to come? -/
def lfJ (left : Lit → Bool) (j : Nat) : Bool := left (.int .i64 (j : Nat))
theorem lfJ_strike (left : Lit → Bool) (j : Nat) (hj : j < 1024) : lfJ (fun z => left z && !z.sameKey (.int .i64 (j : Nat))) = fun i => lfJ left i && !decide (i = j) := funext fun i => by
  unfold lfJ
  by_cases e : i = j
  · subst e
    have hs := WideAt.sameKey_self (keyLawI.key (keyI (p := i) (by omega)))
    dsimp only
    rw [hs]
    simp
  · have hs := sameKey_ne (a := .int .i64 (i : Nat)) (b := .int .i64 (j : Nat)) (fun h => by injection h with _ h; omega)
    dsimp only
    rw [hs, decide_eq_false e]
theorem stB_has {D : DataW Unit} {W : Nat → Nat} (h : SetD D W) (p : Nat) (hp : stB W p = true) : lfJ (Maps.has D) (p / 64) = true := by
  unfold lfJ
  cases hh : Maps.has D (.int .i64 ((p / 64 : Nat) : Int)) with
  | true => rfl
  | false =>
    unfold stB at hp
    rw [has_atZ h hh] at hp
    simp at hp
theorem stB_word (W : Nat → Nat) (j p : Nat) (h : p / 64 = j) : stB W p = (W j).testBit (p % 64) := by unfold stB; rw [h]
set_option maxRecDepth 100000 in
set_option maxHeartbeats 4000000 in
theorem placesW_any (d n : Nat) (W : Nat → Nat) (w : World) (hT : Tz w) (hn : n ≤ 65536) (hW : ∀ p, stB W p = true → p < n) (hd : WrdB w d W) :
    Calls Tryd.prog 22 #[.map (some d)] w fun e w' => ∃ v, e = .returned v ∧ w'.ownsRow w.heap.size 3 1 v ((List.range n).filter (stB W)).length (((List.range n).filter (stB W)).map intC) ∧ Below w.heap.size w w' := by
  have hdlt := hd.lt
  obtain ⟨D, hD1, hD2⟩ := hd
  have HB := Lib.hid (And.intro hD2 (And.intro hT hW))
  clear hD2 hT hW
  go_enter Tryd.func22, Tryd.ntmps22
  go_wp2_with (first
    | (at_range; refine wpList_range_own _ rfl _ 65 rfl 3 93 keyLawI Tryd.underlying65 _ d 1024 _ rfl hD1 ?_; intro w0 hrg0 hg0 hs0)
    | go_in)
  go_frame
  have HG0 := Lib.hid hg0
  clear hg0
  go_loopw [3] (fun pv wr => ∃ (left : Lit → Bool) (cnt a : Nat) (P : List Nat), wr.ranges Tryd.prog 3 (plainElem Tryd.prog 93) d w.heap.size 1024 D left cnt ∧ wr.ownsRow (w.heap.size + 1) 3 1 pv P.length (P.map intC) ∧ Tld (stB W) (lfJ left) a 0 P ∧ Below w.heap.size w wr ∧ w.heap.size + 1 ≤ wr.heap.size) (fun _ wr => wr.rangeLeft d w.heap.size)
  case atStart =>
    refine ⟨_, _, 0, [], hrg0, World.ownsRow_nil _ _ _ _, Tld.start _ _ (fun p hp => stB_has HB.out.1 p hp) 0, ⟨HG0.out.os, HG0.out.tape, HG0.out.output, HG0.out.size, fun i hi => HG0.out.block i hi (by simp)⟩, by omega⟩
  case round =>
    obtain ⟨left, cnt, a, P, hrg, ho, hTl, hb, hsz⟩ := hrel
    go_wp2_with (first
      | (at_next; refine wpList_next_ranges_ii _ rfl _ rfl 3 93 .i64 .u64 keyLawI Tryd.underlying3 Tryd.underlying93 d w.heap.size 1024 _ _ _ rfl hrg ?_ ?_)
      | go_in)
    · intro hc0 hl0
      have hlen := hTl.len HB.out.2.2
      have hdone := hTl.done (fun j => hl0 _) HB.out.2.2
      obtain ⟨A, c, hv, _⟩ := owns_form ho
      have hso := sort_any13 _ _ P wr ho (by omega)
      have HN := Lib.hid (And.intro hso (And.intro hb (And.intro hdone (And.intro hsz ho))))
      clear hc0 hl0 hrg ho hTl hb hso hdone hsz
      subst hv
      go_wp2_with fail
      with_reducible refine HN.out.1.mono ?_
      rintro e w2 ⟨rfl, ho2, hg2⟩
      have H2 := Lib.hid (And.intro ho2 hg2)
      clear ho2 hg2
      go_wp2_with fail
      go_ret
      have hq := H2.out.1
      have hpl : P.length = ((List.range n).filter (stB W)).length := by rw [← HN.out.2.2.1, List.length_mergeSort]
      rw [HN.out.2.2.1, hpl] at hq
      refine ⟨_, rfl, ?_, Below.grown HN.out.2.1 H2.out.2 HN.out.2.1.size (fun g hg => Nat.le_of_succ_le (HN.out.2.2.2.2.lt g hg).1)⟩
      rw [← hpl] at hq ⊢
      exact own_base hq (Nat.le_succ _)
    · intro x c w1 cnt1 hwx hwc hlx hat hrg1 hlt hg1 hs1 hen
      have hhas := has_true_of_atKey hat
      obtain ⟨j, hj, ej⟩ := HB.out.1.key _ hhas
      injection ej with _ ej
      subst ej
      have hcv := hat (.lit (.int .u64 0))
      rw [HB.out.1.at_] at hcv
      simp only [DataW.lit.injEq, Lit.int.injEq, true_and] at hcv
      subst hcv
      have ho1 : w1.ownsRow (w.heap.size + 1) 3 1 u3 P.length (P.map intC) := own_block9 ho fun b hb => hg1.block b (ho.lt b hb).2 (fun e => by injection e with e; have := (ho.lt b hb).1; omega)
      have hTl1 := hTl.come (a := j) (x := W j) (fun p hp => stB_word W j p hp) hlx
      have hb1 : Below w.heap.size w w1 := ⟨hg1.os.trans hb.os, hg1.tape.trans hb.tape, hg1.output.trans hb.output, Nat.le_trans hb.size hg1.size, fun i hi => (hg1.block i (Nat.lt_of_lt_of_le hi hb.size) (fun e => by injection e with e; omega)).trans (hb.block i hi)⟩
      rw [← lfJ_strike left j hj] at hTl1
      have hXl : W j < 18446744073709551616 := HB.out.1.lt j
      obtain ⟨X, hX⟩ : ∃ X, W j = X := ⟨_, rfl⟩
      have hlast : lfJ (fun z => left z && !z.sameKey (.int .i64 (j : Nat))) j = false := by rw [lfJ_strike left j hj]; simp
      have hrgc := hrg.left_eq
      have HK := Lib.hid (And.intro hb1 (And.intro hrg1 (And.intro ho1 (And.intro hTl1 (And.intro hlt (And.intro hrgc (And.intro hX hlast)))))))
      rw [hX] at hen hXl ⊢
      generalize hLf : (fun z => left z && !z.sameKey (.int .i64 (j : Nat))) = left1 at HK
      have hs1' : w.heap.size + 1 ≤ w1.heap.size := by omega
      clear hhas hwx hwc hlx hat hb ho hTl hg1 hrg hrg1 hlt hs1 hsz ho1 hTl1 hb1 hlast hrgc hX hLf
      have y1 : IntKind.i64.wrap ((j : Int) * 64) = (j : Int) * 64 := IntWalk.i64_in _ (by omega)
      go_wp2_with fail
      clear hen
      go_loopw [3, 5] (fun pv xv wr2 => ∃ (x : Nat) (P : List Nat), xv = .int .u64 (x : Nat) ∧ x < 18446744073709551616 ∧ (∀ i, x.testBit i = true → (W j).testBit i = true) ∧ wr2.ranges Tryd.prog 3 (plainElem Tryd.prog 93) d w.heap.size 1024 D left1 cnt1 ∧ wr2.ownsRow (w.heap.size + 1) 3 1 pv P.length (P.map intC) ∧ Tld (stB W) (lfJ left1) j x P ∧ Below w.heap.size w wr2 ∧ w.heap.size + 1 ≤ wr2.heap.size) (fun _ xv _ => (intOf xv).toNat)
      case atStart =>
        refine ⟨X, P, rfl, hXl, fun i hi => by rw [HK.out.2.2.2.2.2.2.1]; exact hi, HK.out.2.1, HK.out.2.2.1, ?_, HK.out.1, hs1'⟩
        have h := HK.out.2.2.2.1
        rw [HK.out.2.2.2.2.2.2.1] at h
        exact h
      case round =>
        obtain ⟨x, P2, rfl, hxl, hxb, hrg2, ho2, hTl2, hb2, hsz2⟩ := hrel
        by_cases hx0 : x = 0
        · have e0 : ((x : Int) == 0) = true := by simp [hx0]
          subst hx0
          have HN := Lib.hid (And.intro hrg2 (And.intro ho2 (And.intro hTl2 (And.intro hb2 hsz2))))
          clear hrg2 ho2 hTl2 hb2 hsz2 hxb hxl
          go_wp2_with fail
          refine ⟨⟨_, _, j, P2, HN.out.1, HN.out.2.1, HN.out.2.2.1, HN.out.2.2.2.1, HN.out.2.2.2.2⟩, ?_⟩
          rw [HN.out.1.left_eq, HK.out.2.2.2.2.2.1]
          exact HK.out.2.2.2.2.1
        · have e0 : ((x : Int) == 0) = false := by simp; omega
          have hlen := hTl2.len HB.out.2.2
          have hctz := tz_any x wr hxl hx0 (HB.out.2.1.below hb2)
          have hstep := hTl2.step hx0 hxl (fun p hp hbit => by rw [stB_word W j p hp]; exact hxb _ hbit) HK.out.2.2.2.2.2.2.2
          have hk : Lib.ctz 64 x < 64 := by
            obtain ⟨k, m, e, _, h⟩ := ctz_form hx0 hxl
            omega
          obtain ⟨k, hke⟩ : ∃ k, Lib.ctz 64 x = k := ⟨_, rfl⟩
          rw [hke] at hctz hstep hk
          obtain ⟨q, hq⟩ : ∃ q, j * 64 + k = q := ⟨_, rfl⟩
          rw [hq] at hstep
          have y2 : IntKind.i64.wrap ((j : Int) * 64 + k) = (q : Int) := by
            have e : (j : Int) * 64 + k = (q : Int) := by omega
            rw [e]
            exact IntWalk.i64_in _ (by omega)
          obtain ⟨y, hy⟩ : ∃ y, x - 1 = y := ⟨_, rfl⟩
          have hlw := low_lt hx0
          have hoff := low_off hx0 hxl
          rw [hy] at hstep hlw hoff
          have y3 : IntKind.u64.wrap ((x : Int) - 1) = (y : Int) := by rw [IntKind.wrap_u64]; omega
          have y4 := bits_and_u64_nat x y hxl (by omega)
          obtain ⟨z, hz⟩ : ∃ z, x &&& y = z := ⟨_, rfl⟩
          rw [hz] at y4 hstep hlw hoff
          obtain ⟨pn, hpn⟩ : ∃ pn, P2.length = pn := ⟨_, rfl⟩
          rw [hpn] at ho2 hlen
          have hzb : ∀ i, z.testBit i = true → (W j).testBit i = true := fun i hi => hxb i (by
            rw [hoff] at hi
            exact (Bool.and_eq_true_iff.1 hi).1)
          have hal : Below wr.heap.size wr (wr.alloc (.cells #[.int .i64 (q : Nat)] 3)) := (Below.refl _ _).alloc (Nat.le_refl _) _
          have HC := Lib.hid hctz
          have HN := Lib.hid (And.intro hrg2 (And.intro ho2 (And.intro hstep (And.intro hb2 (And.intro hzb (And.intro hpn (And.intro hlw hal)))))))
          have hzl : z < 18446744073709551616 := by omega
          clear hrg2 ho2 hTl2 hb2 hxb hctz hstep hlw hoff hke hq hy hz hzb hpn hal hx0
          go_wp2_with (first
            | (with_reducible refine HC.out.mono ?_
               rintro e w8 ⟨rfl, rfl⟩)
            | (at_builtin
               refine wpList_app rfl (.tmp 19) (.tmp 25) 48 rfl elN (w.heap.size + 1) u3 pn (P2.map intC) rfl (own_sameO HN.out.2.1 HN.out.2.2.2.2.2.2.2) (some ⟨wr.heap.size, 0, none⟩) 1 1 [.int .i64 (q : Nat)] rfl rfl (Rd.block (MapKept.heap_alloc wr (.cells #[.int .i64 (q : Nat)] 3)).1) (fun u hu => by rw [List.mem_singleton.1 hu]; rfl) (by unfold maxLen; omega) (by omega) (by rw [World.size_alloc]; omega) ?_
               intro v' w9 ho hg hob
               have HN2 := Lib.hid (And.intro ho hg)
               clear ho hg hob))
          have hbg : Below w.heap.size w w9 := Below.grown (HN.out.2.2.2.1.trans (HN.out.2.2.2.2.2.2.2.mono HN.out.2.2.2.1.size)) HN2.out.2 (HN.out.2.2.2.1.trans (HN.out.2.2.2.2.2.2.2.mono HN.out.2.2.2.1.size)).size (fun g hg => Nat.le_of_succ_le (HN.out.2.1.lt g hg).1)
          have hra := (HN.out.1.alloc (.cells #[.int .i64 (q : Nat)] 3)).kept HN2.out.2 (fun e => by have := (HN.out.2.1.lt d e.symm).1; omega) (fun e => by have := (HN.out.2.1.lt w.heap.size e.symm).1; omega)
          have hsz9 := HN2.out.2.size
          rw [World.size_alloc] at hsz9
          refine ⟨⟨z, P2 ++ [q], rfl, hzl, HN.out.2.2.2.2.1, hra, ?_, HN.out.2.2.1, hbg, by omega⟩, ?_⟩
          · rw [List.length_append, List.length_singleton, HN.out.2.2.2.2.2.1, List.map_append]
            exact HN2.out.1
          · have := HN.out.2.2.2.2.2.2.1
            simp [intOf]
            omega
theorem places_any (d n : Nat) (f : Nat → Bool) (w : World) (hT : Tz w) (hn : n ≤ 65536) (hf : ∀ p, f p = true → p < n) (hd : SetM w d f) :
    Calls Tryd.prog 22 #[.map (some d)] w fun e w' => ∃ v, e = .returned v ∧ w'.ownsRow w.heap.size 3 1 v ((List.range n).filter f).length (((List.range n).filter f).map intC) ∧ Below w.heap.size w w' := by
  obtain ⟨W, h1, h2⟩ := hd
  have e : f = stB W := funext h2
  subst e
  exact placesW_any d n W w hT hn hf h1
end Go.Proofs.YtkfnbapnkmlopaaDoor

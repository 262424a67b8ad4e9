/- Contract: Check (isPlace, the closure, ContainsFunc at ways). -/
import Derived.Test.YtkfnbapnkmlopaaDoorGrVi
import Derived.Shelf.Abstract
namespace Go.Proofs.YtkfnbapnkmlopaaDoor
open Go.RowKit

def plB (n x : Int) : Bool := decide (0 ≤ x) && decide (x < n)
theorem isPlace_any (n x : Int) (w : World) : Calls Tryd.prog 57 #[.int .i64 n, .int .i64 x] w fun e w' => e = .returned (.bool (plB n x)) ∧ w' = w := by
  unfold plB
  by_cases h1 : 0 ≤ x
  · by_cases h2 : x < n
    · rw [decide_eq_true h1, decide_eq_true h2]
      go_enter Tryd.func57, Tryd.ntmps57
      go_wp2_with fail
      go_ret
      exact ⟨rfl, rfl⟩
    · rw [decide_eq_true h1, decide_eq_false h2]
      go_enter Tryd.func57, Tryd.ntmps57
      go_wp2_with fail
      go_ret
      exact ⟨rfl, rfl⟩
  · rw [decide_eq_false h1]
    go_enter Tryd.func57, Tryd.ntmps57
    go_wp2_with fail
    go_ret
    exact ⟨rfl, rfl⟩
theorem badE_pl (n : Int) (a b : Int) : badE n (a, b) = (!plB n a || !plB n b) := by
  unfold badE plB
  rw [Bool.eq_iff_iff]
  simp
  omega
set_option maxRecDepth 100000 in
set_option maxHeartbeats 2000000 in
theorem chk1_any (n : Int) (gn : Nat) (a b : Int) (w : World) (hc : w.cell? ⟨gn, 0, none⟩ = some (.int .i64 n)) : Calls Tryd.prog 56 #[.agg #[.int .i64 a, .int .i64 b], .pointer (some ⟨gn, 0, none⟩)] w fun e w' => e = .returned (.bool (badE n (a, b))) ∧ Below w.heap.size w w' := by
  have ha := isPlace_any n a
  have hb := isPlace_any n b
  rw [badE_pl]
  obtain ⟨w1, hw1⟩ : ∃ y, w.alloc (.cells #[.int .i64 a, .int .i64 b] 87) = y := ⟨_, rfl⟩
  have hb1 : Below w.heap.size w w1 := by rw [← hw1]; exact (Below.refl _ _).alloc (Nat.le_refl _) _
  have hgl := World.block_lt_of_cell? _ _ hc
  have c0 : w1.cell? ⟨gn, 0, none⟩ = some (.int .i64 n) := (World.cell?_of_block (a := ⟨gn, 0, none⟩) (hb1.block gn hgl)).trans hc
  obtain ⟨ga, hga⟩ : ∃ y, w.heap.size = y := ⟨_, rfl⟩
  have hblk : w1.heap[ga]? = some (.cells #[.int .i64 a, .int .i64 b] 87 (0, 0)) := by
    rw [← hw1, ← hga]
    exact (MapKept.heap_alloc w _).1
  have c1 := cell9_blk hblk 0 (v := .int .i64 a) rfl
  have c2 := cell9_blk hblk 1 (v := .int .i64 b) rfl
  have HB := Lib.hid hb1
  clear hb1 hgl hblk hc
  cases h1 : plB n a with
  | false =>
    rw [h1] at ha
    have HA := Lib.hid ha
    clear ha hb h1
    go_enter Tryd.func56, Tryd.ntmps56
    go_wp2_with fail
    with_reducible refine (HA.out _).mono ?_
    rintro e w2 ⟨rfl, rfl⟩
    go_wp2_with fail
    go_ret
    exact ⟨rfl, by first | exact HB.out | (rw [← hga]; exact HB.out)⟩
  | true =>
    cases h2 : plB n b with
    | false =>
      rw [h1] at ha
      rw [h2] at hb
      have HA := Lib.hid ha
      have HBB := Lib.hid hb
      clear ha hb h1 h2
      go_enter Tryd.func56, Tryd.ntmps56
      go_wp2_with fail
      with_reducible refine (HA.out _).mono ?_
      rintro e w2 ⟨rfl, rfl⟩
      go_wp2_with fail
      with_reducible refine (HBB.out _).mono ?_
      rintro e w2 ⟨rfl, rfl⟩
      go_wp2_with fail
      go_ret
      exact ⟨rfl, by first | exact HB.out | (rw [← hga]; exact HB.out)⟩
    | true =>
      rw [h1] at ha
      rw [h2] at hb
      have HA := Lib.hid ha
      have HBB := Lib.hid hb
      clear ha hb h1 h2
      go_enter Tryd.func56, Tryd.ntmps56
      go_wp2_with fail
      with_reducible refine (HA.out _).mono ?_
      rintro e w2 ⟨rfl, rfl⟩
      go_wp2_with fail
      with_reducible refine (HBB.out _).mono ?_
      rintro e w2 ⟨rfl, rfl⟩
      go_wp2_with fail
      go_ret
      exact ⟨rfl, by first | exact HB.out | (rw [← hga]; exact HB.out)⟩
/-- A function of the program's own that can be called by its number. -/
def Ent1 (g : FuncId) : Prop := ∀ args w, (callFunc g args).run Tryd.prog w = .ok (.enter g args) w
theorem entCk : Ent1 56 := enters_of Tryd.func56 (by kernel_rfl) rfl
set_option maxRecDepth 100000 in
set_option maxHeartbeats 2000000 in
theorem indexW (A : Option Addr) (m c : Nat) (L : List (Int × Int)) (n : Int) (gn : Nat) (w : World) (R : Bool) (hR : L.any (badE n) = R) (hr : RowW w (.slice A m c) L) (hc : w.cell? ⟨gn, 0, none⟩ = some (.int .i64 n)) (hl : m ≤ 1048576) :
    Calls Tryd.prog 73 #[.slice A m c, .func (.func 56) #[] #[.pointer (some ⟨gn, 0, none⟩)]] w fun e w' => ∃ k : Int, e = .returned (.int .i64 k) ∧ (0 ≤ k ↔ R = true) ∧ Below w.heap.size w w' := by
  have eg := entCk
  unfold Ent1 at eg
  have hml := hr.parts.1
  have hgl := World.block_lt_of_cell? _ _ hc
  have hC : ∀ W a b, Below w.heap.size w W → Calls Tryd.prog 56 #[.agg #[.int .i64 a, .int .i64 b], .pointer (some ⟨gn, 0, none⟩)] W fun e w' => e = .returned (.bool (badE n (a, b))) ∧ Below W.heap.size W w' := fun W a b hb =>
    chk1_any n gn a b W ((World.cell?_of_block (a := ⟨gn, 0, none⟩) (hb.block gn hgl)).trans hc)
  have HR := Lib.hid (And.intro hr (And.intro hml (And.intro hC hR)))
  clear hr hc hml hgl hC hR
  go_enter Tryd.func73, Tryd.ntmps73
  go_wp2_with fail
  go_loopw [8] (fun i wr => ∃ k : Nat, k ≤ m ∧ i = .int .i64 k ∧ Below w.heap.size w wr ∧ ∀ p ∈ L.take k, badE n p = false) (fun i _ => m - (intOf i).toNat)
  case atStart => exact ⟨0, Nat.zero_le _, rfl, Below.refl _ _, fun p hp => by simp at hp⟩
  case round =>
    obtain ⟨k, hk, rfl, hb, hno⟩ := hrel
    by_cases hlk : k < m
    · have hil : k < L.length := by rw [← HR.out.2.1]; exact hlk
      obtain ⟨p, hp⟩ : ∃ p, L[k]? = some p := ⟨_, List.getElem?_eq_getElem hil⟩
      obtain ⟨ad, X, rfl, hX, k0, k1⟩ := (HR.out.1.below hb).parts.2.2.2 k hlk p hp
      have htk : L.take (k + 1) = L.take k ++ [p] := by
        rw [List.take_succ_eq_append_getElem hil]
        rw [List.getElem?_eq_getElem hil] at hp
        rw [Option.some.inj hp]
      have hany : badE n p = true → R = true := fun h => by rw [← HR.out.2.2.2]; exact List.any_eq_true.2 ⟨p, List.mem_of_getElem? hp, h⟩
      obtain ⟨a, b⟩ := p
      have HP := Lib.hid (And.intro htk (And.intro hany (And.intro hb hno)))
      have HC := Lib.hid (HR.out.2.2.1 wr a b hb)
      dsimp only at k0 k1
      have r0 : (0 : Int) ≤ k := by omega
      have r1 : (k : Int) < m := by omega
      clear htk hany hb hno hp hil
      cases hbd : badE n (a, b) with
      | true =>
        rw [hbd] at HC
        have HD := Lib.hid (HP.out.2.1 hbd)
        clear hbd
        go_wp2_with fail
        with_reducible refine HC.out.mono ?_
        rintro e w' ⟨rfl, hb2⟩
        have HB2 := Lib.hid (HP.out.2.2.1.trans (hb2.mono HP.out.2.2.1.size))
        clear hb2
        go_wp2_with fail
        go_ret
        exact ⟨k, rfl, ⟨fun _ => HD.out, fun _ => r0⟩, HB2.out⟩
      | false =>
        rw [hbd] at HC
        have HD := Lib.hid hbd
        clear hbd
        go_wp2_with fail
        with_reducible refine HC.out.mono ?_
        rintro e w' ⟨rfl, hb2⟩
        have HB2 := Lib.hid (HP.out.2.2.1.trans (hb2.mono HP.out.2.2.1.size))
        clear hb2
        go_wp2_with fail
        refine ⟨⟨k + 1, hlk, by go_num, HB2.out, fun q hq => ?_⟩, by simp [intOf]; omega⟩
        rw [HP.out.1] at hq
        rcases List.mem_append.1 hq with h5 | h5
        · exact HP.out.2.2.2 q h5
        · rw [List.mem_singleton.1 h5]; exact HD.out
    · obtain rfl : k = m := by omega
      have hall : ¬ R = true := by
        rw [← HR.out.2.2.2, List.any_eq_true]
        rintro ⟨p, hp, h⟩
        have := hno p (by rw [List.take_of_length_le (by rw [← HR.out.2.1]; exact Nat.le_refl _)]; exact hp)
        rw [this] at h
        cases h
      have HB := Lib.hid (And.intro hb hall)
      clear hb hno hall
      have r1 : ¬ (k : Int) < k := by omega
      go_wp2_with fail
      go_ret
      exact ⟨-1, rfl, ⟨fun h => by omega, fun h => absurd h HB.out.2⟩, HB.out.1⟩
set_option maxRecDepth 100000 in
set_option maxHeartbeats 2000000 in
theorem containsW (A : Option Addr) (m c : Nat) (L : List (Int × Int)) (n : Int) (gn : Nat) (w : World) (hr : RowW w (.slice A m c) L) (hc : w.cell? ⟨gn, 0, none⟩ = some (.int .i64 n)) (hl : m ≤ 1048576) :
    Calls Tryd.prog 58 #[.slice A m c, .func (.func 56) #[] #[.pointer (some ⟨gn, 0, none⟩)]] w fun e w' => e = .returned (.bool (L.any (badE n))) ∧ Below w.heap.size w w' := by
  have HX := Lib.hid (indexW A m c L n gn w _ rfl hr hc hl)
  obtain ⟨R, hR⟩ : ∃ R, L.any (badE n) = R := ⟨_, rfl⟩
  rw [hR] at HX ⊢
  clear hr hc hR
  go_enter Tryd.func58, Tryd.ntmps58
  go_wp2_with fail
  with_reducible refine HX.out.mono ?_
  rintro e w' ⟨k, rfl, hk, hb⟩
  have HB := Lib.hid hb
  clear hb
  cases R with
  | true =>
    have h := hk.2 rfl
    clear hk
    go_wp2_with fail
    go_ret
    exact ⟨rfl, HB.out⟩
  | false =>
    have h : ¬ 0 ≤ k := fun h => by have := hk.1 h; cases this
    clear hk
    go_wp2_with fail
    go_ret
    refine ⟨?_, HB.out⟩
    show Ending.returned (.bool (decide (0 ≤ k))) = _
    rw [decide_eq_false (by omega)]
set_option maxRecDepth 100000 in
set_option maxHeartbeats 2000000 in
theorem pg_ck (n : Int) (v : Value) (L : List (Int × Int)) (w : World) (_ : I64 n) (hv : RowW w v L) : Calls Tryd.prog 48 #[.int .i64 n, v] w fun e w' => e = .returned (errE (ckW n L)) ∧ Below w.heap.size w w' := by
  obtain ⟨A, c, rfl, hr⟩ := hv.form
  obtain ⟨m, hm⟩ : ∃ m, L.length = m := ⟨_, rfl⟩
  have hm9 : m ≤ 9223372036854775807 := by
    have h1 := hr.parts.2.1
    have h2 := hr.parts.2.2.1
    unfold maxLen at h2
    omega
  have hck := ckW_eq n L
  rw [hm] at hr hck ⊢
  obtain ⟨w1, hw1⟩ : ∃ y, w.alloc (.cells #[.int .i64 n] 3) = y := ⟨_, rfl⟩
  have hb1 : Below w.heap.size w w1 := by rw [← hw1]; exact (Below.refl _ _).alloc (Nat.le_refl _) _
  obtain ⟨gn, hgn⟩ : ∃ y, w.heap.size = y := ⟨_, rfl⟩
  have hblk : w1.heap[gn]? = some (.cells #[.int .i64 n] 3 (0, 0)) := by
    rw [← hw1, ← hgn]
    exact (MapKept.heap_alloc w _).1
  have c0 := cell9_blk hblk 0 (v := .int .i64 n) rfl
  obtain ⟨R, hR⟩ : ∃ R, ckW n L = R := ⟨_, rfl⟩
  rw [hR] at hck ⊢
  have hcont := fun hl => containsW A m c L n gn w1 (hr.below hb1) c0 hl
  have HC := Lib.hid hcont
  have HB := Lib.hid hb1
  have HCk := Lib.hid hck
  clear hcont hr hv hm hR hck hb1 hblk
  by_cases h1 : n < 0
  · have hR2 : R = 2 := by rw [HCk.out, if_pos (.inl h1)]
    subst hR2
    rw [errE_pos (by decide)]
    unfold errK
    go_enter Tryd.func48, Tryd.ntmps48
    go_wp2_with fail
    go_ret
    exact ⟨rfl, by first | exact HB.out | (rw [← hgn]; exact HB.out)⟩
  · by_cases h2 : 4096 < n
    · have hR2 : R = 2 := by rw [HCk.out, if_pos (.inr (.inl h2))]
      subst hR2
      rw [errE_pos (by decide)]
      unfold errK
      go_enter Tryd.func48, Tryd.ntmps48
      go_wp2_with fail
      go_ret
      exact ⟨rfl, by first | exact HB.out | (rw [← hgn]; exact HB.out)⟩
    · by_cases h3 : 1048576 < m
      · have hR2 : R = 2 := by rw [HCk.out, if_pos (.inr (.inr h3))]
        subst hR2
        rw [errE_pos (by decide)]
        unfold errK
        have h3' : (1048576 : Int) < m := by omega
        go_enter Tryd.func48, Tryd.ntmps48
        go_wp2_with fail
        go_ret
        exact ⟨rfl, by first | exact HB.out | (rw [← hgn]; exact HB.out)⟩
      · have hR2 := HCk.out
        rw [if_neg (by omega)] at hR2
        have h3' : ¬ (1048576 : Int) < m := by omega
        have HCo := Lib.hid (HC.out (by omega))
        clear HC HCk h3
        cases hany : L.any (badE n) with
        | true =>
          rw [hany, if_pos rfl] at hR2
          subst hR2
          rw [hany] at HCo
          rw [errE_pos (by decide)]
          unfold errK
          clear hany
          go_enter Tryd.func48, Tryd.ntmps48
          go_wp2_with fail
          with_reducible refine HCo.out.mono ?_
          rintro e w2 ⟨rfl, hb2⟩
          have HB2 := Lib.hid (HB.out.trans (hb2.mono HB.out.size))
          clear hb2
          go_wp2_with fail
          go_ret
          exact ⟨rfl, by first | exact HB2.out | (rw [← hgn]; exact HB2.out)⟩
        | false =>
          rw [hany, if_neg (by decide)] at hR2
          subst hR2
          rw [hany] at HCo
          rw [errE_zero]
          clear hany
          go_enter Tryd.func48, Tryd.ntmps48
          go_wp2_with fail
          with_reducible refine HCo.out.mono ?_
          rintro e w2 ⟨rfl, hb2⟩
          have HB2 := Lib.hid (HB.out.trans (hb2.mono HB.out.size))
          clear hb2
          go_wp2_with fail
          go_ret
          exact ⟨rfl, by first | exact HB2.out | (rw [← hgn]; exact HB2.out)⟩
end Go.Proofs.YtkfnbapnkmlopaaDoor

/- What layer 13's package answers, as a contract; its law package's ints, lists, huge, give. -/
import Derived.Test.YtkfnbapnkmlopaaDoorGpEx
import Derived.Test.YtkfnbapnkmlopaaDoorGrLw
import Derived.Test.YtkfnbapnkmlopaaDoorGpTz
namespace Go.Proofs.YtkfnbapnkmlopaaDoor
open Go.RowKit

/-- What the package answers. -/
structure PgX : Prop where
  ex : ∀ (v u : Value) (g : List Grp) (x : List Itm) (w : World), Tz w → SmG g x → RowG w v g → RowX w u x → Calls Tryd.prog 10 #[v, u] w fun e w' => ∃ lv, e = .returned (.tuple #[lv, .int .i64 ((ckG g x).1 : Nat), errE (ckG g x).2]) ∧ RowLL w' lv (if (ckG g x).2 = 0 then exG g x else []) ∧ Below w.heap.size w w'
theorem RowLL.below {w w' : World} {v : Value} {L : List (List Nat)} (h : RowLL w v L) (hb : Below w.heap.size w w') : RowLL w' v L := by
  obtain ⟨A, c, Z, h1, h2, h3, h4, h5, h6⟩ := h
  exact ⟨A, c, Z, h1, h2, h3, h4.below hb, h5, fun i u hu => (h6 i u hu).below hb⟩
theorem RowLL.nil (w : World) : RowLL w (.slice none 0 0) [] := ⟨none, 0, [], rfl, Nat.le_refl _, Nat.zero_le _, Rd.nil, rfl, fun i u h => by simp at h⟩
theorem RowLL.form {w : World} {v : Value} {L : List (List Nat)} (h : RowLL w v L) : ∃ A c, v = .slice A L.length c ∧ RowLL w (.slice A L.length c) L := by
  obtain ⟨A, c, Z, h1, h2⟩ := h
  exact ⟨A, c, h1, A, c, Z, rfl, h2⟩
theorem RowLL.at9 {w : World} {A : Option Addr} {n c : Nat} {L : List (List Nat)} (h : RowLL w (.slice A n c) L) : n = L.length ∧ n ≤ c ∧ c ≤ maxLen ∧ ∀ k, k < n → ∃ ad l Al cl, A = some ad ∧ L[k]? = some l ∧ w.cell? (ad.add k) = some (.slice Al l.length cl) ∧ RowN w (.slice Al l.length cl) l := by
  obtain ⟨A', c', Z, h1, h2, h3, h4, h5, h6⟩ := h
  injection h1 with h1 h1' h1''
  subst h1 h1' h1''
  refine ⟨rfl, h2, h3, fun k hk => ?_⟩
  obtain ⟨ad, ea, hc⟩ := h4 (by omega)
  have hkz : k < Z.length := by omega
  have hr := h6 k Z[k] (List.getElem?_eq_getElem hkz)
  have e : L.getD k [] = L[k] := by rw [List.getD_eq_getElem?_getD, List.getElem?_eq_getElem hk]; rfl
  rw [e] at hr
  obtain ⟨Al, cl, ev, hr2⟩ := hr.form
  refine ⟨ad, L[k], Al, cl, ea, List.getElem?_eq_getElem hk, ?_, hr2⟩
  rw [← ev]
  exact hc k _ (List.getElem?_eq_getElem hkz)
theorem take_ne13 {L M : List Nat} {k a b : Nat} (ha : L[k]? = some a) (hb : M[k]? = some b) (h : a ≠ b) : L ≠ M := fun e => by
  rw [e, hb] at ha
  exact h (Option.some.inj ha).symm
set_option maxRecDepth 100000 in
set_option maxHeartbeats 1000000 in
theorem ints13_any (v1 v2 : Value) (L1 L2 : List Nat) (w : World) (h1 : RowN w v1 L1) (h2 : RowN w v2 L2) :
    Calls Tryd.prog 16 #[v1, v2] w fun e w' => e = .returned (.bool (decide (L1 = L2))) ∧ Below w.heap.size w w' := by
  obtain ⟨A1, c1, rfl, r1⟩ := h1.form
  obtain ⟨A2, c2, rfl, r2⟩ := h2.form
  obtain ⟨n1, e1⟩ : ∃ n, L1.length = n := ⟨_, rfl⟩
  obtain ⟨n2, e2⟩ : ∃ n, L2.length = n := ⟨_, rfl⟩
  rw [e1] at r1 ⊢
  rw [e2] at r2 ⊢
  obtain ⟨R, hR⟩ : ∃ R, decide (L1 = L2) = R := ⟨_, rfl⟩
  rw [hR]
  have H1 := Lib.hid (And.intro r1 (And.intro r2 (And.intro e1 (And.intro e2 hR))))
  have hm9 : n1 ≤ 9223372036854775807 := by
    have := r1.at9.2.1
    have := r1.at9.2.2.1
    unfold maxLen at this
    omega
  clear h1 h2 r1 r2 e1 e2 hR
  by_cases hn : n1 = n2
  · subst hn
    go_enter Tryd.func16, Tryd.ntmps16
    go_wp2_with fail
    go_loopw [5] (fun iv wr => ∃ i : Nat, iv = .int .i64 i ∧ i ≤ n1 ∧ Below w.heap.size w wr ∧ L1.take i = L2.take i) (fun iv _ => n1 - (intOf iv).toNat)
    case atStart => exact ⟨0, rfl, Nat.zero_le _, Below.refl _ _, rfl⟩
    case round =>
      obtain ⟨i, rfl, hi, hb, hE⟩ := hrel
      by_cases him : i < n1
      · have q0 : (0 : Int) ≤ i := by omega
        have q1 : (i : Int) < n1 := by omega
        obtain ⟨ad1, a, rfl, ha, ca⟩ := (H1.out.1.below hb).at9.2.2.2 i him
        obtain ⟨ad2, b, rfl, hb2, cb⟩ := (H1.out.2.1.below hb).at9.2.2.2 i him
        have HE := Lib.hid (And.intro hE (And.intro ha (And.intro hb2 hb)))
        clear hE ha hb2 hb
        by_cases hab : a = b
        · subst hab
          go_wp2_with fail
          go_quiet (fail)
          go_wp2_with fail
          refine ⟨⟨i + 1, by go_num, him, HE.out.2.2.2.trans (below_dq _ _), ?_⟩, by simp [intOf]; omega⟩
          obtain ⟨k1, f1⟩ := List.getElem?_eq_some_iff.1 HE.out.2.1
          obtain ⟨k2, f2⟩ := List.getElem?_eq_some_iff.1 HE.out.2.2.1
          rw [List.take_succ_eq_append_getElem k1, List.take_succ_eq_append_getElem k2, f1, f2, HE.out.1]
        · have hRf : R = false := by rw [← H1.out.2.2.2.2]; exact decide_eq_false (take_ne13 HE.out.2.1 HE.out.2.2.1 hab)
          have d : ¬ ((a : Int) = b) := by omega
          subst hRf
          clear hab
          go_wp2_with fail
          go_quiet (fail)
          go_wp2_with fail
          go_ret
          exact ⟨rfl, HE.out.2.2.2.trans (below_dq _ _)⟩
      · obtain rfl : n1 = i := by omega
        have hRt : R = true := by
          rw [← H1.out.2.2.2.2]
          rw [List.take_of_length_le (by rw [H1.out.2.2.1]; exact Nat.le_refl _), List.take_of_length_le (by rw [H1.out.2.2.2.1]; exact Nat.le_refl _)] at hE
          exact decide_eq_true hE
        subst hRt
        clear hE
        go_wp2_with fail
        go_ret
        exact ⟨rfl, hb⟩
  · have hRf : R = false := by
      rw [← H1.out.2.2.2.2]
      refine decide_eq_false fun e => hn ?_
      rw [← H1.out.2.2.1, ← H1.out.2.2.2.1, e]
    have d : ¬ ((n1 : Int) = n2) := by omega
    subst hRf
    clear hn
    go_enter Tryd.func16, Tryd.ntmps16
    go_wp2_with fail
    go_ret
    exact ⟨rfl, Below.refl _ _⟩

set_option maxRecDepth 100000 in
set_option maxHeartbeats 2000000 in
theorem lists_any (v1 v2 : Value) (L1 L2 : List (List Nat)) (w : World) (h1 : RowLL w v1 L1) (h2 : RowLL w v2 L2) :
    Calls Tryd.prog 13 #[v1, v2] w fun e w' => e = .returned (.bool (decide (L1 = L2))) ∧ Below w.heap.size w w' := by
  obtain ⟨A1, c1, rfl, r1⟩ := h1.form
  obtain ⟨A2, c2, rfl, r2⟩ := h2.form
  obtain ⟨n1, e1⟩ : ∃ n, L1.length = n := ⟨_, rfl⟩
  obtain ⟨n2, e2⟩ : ∃ n, L2.length = n := ⟨_, rfl⟩
  rw [e1] at r1 ⊢
  rw [e2] at r2 ⊢
  obtain ⟨R, hR⟩ : ∃ R, decide (L1 = L2) = R := ⟨_, rfl⟩
  rw [hR]
  have H1 := Lib.hid (And.intro r1 (And.intro r2 (And.intro e1 (And.intro e2 hR))))
  have hm9 : n1 ≤ 9223372036854775807 := by
    have := r1.at9.2.1
    have := r1.at9.2.2.1
    unfold maxLen at this
    omega
  clear h1 h2 r1 r2 e1 e2 hR
  by_cases hn : n1 = n2
  · subst hn
    go_enter Tryd.func13, Tryd.ntmps13
    go_wp2_with fail
    go_loopw [5] (fun iv wr => ∃ i : Nat, iv = .int .i64 i ∧ i ≤ n1 ∧ Below w.heap.size w wr ∧ L1.take i = L2.take i) (fun iv _ => n1 - (intOf iv).toNat)
    case atStart => exact ⟨0, rfl, Nat.zero_le _, Below.refl _ _, rfl⟩
    case round =>
      obtain ⟨i, rfl, hi, hb, hE⟩ := hrel
      by_cases him : i < n1
      · have q0 : (0 : Int) ≤ i := by omega
        have q1 : (i : Int) < n1 := by omega
        obtain ⟨ad1, a, Aa, ca, rfl, ha, za, ra⟩ := (H1.out.1.below hb).at9.2.2.2 i him
        obtain ⟨ad2, b, Ab, cb, rfl, hb2, zb, rb⟩ := (H1.out.2.1.below hb).at9.2.2.2 i him
        have hC := fun W (hW : Below wr.heap.size wr W) => ints13_any _ _ a b W (ra.below hW) (rb.below hW)
        have HE := Lib.hid (And.intro hE (And.intro ha (And.intro hb2 hb)))
        obtain ⟨la, hla⟩ : ∃ l, a.length = l := ⟨_, rfl⟩
        obtain ⟨lb, hlb⟩ : ∃ l, b.length = l := ⟨_, rfl⟩
        rw [hla] at za hC
        rw [hlb] at zb hC
        obtain ⟨T, hT⟩ : ∃ T, decide (a = b) = T := ⟨_, rfl⟩
        rw [hT] at hC
        have HC := Lib.hid hC
        have HT := Lib.hid hT
        have HSS := Lib.hid (And.intro za zb)
        have HSt : Hid (∀ W, Below wr.drew.heap.size wr.drew W → W.cell? (ad1.add i) = some (.slice Aa la ca) ∧ W.cell? (ad2.add i) = some (.slice Ab lb cb)) := Lib.hid fun W h => ⟨cell9_below (w := wr.drew) za h, cell9_below (w := wr.drew) zb h⟩
        have hdr : Hid (Below wr.heap.size wr wr.drew) := Lib.hid ⟨rfl, rfl, rfl, Nat.le_refl _, fun _ _ => rfl⟩
        clear hE ha hb2 hb hC ra rb hla hlb hT
        cases T with
        | true =>
          go_upto_region 6 with (fail)
          go_region_held3 (fun W => W.cell? (ad1.add i) = some (.slice Aa la ca) ∧ W.cell? (ad2.add i) = some (.slice Ab lb cb)) (first | exact HSS.out | exact HSt.out _ (by assumption)) (first
            | (go_at_call 16
               refine (HC.out _ hdr.out).mono ?_
               rintro e V1 ⟨rfl, hb1⟩))
          have hb1' : Below wr.heap.size wr V1 := ⟨hb1.os, hb1.tape, hb1.output, hb1.size, hb1.block⟩
          have HB1 := Lib.hid (HE.out.2.2.2.trans (hb1'.mono HE.out.2.2.2.size))
          clear hb1 hb1' za zb
          go_wp2_with fail
          refine ⟨⟨i + 1, by go_num, him, HB1.out, ?_⟩, by simp [intOf]; omega⟩
          obtain ⟨k1, f1⟩ := List.getElem?_eq_some_iff.1 HE.out.2.1
          obtain ⟨k2, f2⟩ := List.getElem?_eq_some_iff.1 HE.out.2.2.1
          rw [List.take_succ_eq_append_getElem k1, List.take_succ_eq_append_getElem k2, f1, f2, HE.out.1, of_decide_eq_true HT.out]
        | false =>
          have hRf : R = false := by
            rw [← H1.out.2.2.2.2]
            refine decide_eq_false fun e => of_decide_eq_false HT.out ?_
            have h1 := HE.out.2.1
            rw [e, HE.out.2.2.1] at h1
            exact (Option.some.inj h1).symm
          subst hRf
          go_upto_region 6 with (fail)
          go_region_held3 (fun W => W.cell? (ad1.add i) = some (.slice Aa la ca) ∧ W.cell? (ad2.add i) = some (.slice Ab lb cb)) (first | exact HSS.out | exact HSt.out _ (by assumption)) (first
            | (go_at_call 16
               refine (HC.out _ hdr.out).mono ?_
               rintro e V1 ⟨rfl, hb1⟩))
          have hb1' : Below wr.heap.size wr V1 := ⟨hb1.os, hb1.tape, hb1.output, hb1.size, hb1.block⟩
          have HB1 := Lib.hid (HE.out.2.2.2.trans (hb1'.mono HE.out.2.2.2.size))
          clear hb1 hb1' za zb
          go_wp2_with fail
          go_ret
          exact ⟨rfl, HB1.out⟩
      · obtain rfl : n1 = i := by omega
        have hRt : R = true := by
          rw [← H1.out.2.2.2.2]
          rw [List.take_of_length_le (by rw [H1.out.2.2.1]; exact Nat.le_refl _), List.take_of_length_le (by rw [H1.out.2.2.2.1]; exact Nat.le_refl _)] at hE
          exact decide_eq_true hE
        subst hRt
        clear hE
        go_wp2_with fail
        go_ret
        exact ⟨rfl, hb⟩
  · have hRf : R = false := by
      rw [← H1.out.2.2.2.2]
      refine decide_eq_false fun e => hn ?_
      rw [← H1.out.2.2.1, ← H1.out.2.2.2.1, e]
    have d : ¬ ((n1 : Int) = n2) := by omega
    subst hRf
    clear hn
    go_enter Tryd.func13, Tryd.ntmps13
    go_wp2_with fail
    go_ret
    exact ⟨rfl, Below.refl _ _⟩
end Go.Proofs.YtkfnbapnkmlopaaDoor

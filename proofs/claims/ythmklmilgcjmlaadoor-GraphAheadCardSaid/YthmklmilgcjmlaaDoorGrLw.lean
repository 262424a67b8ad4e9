/- What layer 12's package answers, as contracts; its law package's ints, huge. -/
import Derived.Test.YthmklmilgcjmlaaDoorGrOr
import Derived.Deep.QuietTactic
import Derived.BigQuiet
import Derived.Deep.Cut
namespace Go.Proofs.YthmklmilgcjmlaaDoor
open Go.RowKit

def errK (n : Int) : Value := .iface 43 (.int .i64 n)
def errE (k : Nat) : Value := if k = 0 then .nilIface else errK k
theorem errE_zero : errE 0 = .nilIface := if_pos rfl
theorem errE_pos {k : Nat} (h : k ≠ 0) : errE k = errK k := if_neg h
noncomputable def lpA (n : Int) (L : List (Int × Int)) : Int × Bool × Nat := if ckW n L = 0 then (match lpT (ntW L) n.toNat with | some x => ((x : Int), true, 0) | none => (0, false, 0)) else (0, false, ckW n L)
noncomputable def orA (n : Int) (L : List (Int × Int)) : List Nat × Nat := if ckW n L = 0 then (if lpT (ntW L) n.toNat = none then (ordT (ntW L) n.toNat, 0) else ([], 9)) else ([], ckW n L)
noncomputable def dpA (n : Int) (L : List (Int × Int)) : List Nat × Nat := if ckW n L = 0 then (if lpT (ntW L) n.toNat = none then ((List.range n.toNat).map (dpT (ntW L) n.toNat), 0) else ([], 9)) else ([], ckW n L)
noncomputable def rcA (n : Int) (L : List (Int × Int)) (f : Int) : List Nat × Nat := if ckW n L = 0 then (if f < 0 ∨ n ≤ f then ([], 5) else (rcT (ntW L) n.toNat f.toNat, 0)) else ([], ckW n L)
/-- A list, or an error. -/
def AnsL (w : World) (R : List Nat × Nat) (e : Ending) (w' : World) : Prop := ∃ A c, e = .returned (.tuple #[.slice A R.1.length c, errE R.2]) ∧ RowN w' (.slice A R.1.length c) R.1 ∧ Below w.heap.size w w'
def I64 (n : Int) : Prop := -9223372036854775808 ≤ n ∧ n ≤ 9223372036854775807
/-- What the package answers. -/
structure PgG : Prop where
  ck : ∀ (n : Int) (v : Value) (L : List (Int × Int)) (w : World), I64 n → RowW w v L → Calls Tryd.prog 14 #[.int .i64 n, v] w fun e w' => e = .returned (errE (ckW n L)) ∧ Below w.heap.size w w'
  lp : ∀ (n : Int) (v : Value) (L : List (Int × Int)) (w : World), I64 n → RowW w v L → Calls Tryd.prog 10 #[.int .i64 n, v] w fun e w' => e = .returned (.tuple #[.int .i64 (lpA n L).1, .bool (lpA n L).2.1, errE (lpA n L).2.2]) ∧ Below w.heap.size w w'
  or_ : ∀ (n : Int) (v : Value) (L : List (Int × Int)) (w : World), I64 n → RowW w v L → Calls Tryd.prog 11 #[.int .i64 n, v] w (AnsL w (orA n L))
  dp : ∀ (n : Int) (v : Value) (L : List (Int × Int)) (w : World), I64 n → RowW w v L → Calls Tryd.prog 12 #[.int .i64 n, v] w (AnsL w (dpA n L))
  rc : ∀ (n : Int) (v : Value) (L : List (Int × Int)) (f : Int) (w : World), I64 n → I64 f → RowW w v L → Calls Tryd.prog 19 #[.int .i64 n, v, .int .i64 f] w (AnsL w (rcA n L f))
theorem RowN.at9 {w : World} {A : Option Addr} {n c : Nat} {L : List Nat} (h : RowN w (.slice A n c) L) : n = L.length ∧ n ≤ c ∧ c ≤ maxLen ∧ ∀ k, k < n → ∃ ad j, A = some ad ∧ L[k]? = some j ∧ w.cell? (ad.add k) = some (.int .i64 (j : Nat)) := by
  obtain ⟨A', c', h1, h2, h3, h4⟩ := h
  injection h1 with h1 h1' h1''
  subst h1 h1' h1''
  refine ⟨rfl, h2, h3, fun k hk => ?_⟩
  obtain ⟨ad, ea, hc⟩ := h4 (by rw [List.length_map]; omega)
  exact ⟨ad, L[k], ea, List.getElem?_eq_getElem hk, hc k _ (by rw [List.getElem?_map, List.getElem?_eq_getElem hk]; rfl)⟩
theorem RowN.form {w : World} {v : Value} {L : List Nat} (h : RowN w v L) : ∃ A c, v = .slice A L.length c ∧ RowN w (.slice A L.length c) L := by
  obtain ⟨A, c, rfl, h2⟩ := h
  exact ⟨A, c, rfl, A, c, rfl, h2⟩
theorem take_ne {L M : List Nat} {k a b : Nat} (ha : L[k]? = some a) (hb : M[k]? = some b) (h : a ≠ b) : L ≠ M := fun e => by
  rw [e, hb] at ha
  exact h (Option.some.inj ha).symm
set_option maxRecDepth 100000 in
set_option maxHeartbeats 1000000 in
theorem ints_any (v1 v2 : Value) (L1 L2 : List Nat) (w : World) (h1 : RowN w v1 L1) (h2 : RowN w v2 L2) :
    Calls Tryd.prog 16 #[v1, v2] w fun e w' => e = .returned (.bool (decide (L1 = L2))) ∧ Below w.heap.size w w' := by
  obtain ⟨A1, c1, rfl, r1⟩ := h1.form
  obtain ⟨A2, c2, rfl, r2⟩ := h2.form
  obtain ⟨n1, e1⟩ : ∃ n, L1.length = n := ⟨_, rfl⟩
  obtain ⟨n2, e2⟩ : ∃ n, L2.length = n := ⟨_, rfl⟩
  rw [e1] at r1 ⊢
  rw [e2] at r2 ⊢
  obtain ⟨R, hR⟩ : ∃ R, decide (L1 = L2) = R := ⟨_, rfl⟩
  rw [hR]
  have H1 := Lib.hid (And.intro r1 (And.intro r2 (And.intro e1 (And.intro e2 hR))))
  have hm9 : n1 ≤ 9223372036854775807 := by
    have := r1.at9.2.1
    have := r1.at9.2.2.1
    unfold maxLen at this
    omega
  clear h1 h2 r1 r2 e1 e2 hR
  by_cases hn : n1 = n2
  · subst hn
    go_enter Tryd.func16, Tryd.ntmps16
    go_wp2_with fail
    go_loopw [5] (fun iv wr => ∃ i : Nat, iv = .int .i64 i ∧ i ≤ n1 ∧ Below w.heap.size w wr ∧ L1.take i = L2.take i) (fun iv _ => n1 - (intOf iv).toNat)
    case atStart => exact ⟨0, rfl, Nat.zero_le _, Below.refl _ _, rfl⟩
    case round =>
      obtain ⟨i, rfl, hi, hb, hE⟩ := hrel
      by_cases him : i < n1
      · have q0 : (0 : Int) ≤ i := by omega
        have q1 : (i : Int) < n1 := by omega
        obtain ⟨ad1, a, rfl, ha, ca⟩ := (H1.out.1.below hb).at9.2.2.2 i him
        obtain ⟨ad2, b, rfl, hb2, cb⟩ := (H1.out.2.1.below hb).at9.2.2.2 i him
        have HE := Lib.hid (And.intro hE (And.intro ha (And.intro hb2 hb)))
        clear hE ha hb2 hb
        by_cases hab : a = b
        · subst hab
          go_wp2_with fail
          go_quiet (fail)
          go_wp2_with fail
          refine ⟨⟨i + 1, by go_num, him, HE.out.2.2.2.trans (below_dq _ _), ?_⟩, by simp [intOf]; omega⟩
          obtain ⟨k1, f1⟩ := List.getElem?_eq_some_iff.1 HE.out.2.1
          obtain ⟨k2, f2⟩ := List.getElem?_eq_some_iff.1 HE.out.2.2.1
          rw [List.take_succ_eq_append_getElem k1, List.take_succ_eq_append_getElem k2, f1, f2, HE.out.1]
        · have hRf : R = false := by rw [← H1.out.2.2.2.2]; exact decide_eq_false (take_ne HE.out.2.1 HE.out.2.2.1 hab)
          have d : ¬ ((a : Int) = b) := by omega
          subst hRf
          clear hab
          go_wp2_with fail
          go_quiet (fail)
          go_wp2_with fail
          go_ret
          exact ⟨rfl, HE.out.2.2.2.trans (below_dq _ _)⟩
      · obtain rfl : n1 = i := by omega
        have hRt : R = true := by
          rw [← H1.out.2.2.2.2]
          rw [List.take_of_length_le (by rw [H1.out.2.2.1]; exact Nat.le_refl _), List.take_of_length_le (by rw [H1.out.2.2.2.1]; exact Nat.le_refl _)] at hE
          exact decide_eq_true hE
        subst hRt
        clear hE
        go_wp2_with fail
        go_ret
        exact ⟨rfl, hb⟩
  · have hRf : R = false := by
      rw [← H1.out.2.2.2.2]
      refine decide_eq_false fun e => hn ?_
      rw [← H1.out.2.2.1, ← H1.out.2.2.2.1, e]
    have d : ¬ ((n1 : Int) = n2) := by omega
    subst hRf
    clear hn
    go_enter Tryd.func16, Tryd.ntmps16
    go_wp2_with fail
    go_ret
    exact ⟨rfl, Below.refl _ _⟩
def hugeB (n : Int) (m : Nat) : Bool := decide (40 < n ∧ n ≤ 4096 ∨ 80 < m)
theorem huge_any (n : Int) (A : Option Addr) (m c : Nat) (w : World) : Calls Tryd.prog 7 #[.int .i64 n, .slice A m c] w fun e w' => e = .returned (.bool (hugeB n m)) ∧ w' = w := by
  obtain ⟨R, hR⟩ : ∃ R, hugeB n m = R := ⟨_, rfl⟩
  rw [hR]
  unfold hugeB at hR
  have HR := Lib.hid hR
  clear hR
  by_cases h1 : 40 < n
  · by_cases h2 : n ≤ 4096
    · obtain rfl : true = R := by rw [← HR.out]; exact (decide_eq_true (.inl ⟨h1, h2⟩)).symm
      go_enter Tryd.func7, Tryd.ntmps7
      go_wp2_with fail
      go_ret
      exact ⟨rfl, rfl⟩
    · by_cases h3 : 80 < m
      · have h4 : (80 : Int) < m := by omega
        obtain rfl : true = R := by rw [← HR.out]; exact (decide_eq_true (.inr h3)).symm
        go_enter Tryd.func7, Tryd.ntmps7
        go_wp2_with fail
        go_ret
        exact ⟨rfl, rfl⟩
      · have h4 : ¬ (80 : Int) < m := by omega
        obtain rfl : false = R := by rw [← HR.out]; exact (decide_eq_false (by omega)).symm
        go_enter Tryd.func7, Tryd.ntmps7
        go_wp2_with fail
        go_ret
        exact ⟨rfl, rfl⟩
  · by_cases h3 : 80 < m
    · have h4 : (80 : Int) < m := by omega
      obtain rfl : true = R := by rw [← HR.out]; exact (decide_eq_true (.inr h3)).symm
      go_enter Tryd.func7, Tryd.ntmps7
      go_wp2_with fail
      go_ret
      exact ⟨rfl, rfl⟩
    · have h4 : ¬ (80 : Int) < m := by omega
      obtain rfl : false = R := by rw [← HR.out]; exact (decide_eq_false (by omega)).symm
      go_enter Tryd.func7, Tryd.ntmps7
      go_wp2_with fail
      go_ret
      exact ⟨rfl, rfl⟩
theorem ret_true9 {w w' : World} (h : Below w.heap.size w w') : Ending.returned (.bool true) = .returned (.bool true) ∧ Below w.heap.size w w' := ⟨rfl, h⟩
theorem rcA_bad {n : Int} {L : List (Int × Int)} {f : Int} (h : ckW n L ≠ 0) : rcA n L f = ([], ckW n L) := by unfold rcA; rw [if_neg h]
theorem rcA_out {n : Int} {L : List (Int × Int)} {f : Int} (h : ckW n L = 0) (h2 : f < 0 ∨ n ≤ f) : rcA n L f = ([], 5) := by unfold rcA; rw [if_pos h, if_pos h2]
theorem rcA_ok {n : Int} {L : List (Int × Int)} {f : Int} (h : ckW n L = 0) (h2 : ¬ (f < 0 ∨ n ≤ f)) : rcA n L f = (rcT (ntW L) n.toNat f.toNat, 0) := by unfold rcA; rw [if_pos h, if_neg h2]
theorem lpA_bad {n : Int} {L : List (Int × Int)} (h : ckW n L ≠ 0) : lpA n L = (0, false, ckW n L) := by unfold lpA; rw [if_neg h]
theorem lpA_yes {n : Int} {L : List (Int × Int)} {x : Nat} (h : ckW n L = 0) (h2 : lpT (ntW L) n.toNat = some x) : lpA n L = ((x : Int), true, 0) := by unfold lpA; rw [if_pos h, h2]
theorem lpA_no {n : Int} {L : List (Int × Int)} (h : ckW n L = 0) (h2 : lpT (ntW L) n.toNat = none) : lpA n L = (0, false, 0) := by unfold lpA; rw [if_pos h, h2]
theorem orA_bad {n : Int} {L : List (Int × Int)} (h : ckW n L ≠ 0) : orA n L = ([], ckW n L) := by unfold orA; rw [if_neg h]
theorem orA_loop {n : Int} {L : List (Int × Int)} (h : ckW n L = 0) (h2 : lpT (ntW L) n.toNat ≠ none) : orA n L = ([], 9) := by unfold orA; rw [if_pos h, if_neg h2]
theorem orA_ok {n : Int} {L : List (Int × Int)} (h : ckW n L = 0) (h2 : lpT (ntW L) n.toNat = none) : orA n L = (ordT (ntW L) n.toNat, 0) := by unfold orA; rw [if_pos h, if_pos h2]
theorem dpA_bad {n : Int} {L : List (Int × Int)} (h : ckW n L ≠ 0) : dpA n L = ([], ckW n L) := by unfold dpA; rw [if_neg h]
theorem dpA_loop {n : Int} {L : List (Int × Int)} (h : ckW n L = 0) (h2 : lpT (ntW L) n.toNat ≠ none) : dpA n L = ([], 9) := by unfold dpA; rw [if_pos h, if_neg h2]
theorem dpA_ok {n : Int} {L : List (Int × Int)} (h : ckW n L = 0) (h2 : lpT (ntW L) n.toNat = none) : dpA n L = ((List.range n.toNat).map (dpT (ntW L) n.toNat), 0) := by unfold dpA; rw [if_pos h, if_pos h2]
theorem err9 : errE 9 = .iface 43 (.int .i64 9) := errE_pos (by decide)
end Go.Proofs.YthmklmilgcjmlaaDoor

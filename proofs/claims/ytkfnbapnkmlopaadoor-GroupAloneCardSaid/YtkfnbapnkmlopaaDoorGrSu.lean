/- Layer 12's law package: sure. -/
import Derived.Test.YtkfnbapnkmlopaaDoorGrLw
namespace Go.Proofs.YtkfnbapnkmlopaaDoor
open Go.RowKit

theorem wy_rank {E : Nat → List Nat} (f : Nat → Nat) (h : ∀ i j, j ∈ E i → f i < f j) {i j : Nat} (hw : Wy E i j) : f i < f j := by
  induction hw with
  | one a => exact h _ _ a
  | more a _ ih => exact Nat.lt_trans (h _ _ a) ih
def suW : List (Int × Int) := [(2, 0), (0, 1)]
theorem su_ck : ckW 3 suW = 0 := by decide
theorem su_nt : ntW suW = [(2, 0), (0, 1)] := rfl
theorem su_acyc : ¬ Cyc (eM (ntW suW)) := by
  rintro ⟨i, hi⟩
  refine Nat.lt_irrefl _ (wy_rank (fun i => if i = 2 then 0 else if i = 0 then 1 else 2) (fun i j hj => ?_) hi)
  have h := eM_mem.1 hj
  rw [su_nt] at h
  simp only [List.mem_cons, Prod.mk.injEq, List.not_mem_nil, or_false] at h
  rcases h with ⟨rfl, rfl⟩ | ⟨rfl, rfl⟩ <;> decide
theorem su_ok : Okw 3 (ntW suW) := by
  intro p hp
  rw [su_nt] at hp
  simp only [List.mem_cons, List.not_mem_nil, or_false] at hp
  rcases hp with rfl | rfl <;> decide
theorem su_lp : lpT (ntW suW) 3 = none := (lpT_none su_ok).2 su_acyc
theorem su_or : orA 3 suW = ([2, 0, 1], 0) := by
  unfold orA
  rw [if_pos su_ck]
  show (if lpT (ntW suW) 3 = none then (ordT (ntW suW) 3, 0) else ([], 9)) = _
  rw [if_pos su_lp]
  decide
theorem su_dp : dpA 3 suW = ([1, 2, 0], 0) := by
  unfold dpA
  rw [if_pos su_ck]
  show (if lpT (ntW suW) 3 = none then ((List.range 3).map (dpT (ntW suW) 3), 0) else ([], 9)) = _
  rw [if_pos su_lp]
  decide
theorem rowW_new {w : World} {g : Nat} {a b c d : Int} (h : w.heap[g]? = some (.cells #[.int .i64 a, .int .i64 b, .int .i64 c, .int .i64 d] 87 (0, 0))) : RowW w (.slice (some ⟨g, 0, none⟩) 2 2) [(a, b), (c, d)] :=
  ⟨_, _, rfl, Nat.le_refl _, by unfold maxLen; omega, Rd.block h⟩
theorem rowN_new {w : World} {g a b c : Nat} (h : w.heap[g]? = some (.cells #[.int .i64 (a : Nat), .int .i64 (b : Nat), .int .i64 (c : Nat)] 3 (0, 0))) : RowN w (.slice (some ⟨g, 0, none⟩) 3 3) [a, b, c] :=
  ⟨_, _, rfl, Nat.le_refl _, by unfold maxLen; omega, Rd.block h⟩
end Go.Proofs.YtkfnbapnkmlopaaDoor

/- What layer 15's package answers besides; its law package's same. -/
import Derived.Test.YtkihfafkglkjnaaDoorQuSt
import Derived.Test.YtkihfafkglkjnaaDoorQuLp
import Derived.Deep.QuietTactic
namespace Go.Proofs.YtkihfafkglkjnaaDoor
open Go.RowKit

structure PgQ (Is : World → Value → (Nat → Prop) → Int → List Ev → Prop) : Prop extends PgP Is where
  no : ∀ (n : Int) (w : World), n < 1 ∨ 65536 < n → Calls Tryd.prog 6 #[.int .i64 n] w fun x w' => x = .returned (.tuple #[.pointer none, errE 1]) ∧ Below w.heap.size w w'
  drop : ∀ (v : Value) (F : Nat → Prop) (n : Int) (L : List Ev) (k i : Int) (w : World), In64 k → In64 i → Is w v F n L → Calls Tryd.prog 11 #[v, .int .i64 k, .int .i64 i] w fun x w' => x = .returned (.bool (drE L k i).2) ∧ ∃ F', Is w' v F' n (drE L k i).1 ∧ TuF F F' w w'
  nset : ∀ (e : Ev) (w : World), Calls Tryd.prog 9 #[.pointer none, evV e] w fun x w' => x = .returned (errE 1) ∧ Below w.heap.size w w'
  ndrop : ∀ (k i : Int) (w : World), Calls Tryd.prog 11 #[.pointer none, .int .i64 k, .int .i64 i] w fun x w' => x = .returned (.bool false) ∧ Below w.heap.size w w'
  nfirst : ∀ (w : World), Calls Tryd.prog 14 #[.pointer none] w fun x w' => x = .returned (.tuple #[evV (0, 0, 0), .bool false]) ∧ Below w.heap.size w w'
  npop : ∀ (w : World), Calls Tryd.prog 13 #[.pointer none] w fun x w' => x = .returned (.tuple #[evV (0, 0, 0), .bool false]) ∧ Below w.heap.size w w'
  nfind : ∀ (k i : Int) (w : World), Calls Tryd.prog 15 #[.pointer none, .int .i64 k, .int .i64 i] w fun x w' => ∃ a, x = .returned (.tuple #[.int .i64 a, .bool false]) ∧ Below w.heap.size w w'
  nlen : ∀ (w : World), Calls Tryd.prog 16 #[.pointer none] w fun x w' => x = .returned (.int .i64 0) ∧ Below w.heap.size w w'
  nlist : ∀ (w : World), Calls Tryd.prog 18 #[.pointer none] w fun x w' => ∃ u, x = .returned u ∧ RowE w' u [] ∧ Below w.heap.size w w'
set_option maxRecDepth 100000 in
set_option maxHeartbeats 2000000 in
theorem same15_any (v u : Value) (L : List Ev) (w : World) (hv : RowE w v L) (hu : RowE w u L) :
    Calls Tryd.prog 17 #[v, u] w fun e w' => e = .returned (.bool true) ∧ Below w.heap.size w w' := by
  obtain ⟨A1, c1, rfl, r1⟩ := hv.form
  obtain ⟨A2, c2, rfl, r2⟩ := hu.form
  obtain ⟨n, hn⟩ : ∃ n, L.length = n := ⟨_, rfl⟩
  rw [hn] at r1 r2 ⊢
  have hm9 : n ≤ 9223372036854775807 := by
    have := r1.parts.2.1
    have := r1.parts.2.2.1
    unfold maxLen at this
    omega
  have H := Lib.hid (And.intro r1 (And.intro r2 hn))
  clear hv hu r1 r2 hn
  go_enter Tryd.func17, Tryd.ntmps17
  go_wp2_with fail
  go_loopw [5] (fun iv wr => ∃ i : Nat, iv = .int .i64 i ∧ i ≤ n ∧ Below w.heap.size w wr) (fun iv _ => n - (intOf iv).toNat)
  case atStart => exact ⟨0, rfl, Nat.zero_le _, Below.refl _ _⟩
  case round =>
    obtain ⟨i, rfl, hi, hb⟩ := hrel
    by_cases him : i < n
    · have q0 : (0 : Int) ≤ i := by omega
      have q1 : (i : Int) < n := by omega
      obtain ⟨p, hp⟩ : ∃ p, L[i]? = some p := ⟨_, List.getElem?_eq_getElem (by rw [H.out.2.2]; exact him)⟩
      obtain ⟨ad1, X, rfl, hX, k0, k1, k2⟩ := (H.out.1.below hb).parts.2.2.2.2 i him p hp
      obtain ⟨ad2, Y, rfl, hY, l0, l1, l2⟩ := (H.out.2.1.below hb).parts.2.2.2.2 i him p hp
      obtain ⟨p1, p2, p3⟩ := p
      dsimp only at k0 k1 k2 l0 l1 l2
      have HB := Lib.hid hb
      clear hb hp
      go_wp2_with fail
      go_quiet (fail)
      go_wp2_with fail
      exact ⟨⟨i + 1, by go_num, him, HB.out.trans (below_dq _ _)⟩, by simp [intOf]; omega⟩
    · obtain rfl : n = i := by omega
      have q1 : ¬ (n : Int) < n := by omega
      go_wp2_with fail
      go_ret
      exact ⟨rfl, hb⟩
end Go.Proofs.YtkihfafkglkjnaaDoor

/- Contracts: slices.IndexFunc, ContainsFunc at fields and at blocks; Get. -/
import Derived.Test.YtbeehedppofpnaaDoorBkA
import Derived.Test.YtbeehedppofpnaaDoorBkMem
import Derived.Test.YtbeehedppofpnaaDoorBkR
namespace Go.Proofs.YtbeehedppofpnaaDoor
open Go.RowKit

set_option maxRecDepth 100000 in
set_option maxHeartbeats 1000000 in
theorem indexF (A : Option Addr) (n c : Nat) (g : FuncId) (caps : Array Value) (w : World) (eg : Ent1 g) (N : Nat → MF) (I J : Nat → World → Prop)
    (hI : ∀ k W, k < n → I k W → ∃ ad X, A = some ad ∧ ad.add (k * 3) = X ∧ W.cell? X = some (.int .i64 (N k).1) ∧ W.cell? { block := X.block, off := X.off + 1 } = some (.string (str (N k).2.1)) ∧ W.cell? { block := X.block, off := X.off + 2 } = some (.string (str (N k).2.2)))
    (hp : ∀ k W, k < n → I k W → Calls Tryd.prog g (#[.agg #[.int .i64 (N k).1, .string (str (N k).2.1), .string (str (N k).2.2)]] ++ caps) W fun e W' => (e = .returned (.bool true) ∧ J k W') ∨ (e = .returned (.bool false) ∧ I (k + 1) W'))
    (h0 : I 0 w) (hl : n ≤ 1000000) :
    Calls Tryd.prog 14 #[.slice A n c, .func (.func g) #[] caps] w fun e w' => (∃ k : Nat, k < n ∧ e = .returned (.int .i64 k) ∧ J k w') ∨ (e = .returned (.int .i64 (-1)) ∧ I n w') := by
  have HI := Lib.hid hI
  have HP := Lib.hid hp
  have H0 := Lib.hid h0
  clear hI hp h0
  unfold Ent1 at eg
  go_enter Tryd.func14, Tryd.ntmps14
  go_wp2_with fail
  go_loopw [8] (fun i wr => ∃ k : Nat, k ≤ n ∧ i = .int .i64 k ∧ I k wr) (fun i _ => n - (intOf i).toNat)
  case atStart => exact ⟨0, Nat.zero_le _, rfl, H0.out⟩
  case round =>
    obtain ⟨k, hk, rfl, hik⟩ := hrel
    have HK := Lib.hid hik
    clear hik
    by_cases hlk : k < n
    · obtain ⟨ad, X, rfl, hX, c0, c1, c2⟩ := HI.out k _ hlk HK.out
      have HPk := Lib.hid (HP.out k _ hlk HK.out)
      obtain ⟨a, ha⟩ : ∃ x, (N k).1 = x := ⟨_, rfl⟩
      obtain ⟨S1, h1⟩ : ∃ x, str (N k).2.1 = x := ⟨_, rfl⟩
      obtain ⟨S2, h2⟩ : ∃ x, str (N k).2.2 = x := ⟨_, rfl⟩
      rw [ha] at c0
      rw [h1] at c1
      rw [h2] at c2
      rw [ha, h1, h2] at HPk
      clear ha h1 h2
      go_wp2_with fail
      refine HPk.out.mono ?_
      rintro e w' (⟨rfl, hj⟩ | ⟨rfl, hi⟩)
      · have HJ := Lib.hid hj
        clear hj c0 c1 c2
        go_wp2_with fail
        go_ret
        exact .inl ⟨k, hlk, rfl, HJ.out⟩
      · have HN := Lib.hid hi
        clear hi c0 c1 c2
        go_wp2_with fail
        go_roundw
        case rel => exact ⟨k + 1, by omega, by go_num, HN.out⟩
        case measure => simp [intOf]; omega
    · obtain rfl : k = n := by omega
      go_wp2_with fail
      go_ret
      exact .inr ⟨rfl, HK.out⟩
end Go.Proofs.YtbeehedppofpnaaDoor

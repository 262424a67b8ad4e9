/- Contract: drop: seconds that others have are taken out. -/
import Derived.Test.YtlogapkpllgdcaaDoorPdSpans
namespace Go.Proofs.YtlogapkpllgdcaaDoor
open Go.RowKit

def diffN (x y : Nat) : Nat := x &&& (18446744073709551615 - y)
theorem diffN_lt {x y : Nat} (hx : x < 18446744073709551616) : diffN x y < 18446744073709551616 := Nat.lt_of_le_of_lt Nat.and_le_left hx
theorem diffN_bit {x y i : Nat} (hy : y < 18446744073709551616) (hi : i < 64) : (diffN x y).testBit i = (x.testBit i && !y.testBit i) := by
  unfold diffN
  rw [Nat.testBit_and, tb_not hy hi]
theorem andNot_u64 (x y : Nat) (hx : x < 18446744073709551616) (hy : y < 18446744073709551616) : bits BinOp.andNot IntKind.u64 (x : Int) (y : Int) = ((diffN x y : Nat) : Int) := by
  have h1 : (BitVec.ofInt 64 (x : Int)).toNat = x := by
    rw [BitVec.ofInt_natCast, BitVec.toNat_ofNat]; exact Nat.mod_eq_of_lt (by omega)
  have h2 : (BitVec.ofInt 64 (y : Int)).toNat = y := by
    rw [BitVec.ofInt_natCast, BitVec.toNat_ofNat]; exact Nat.mod_eq_of_lt (by omega)
  show IntKind.u64.wrap ((BitVec.ofInt 64 (x : Int) &&& ~~~ BitVec.ofInt 64 (y : Int)).toNat : Int) = _
  rw [BitVec.toNat_and, BitVec.toNat_not, h1, h2, IntKind.wrap_u64]
  have h3 := diffN_lt (y := y) hx
  unfold diffN at *
  rw [show (2 ^ 64 - 1 - y : Nat) = 18446744073709551615 - y from rfl]
  generalize x &&& (18446744073709551615 - y) = d at *
  omega
/-- Only one block has changed. -/
structure Only (bs : Nat) (w W : World) : Prop where
  below : Below bs w W
  size : W.heap.size = w.heap.size
  other : ∀ b, b ≠ bs → W.heap[b]? = w.heap[b]?
theorem Only.refl (bs : Nat) (w : World) : Only bs w w := ⟨Below.refl _ _, rfl, fun _ _ => rfl⟩
theorem Only.setCell {bs : Nat} {w W : World} (h : Only bs w W) (i : Nat) (v : Value) : Only bs w (W.setCell ⟨bs, i, none⟩ v) :=
  ⟨h.below.setCell (p := ⟨bs, i, none⟩) (Nat.le_refl _) _, by simpa using h.size, fun b hb => (heap_setCell_other W ⟨bs, i, none⟩ b v hb).trans (h.other b hb)⟩
/-- What drop ends with. -/
def Dropped (bs : Nat) (ws : List Nat) (g : Nat → Bool) (w : World) (W : World) : Prop :=
  ∃ ws2, W.heap[bs]? = some (.cells (u64L ws2).toArray 92 (0, 0)) ∧ Words ws2 ∧ (∀ j, j < 86400 → bit ws2 j = (bit ws j && !g j)) ∧ Only bs w W
/-- What its loop keeps: the first k words are done. -/
def DropR (bs : Nat) (ws ys : List Nat) (w : World) (k : Nat) (W : World) : Prop :=
  ∃ ws2, W.heap[bs]? = some (.cells (u64L ws2).toArray 92 (0, 0)) ∧ Words ws2 ∧ (∀ i, i < k → ws2.getD i 0 = diffN (ws.getD i 0) (ys.getD i 0)) ∧ (∀ i, k ≤ i → ws2.getD i 0 = ws.getD i 0) ∧ Only bs w W
set_option maxRecDepth 100000 in
set_option maxHeartbeats 1000000 in
theorem drop_words (bs bo : Nat) (ws ys : List Nat) (w : World) (hws : Words ws) (hys : Words ys) (hb : w.heap[bs]? = some (.cells (u64L ws).toArray 92 (0, 0))) (ho : w.heap[bo]? = some (.cells (u64L ys).toArray 92 (0, 0))) (hne : bo ≠ bs) :
    Calls Tryd.prog 33 #[.slice (some ⟨bs, 0, none⟩) 1350 1350, .slice (some ⟨bo, 0, none⟩) 1350 1350] w fun e W => e = .returned (.tuple #[]) ∧ DropR bs ws ys w 1350 W := by
  have HYS := Lib.hid hys
  have HO := Lib.hid ho
  have HNE := Lib.hid hne
  have H0 : Hid (DropR bs ws ys w 0 w) := ⟨ws, hb, hws, fun i h => by omega, fun _ _ => rfl, Only.refl _ _⟩
  clear hws hys hb ho hne
  go_enter Tryd.func33, Tryd.ntmps33
  go_wp2_with fail
  go_loopw [8] (fun i wr => ∃ k : Nat, k ≤ 1350 ∧ i = .int .i64 k ∧ DropR bs ws ys w k wr) (fun i _ => 1350 - (intOf i).toNat)
  case atStart => exact ⟨0, Nat.zero_le _, rfl, H0.out⟩
  case round =>
    obtain ⟨k, hk, rfl, ws2, h1, h2, h3, h4, h5⟩ := hrel
    have HR := Lib.hid (And.intro h3 (And.intro h4 h5))
    by_cases hlt : k < 1350
    · have c1 : wr.cell? ⟨bo, k, none⟩ = some (.int .u64 (ys.getD k 0 : Nat)) := cell_blk ((h5.other bo HNE.out).trans HO.out) k (u64L_get ys k (by rw [HYS.out.1]; exact hlt))
      have c2 : wr.cell? ⟨bs, k, none⟩ = some (.int .u64 (ws2.getD k 0 : Nat)) := cell_blk h1 k (u64L_get ws2 k (by rw [h2.1]; exact hlt))
      have c3 := frz_blk h1 k
      have hx := h2.get k
      have hy := HYS.out.get k
      have hst := heap_setCell_same wr bs k _ _ (.int .u64 (diffN (ws2.getD k 0) (ys.getD k 0) : Nat)) h1
      rw [u64L_set] at hst
      have HN : Hid (DropR bs ws ys w (k + 1) (wr.setCell ⟨bs, k, none⟩ (.int .u64 (diffN (ws2.getD k 0) (ys.getD k 0) : Nat)))) := by
        refine ⟨_, hst, h2.set k (diffN_lt hx), fun i hi => ?_, fun i hi => ?_, h5.setCell k _⟩
        · rw [getD_set (by rw [h2.1]; exact hlt)]
          split
          · rename_i e; rw [e, h4 k (Nat.le_refl _)]
          · exact h3 i (by omega)
        · rw [getD_set (by rw [h2.1]; exact hlt), if_neg (by omega)]
          exact h4 i (by omega)
      have hv := andNot_u64 _ _ hx hy
      generalize diffN (ws2.getD k 0) (ys.getD k 0) = d at *
      generalize ws2.getD k 0 = x at *
      generalize ys.getD k 0 = y at *
      clear h1 h2 h3 h4 h5 hst
      go_wp2_with fail
      go_roundw
      case rel => exact ⟨k + 1, by omega, by go_num, HN.out⟩
      case measure => simp [intOf]; omega
    · obtain rfl : k = 1350 := by omega
      have HF : Hid (DropR bs ws ys w 1350 wr) := ⟨ws2, h1, h2, h3, h4, h5⟩
      clear h1 h2 h3 h4 h5
      go_wp2_with fail
      go_end0
      exact ⟨rfl, HF.out⟩
set_option maxRecDepth 100000 in
theorem drop_any (bs : Nat) (ws : List Nat) (u : Value) (g : Nat → Bool) (w : World) (hws : Words ws) (hb : w.heap[bs]? = some (.cells (u64L ws).toArray 92 (0, 0))) (hu : HSec w u g) (hne : ∀ b, u = .slice (some ⟨b, 0, none⟩) 1350 1350 → b ≠ bs) :
    Calls Tryd.prog 33 #[.slice (some ⟨bs, 0, none⟩) 1350 1350, u] w fun e W => e = .returned (.tuple #[]) ∧ Dropped bs ws g w W := by
  rcases hu with ⟨rfl, hg⟩ | ⟨bo, ys, rfl, h1, h2, h3⟩
  · have HF : Hid (Dropped bs ws g w w) := ⟨ws, hb, hws, fun j hj => by rw [hg j hj]; simp, Only.refl _ _⟩
    clear hg hws hb hne
    go_enter Tryd.func33, Tryd.ntmps33
    go_wp2_with fail
    refine wp_loop_rounds 1 ?_
    rw [rounds_succ]
    go_wp2_with fail
    go_end0
    exact ⟨rfl, HF.out⟩
  · refine (drop_words bs bo ws ys w hws h2 hb h1 (hne bo rfl)).mono fun e W ⟨he, ws2, a1, a2, a3, a4, a5⟩ => ⟨he, ws2, a1, a2, fun j hj => ?_, a5⟩
    unfold bit
    rw [a3 (j / 64) (by omega), diffN_bit (h2.get _) (Nat.mod_lt _ (by decide)), h3 j hj]
    rfl
end Go.Proofs.YtlogapkpllgdcaaDoor

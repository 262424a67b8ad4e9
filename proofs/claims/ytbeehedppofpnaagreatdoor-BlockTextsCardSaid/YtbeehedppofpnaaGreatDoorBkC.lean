/- Contracts: the reader that takes lines: last, begin, field, take. -/
import Derived.Test.YtbeehedppofpnaaGreatDoorBkA
import Derived.Test.YtbeehedppofpnaaGreatDoorBkB
import Derived.Test.YtbeehedppofpnaaGreatDoorBkMem
import Derived.Test.YtbeehedppofpnaaGreatDoorBkMap
import Derived.Test.YtbeehedppofpnaaGreatDoorLxC
import Derived.Deep.Cut
namespace Go.Proofs.YtbeehedppofpnaaGreatDoor
open Go.RowKit

theorem blkInfo : (Tryz.prog.info? 46).map (fun i => (i.zero, i.size, i.bytes)) = some (some (.agg #[.int .i64 0, .string ⟨#[]⟩, .slice none 0 0]), 3, 48) := by kernel_rfl
theorem fldInfo : (Tryz.prog.info? 48).map (fun i => (i.zero, i.size, i.bytes)) = some (some (.agg #[.int .i64 0, .string ⟨#[]⟩, .string ⟨#[]⟩]), 3, 40) := by kernel_rfl
theorem cell_blk {w : World} {g : Nat} {cs : Array Value} {t : TypeId} {fr : Nat × Nat} (h : w.heap[g]? = some (.cells cs t fr)) (k : Nat) {v : Value} (hv : cs[k]? = some v) : w.cell? ⟨g, k, none⟩ = some v := by
  simp [World.cell?, h, hv]
theorem frz_blk {w : World} {g : Nat} {cs : Array Value} {t : TypeId} (h : w.heap[g]? = some (.cells cs t (0, 0))) (k : Nat) : w.frozen? ⟨g, k, none⟩ = false := by
  simp [World.frozen?, h]
theorem blk_lt {w : World} {g : Nat} {x : Obj} (h : w.heap[g]? = some x) : g < w.heap.size := (Array.getElem?_eq_some_iff.1 h).1
theorem own_block {w w' : World} {base k : Nat} {e : TypeId} {v : Value} {n : Nat} {xs : List Value} (h : w.ownsRow base e k v n xs) (hb : ∀ i, v.ownBlock = some i → w'.heap[i]? = w.heap[i]?) : w'.ownsRow base e k v n xs := by
  refine ⟨h.1, ?_⟩
  rcases h.2 with h0 | ⟨g, cap, cur, hv, hbg, hg, r⟩
  · exact .inl h0
  · exact .inr ⟨g, cap, cur, hv, hbg, (hb g (by rw [hv]; rfl)).trans hg, r⟩
/-- What a step of the reader keeps: what lies below base, and every block of another type than its own three. -/
structure Kp9 (base : Nat) (w w' : World) : Prop where
  below : Below base w w'
  kept : ∀ (k : Nat) (cs : Array Value) (e : TypeId) (fr : Nat × Nat), w.heap[k]? = some (Obj.cells cs e fr) → e ≠ 46 → e ≠ 48 → e ≠ 55 → w'.heap[k]? = some (Obj.cells cs e fr)
section
variable {base : Nat} {w w' w2 : World}
theorem Kp9.of (h : Below w.heap.size w w') (hb : base ≤ w.heap.size) : Kp9 base w w' :=
  ⟨h.mono hb, fun k _ _ _ hk _ _ _ => (h.block k (blk_lt hk)).trans hk⟩
theorem Kp9.refl (base : Nat) (w : World) : Kp9 base w w := ⟨Below.refl _ _, fun _ _ _ _ h _ _ _ => h⟩
theorem Kp9.trans (h : Kp9 base w w') (k : Kp9 base w' w2) : Kp9 base w w2 :=
  ⟨h.below.trans k.below, fun i cs e fr h0 h1 h2 h3 => k.kept i cs e fr (h.kept i cs e fr h0 h1 h2 h3) h1 h2 h3⟩
theorem Kp9.alloc (h : Kp9 base w w') (hb : base ≤ w'.heap.size) (o : Obj) : Kp9 base w (w'.alloc o) :=
  h.trans (Kp9.of ((Below.refl _ w').alloc (Nat.le_refl _) o) hb)
/-- A row grows, one of the reader's or a map. -/
theorem Kp9.grown {row : Option Nat} (h : Kp9 base w w') (hg : w'.grownBy w2 row) (hb : base ≤ w'.heap.size) (hr : ∀ k, row = some k → base ≤ k ∧ ∀ (cs : Array Value) (e : TypeId) (fr : Nat × Nat), w'.heap[k]? = some (Obj.cells cs e fr) → e = 46 ∨ e = 48 ∨ e = 55) : Kp9 base w w2 :=
  h.trans ⟨(Below.refl base w').grown hg hb (fun k hk => (hr k hk).1), fun k cs e fr h0 h1 h2 h3 => (hg.block k (blk_lt h0) (fun e1 => by
    rcases (hr k e1.symm).2 cs e fr h0 with h4 | h4 | h4
    · exact h1 h4
    · exact h2 h4
    · exact h3 h4)).trans h0⟩
theorem Kp9.set {a : Addr} {cs : Array Value} {e : TypeId} {fr : Nat × Nat} (h : Kp9 base w w') (ha : w'.heap[a.block]? = some (Obj.cells cs e fr)) (hb : base ≤ a.block) (he : e = 46 ∨ e = 55) (v : Value) : Kp9 base w (w'.setCell a v) :=
  h.trans ⟨(Below.refl base w').setCell hb v, fun k cs' e' fr' h0 h1 _ h3 => (heap_setCell_other w' a k v (fun e1 => by
    subst e1
    rw [ha] at h0
    injection h0 with h0
    injection h0 with _ h0
    rcases he with he | he
    · exact h1 (h0 ▸ he)
    · exact h3 (h0 ▸ he))).trans h0⟩
end
/-- The reader outside of a block; within one. -/
structure Out9 (w : World) (base g : Nat) (out : List Bk) : Prop where
  low : base ≤ g
  st : ∃ v m Z, w.heap[g]? = some (.cells #[v, .bool false, m] 55 (0, 0)) ∧ Z.map (·.1) = out.map iB ∧ Bld w base w.heap.size 46 48 v Z
structure In9 (w : World) (base g : Nat) (out : List Bk) (b : Bk) (v vF : Value) (mb B : Nat) (Z : List (MB × Value)) : Prop where
  low : base ≤ g ∧ base ≤ B ∧ B ≤ w.heap.size ∧ base ≤ mb
  cell : w.heap[g]? = some (.cells #[v, .bool true, .map (some mb)] 55 (0, 0))
  same : Z.map (·.1) = out.map iB
  own : w.ownsRow base 46 3 v (Z.length + 1) ((Z ++ [(iB b, vF)]).flatMap bkC)
  rows : ∀ p ∈ Z, HeldF w base B 48 p.2 p.1.2.2
  last : w.ownsRow B 48 3 vF b.2.2.length ((b.2.2.map iF).flatMap fdC)
  names : NmIs w mb (b.2.2.map (·.2.1))
def Rd9 (w : World) (base g : Nat) (out : List Bk) : Option Bk → Prop
  | none => Out9 w base g out
  | some b => ∃ v vF mb B Z, In9 w base g out b v vF mb B Z
theorem Bld.below {w w' : World} {base : Nat} {eB eF : TypeId} {v : Value} {Z : List (MB × Value)} (h : Bld w base w.heap.size eB eF v Z) (hb : Below w.heap.size w w') : Bld w' base w'.heap.size eB eF v Z :=
  ⟨owns_below8 h.own hb, fun p hp => (h.rows p hp).keep (Nat.le_refl _) hb.size fun b _ _ _ h2 _ => hb.block b h2⟩
theorem Out9.below {w w' : World} {base g : Nat} {out : List Bk} (h : Out9 w base g out) (hb : Below w.heap.size w w') : Out9 w' base g out := by
  obtain ⟨v, m, Z, h1, h2, h3⟩ := h.st
  exact ⟨h.low, v, m, Z, (hb.block _ (blk_lt h1)).trans h1, h2, h3.below hb⟩
theorem In9.below {w w' : World} {base g mb B : Nat} {out : List Bk} {b : Bk} {v vF : Value} {Z : List (MB × Value)} (h : In9 w base g out b v vF mb B Z) (hb : Below w.heap.size w w') : In9 w' base g out b v vF mb B Z where
  low := ⟨h.low.1, h.low.2.1, Nat.le_trans h.low.2.2.1 hb.size, h.low.2.2.2⟩
  cell := (hb.block _ (blk_lt h.cell)).trans h.cell
  same := h.same
  own := owns_below8 h.own hb
  rows := fun p hp => (h.rows p hp).below h.low.2.2.1 hb
  last := owns_below8 h.last hb
  names := h.names.below hb
theorem Rd9.below {w w' : World} {base g : Nat} {out : List Bk} {cur : Option Bk} (h : Rd9 w base g out cur) (hb : Below w.heap.size w w') : Rd9 w' base g out cur := by
  cases cur with
  | none => exact Out9.below h hb
  | some b =>
    obtain ⟨v, vF, mb, B, Z, h⟩ := h
    exact ⟨v, vF, mb, B, Z, h.below hb⟩
set_option maxHeartbeats 1000000 in
/-- The block that was begun last. -/
theorem last_any (g m n c : Nat) (ad : Addr) (b mp : Value) (w : World) (hn : n = m + 1) (hl : n ≤ 1000000) (hc : w.heap[g]? = some (.cells #[.slice (some ad) n c, b, mp] 55 (0, 0))) :
    Calls Tryz.prog 18 #[.pointer (some ⟨g, 0, none⟩)] w fun e w' => e = .returned (.pointer (some (ad.add (m * 3)))) ∧ ∃ q, w' = w.drewN q := by
  have c0 := cell_blk hc 0 (v := .slice (some ad) n c) rfl
  have q0 : (n : Int) - 1 = (m : Int) := by omega
  have q1 : (m : Int) < n := by omega
  have q2 : (0 : Int) ≤ m := by omega
  have q3 : IntKind.i64.wrap ((n : Int) - 1) = (m : Int) := by rw [q0]; exact IntWalk.i64_in _ (by omega)
  clear hc hn
  go_enter Tryz.func18, Tryz.ntmps18
  go_wp2_with fail
  go_quiet (fail)
  go_wp2_with fail
  go_ret
  exact ⟨rfl, _, rfl⟩
end Go.Proofs.YtbeehedppofpnaaGreatDoor

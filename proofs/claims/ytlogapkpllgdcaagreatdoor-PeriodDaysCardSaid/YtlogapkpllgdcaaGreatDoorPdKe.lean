/- PdKeep, PdKeepW, in one text. -/
import Derived.Test.YtlogapkpllgdcaaGreatDoorPdCk
import Derived.Test.YtlogapkpllgdcaaGreatDoorRlE
/- Contracts: keep, at bools and at seconds: what it makes. -/
namespace Go.Proofs.YtlogapkpllgdcaaGreatDoor
open Go.RowKit

theorem elB : Elem Tryz.prog 91 4 (.bool false) 1 := ⟨Tryz.underlying91, by kernel_rfl, rfl⟩
theorem elW : Elem Tryz.prog 161 93 (.slice none 0 0) 24 := ⟨Tryz.underlying161, by kernel_rfl, rfl⟩
theorem blk5 (w : World) (o0 o1 o2 o3 o4 : Obj) : (((((w.alloc o0).alloc o1).alloc o2).alloc o3).alloc o4).heap[w.heap.size]? = some o0 ∧ (((((w.alloc o0).alloc o1).alloc o2).alloc o3).alloc o4).heap[w.heap.size + 1]? = some o1 ∧
    (((((w.alloc o0).alloc o1).alloc o2).alloc o3).alloc o4).heap[w.heap.size + 1 + 1]? = some o2 ∧ (((((w.alloc o0).alloc o1).alloc o2).alloc o3).alloc o4).heap[w.heap.size + 1 + 1 + 1]? = some o3 ∧
    (((((w.alloc o0).alloc o1).alloc o2).alloc o3).alloc o4).heap[w.heap.size + 1 + 1 + 1 + 1]? = some o4 := by
  obtain ⟨h0, h1, h2, h3⟩ := blk4 w o0 o1 o2 o3
  have s4 : ((((w.alloc o0).alloc o1).alloc o2).alloc o3).heap.size = w.heap.size + 4 := by simp [World.size_alloc]
  have h4 := heap_alloc_new ((((w.alloc o0).alloc o1).alloc o2).alloc o3) o4
  rw [s4] at h4
  refine ⟨?_, ?_, ?_, ?_, h4⟩
  · rw [Below.heap_alloc _ _ _ (by omega)]; exact h0
  · rw [Below.heap_alloc _ _ _ (by omega)]; exact h1
  · rw [Below.heap_alloc _ _ _ (by omega)]; exact h2
  · rw [Below.heap_alloc _ _ _ (by omega)]; exact h3
/-- What keep has made: arrays bL, bK; variables pL, pN, pK. -/
structure KeepSt (w W : World) (f : Value) (n : Nat) (z : Value) (tz : TypeId) (pL pN pK bL bK : Nat) : Prop where
  cL : ∃ t, W.heap[pL]? = some (.cells #[.slice (some ⟨bL, 0, none⟩) n n] t (0, 0))
  cK : ∃ t, W.heap[pK]? = some (.cells #[.slice (some ⟨bK, 0, none⟩) n n] t (0, 0))
  cN : ∃ t, W.heap[pN]? = some (.cells #[f] t (0, 0))
  aL : W.heap[bL]? = some (.cells (madeCells #[.int .i64 0] n) 3 (0, 0))
  aK : W.heap[bK]? = some (.cells (madeCells #[z] n) tz (0, 0))
  below : Below w.heap.size w W
  ne : bL ≠ bK ∧ pL ≠ bL ∧ pL ≠ bK ∧ pN ≠ bL ∧ pN ≠ bK ∧ pK ≠ bL ∧ pK ≠ bK ∧ w.heap.size ≤ bL ∧ w.heap.size ≤ bK ∧ w.heap.size ≤ pL ∧ w.heap.size ≤ pN ∧ w.heap.size ≤ pK
/-- What keep hands back. -/
def Kept (w W : World) (f : Value) (n : Nat) (z : Value) (tz : TypeId) (g : FuncId) (e : Ending) : Prop :=
  ∃ pL pN pK bL bK : Nat, e = .returned (.func (.func g) #[] #[.pointer (some ⟨pL, 0, none⟩), .pointer (some ⟨pN, 0, none⟩), .pointer (some ⟨pK, 0, none⟩)]) ∧ KeepSt w W f n z tz pL pN pK bL bK
theorem kept_mk {w W : World} {f : Value} {n : Nat} {z : Value} {tz t1 t2 t3 : TypeId} {g : FuncId} {e : Ending} {pL pN pK bL bK : Nat}
    (he : e = .returned (.func (.func g) #[] #[.pointer (some ⟨pL, 0, none⟩), .pointer (some ⟨pN, 0, none⟩), .pointer (some ⟨pK, 0, none⟩)]))
    (cL : W.heap[pL]? = some (.cells #[.slice (some ⟨bL, 0, none⟩) n n] t1 (0, 0))) (cK : W.heap[pK]? = some (.cells #[.slice (some ⟨bK, 0, none⟩) n n] t2 (0, 0))) (cN : W.heap[pN]? = some (.cells #[f] t3 (0, 0)))
    (aL : W.heap[bL]? = some (.cells (madeCells #[.int .i64 0] n) 3 (0, 0))) (aK : W.heap[bK]? = some (.cells (madeCells #[z] n) tz (0, 0))) (below : Below w.heap.size w W)
    (ne : bL ≠ bK ∧ pL ≠ bL ∧ pL ≠ bK ∧ pN ≠ bL ∧ pN ≠ bK ∧ pK ≠ bL ∧ pK ≠ bK ∧ w.heap.size ≤ bL ∧ w.heap.size ≤ bK ∧ w.heap.size ≤ pL ∧ w.heap.size ≤ pN ∧ w.heap.size ≤ pK) : Kept w W f n z tz g e :=
  ⟨pL, pN, pK, bL, bK, he, ⟨⟨_, cL⟩, ⟨_, cK⟩, ⟨_, cN⟩, aL, aK, below, ne⟩⟩
set_option maxRecDepth 100000 in
set_option maxHeartbeats 4000000 in
theorem keepB_any (n : Nat) (g : FuncId) (caps : Array Value) (w : World) (hn : n ≤ 1000000) :
    Calls Tryz.prog 44 #[.int .i64 n, .func (.func g) #[] caps] w fun e w' => Kept w w' (.func (.func g) #[] caps) n (.bool false) 4 75 e := by
  have hmk : ∀ W : World, (Instr.makeSlice 55 (.int .i64 (n : Int)) (.int .i64 (n : Int))).run Tryz.prog W = .ok (.slice (some ⟨W.heap.size, 0, none⟩) n n) (W.alloc (.cells (madeCells #[.int .i64 0] n) 3)) := fun W => by
    have := run_mk elI (n : Int) (n : Int) (by omega) (Int.le_refl _) (by omega) (by omega) W
    exact this
  have hmk2 : ∀ W : World, (Instr.makeSlice 91 (.int .i64 (n : Int)) (.int .i64 (n : Int))).run Tryz.prog W = .ok (.slice (some ⟨W.heap.size, 0, none⟩) n n) (W.alloc (.cells (madeCells #[.bool false] n) 4)) := fun W => by
    have := run_mk elB (n : Int) (n : Int) (by omega) (Int.le_refl _) (by omega) (by omega) W
    exact this
  go_enter Tryz.func44, Tryz.ntmps44
  go_wp2_with fail
  go_region_held3 (fun V => w.heap.size ≤ V.heap.size) ((simp; try omega)) (fail)
  all_goals
    clear hmk hmk2
    go_wp2_with fail
    go_ret
    apply kept_mk rfl
    case cL => first | exact (blk5 _ _ _ _ _ _).2.1 | exact (blk5 _ _ _ _ _ _).2.2.1 | exact (blk5 _ _ _ _ _ _).2.2.2.1 | exact (blk5 _ _ _ _ _ _).2.2.2.2
    case cK => first | exact (blk5 _ _ _ _ _ _).2.1 | exact (blk5 _ _ _ _ _ _).2.2.1 | exact (blk5 _ _ _ _ _ _).2.2.2.1 | exact (blk5 _ _ _ _ _ _).2.2.2.2
    case cN => exact (blk5 _ _ _ _ _ _).1
    case aL => first | exact (blk5 _ _ _ _ _ _).2.1 | exact (blk5 _ _ _ _ _ _).2.2.1 | exact (blk5 _ _ _ _ _ _).2.2.2.1 | exact (blk5 _ _ _ _ _ _).2.2.2.2
    case aK => first | exact (blk5 _ _ _ _ _ _).2.1 | exact (blk5 _ _ _ _ _ _).2.2.1 | exact (blk5 _ _ _ _ _ _).2.2.2.1 | exact (blk5 _ _ _ _ _ _).2.2.2.2
    case below => exact ((((((Below.refl _ _).alloc (Nat.le_refl _) _).alloc (by simp) _).alloc (by simp; omega) _).alloc (by simp; omega) _).alloc (by simp; omega) _).drew
    case ne => omega
end Go.Proofs.YtlogapkpllgdcaaGreatDoor
/- Contract: keep, at seconds. -/
namespace Go.Proofs.YtlogapkpllgdcaaGreatDoor
open Go.RowKit

set_option maxRecDepth 100000 in
set_option maxHeartbeats 4000000 in
theorem keepW_any (n : Nat) (g : FuncId) (caps : Array Value) (w : World) (hn : n ≤ 1000000) :
    Calls Tryz.prog 62 #[.int .i64 n, .func (.func g) #[] caps] w fun e w' => Kept w w' (.func (.func g) #[] caps) n (.slice none 0 0) 93 87 e := by
  have hmk : ∀ W : World, (Instr.makeSlice 55 (.int .i64 (n : Int)) (.int .i64 (n : Int))).run Tryz.prog W = .ok (.slice (some ⟨W.heap.size, 0, none⟩) n n) (W.alloc (.cells (madeCells #[.int .i64 0] n) 3)) := fun W => by
    have := run_mk elI (n : Int) (n : Int) (by omega) (Int.le_refl _) (by omega) (by omega) W
    exact this
  have hmk2 : ∀ W : World, (Instr.makeSlice 161 (.int .i64 (n : Int)) (.int .i64 (n : Int))).run Tryz.prog W = .ok (.slice (some ⟨W.heap.size, 0, none⟩) n n) (W.alloc (.cells (madeCells #[.slice none 0 0] n) 93)) := fun W => by
    have := run_mk elW (n : Int) (n : Int) (by omega) (Int.le_refl _) (by omega) (by omega) W
    exact this
  go_enter Tryz.func62, Tryz.ntmps62
  go_wp2_with fail
  go_region_held3 (fun V => w.heap.size ≤ V.heap.size) ((simp; try omega)) (fail)
  all_goals
    clear hmk hmk2
    go_wp2_with fail
    go_ret
    apply kept_mk rfl
    case cL => first | exact (blk5 _ _ _ _ _ _).2.1 | exact (blk5 _ _ _ _ _ _).2.2.1 | exact (blk5 _ _ _ _ _ _).2.2.2.1 | exact (blk5 _ _ _ _ _ _).2.2.2.2
    case cK => first | exact (blk5 _ _ _ _ _ _).2.1 | exact (blk5 _ _ _ _ _ _).2.2.1 | exact (blk5 _ _ _ _ _ _).2.2.2.1 | exact (blk5 _ _ _ _ _ _).2.2.2.2
    case cN => exact (blk5 _ _ _ _ _ _).1
    case aL => first | exact (blk5 _ _ _ _ _ _).2.1 | exact (blk5 _ _ _ _ _ _).2.2.1 | exact (blk5 _ _ _ _ _ _).2.2.2.1 | exact (blk5 _ _ _ _ _ _).2.2.2.2
    case aK => first | exact (blk5 _ _ _ _ _ _).2.1 | exact (blk5 _ _ _ _ _ _).2.2.1 | exact (blk5 _ _ _ _ _ _).2.2.2.1 | exact (blk5 _ _ _ _ _ _).2.2.2.2
    case below => exact ((((((Below.refl _ _).alloc (Nat.le_refl _) _).alloc (by simp) _).alloc (by simp; omega) _).alloc (by simp; omega) _).alloc (by simp; omega) _).drew
    case ne => omega
end Go.Proofs.YtlogapkpllgdcaaGreatDoor

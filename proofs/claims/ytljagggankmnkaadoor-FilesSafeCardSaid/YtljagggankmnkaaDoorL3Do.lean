/- Layer 3's law package: do, and an act as a value. -/
import Derived.Test.YtljagggankmnkaaDoorFsS
namespace Go.Proofs.YtljagggankmnkaaDoor
open Go.RowKit Go.Maps

/-- An act: its kind, its names, its bytes, a crash's numbers. -/
structure Act3 where
  kind : Int
  nm : Bs
  to : Bs
  b : Bs
  steps : Int
  part : Int
def actCells (a : Act3) : List Value := [.int .i64 a.kind, .string (str a.nm), .string (str a.to), .string (str a.b), .int .i64 a.steps, .int .i64 a.part]
def actV (a : Act3) : Value := .agg (actCells a).toArray
/-- The kind that counts. -/
def kOf (k : Int) : Nat := (IntKind.u64.wrap k % 6).toNat
theorem u64_nonneg (k : Int) : 0 ≤ IntKind.u64.wrap k := by
  simp only [IntKind.wrap, IntKind.bits, IntKind.signed]
  simp
  omega
theorem kind_facts {k : Nat} (h : k = 0 ∨ k = 1 ∨ k = 5) : ((k : Int) == 2) = false ∧ ((k : Int) == 3) = false ∧ ((k : Int) == 4) = false := by
  rcases h with rfl | rfl | rfl <;> decide
theorem kOf_lt (k : Int) : kOf k < 6 := by
  have h1 := Int.emod_nonneg (IntKind.u64.wrap k) (show (6 : Int) ≠ 0 by decide)
  have h2 := Int.emod_lt_of_pos (IntKind.u64.wrap k) (show (0 : Int) < 6 by decide)
  unfold kOf
  omega
theorem kOf_eq (k : Int) : IntKind.u64.wrap k % 6 = (kOf k : Int) := by
  have h1 := Int.emod_nonneg (IntKind.u64.wrap k) (show (6 : Int) ≠ 0 by decide)
  unfold kOf
  omega
set_option maxRecDepth 100000 in
/-- '[]byte(s)'. -/
theorem bytes_of (l : Bs) (w : World) : ∃ c w', (convert 9 36 (.string (str l))).run Tryd.prog w = .ok (.slice (some ⟨w.heap.size, 0, none⟩) l.length c) w' ∧ Below w.heap.size w w' ∧ Rd w' (some ⟨w.heap.size, 0, none⟩) (bs l) := by
  have h := run_bytes_of_string w 9 36 5 (str l) Tryd.underlying9 Tryd.underlying36 Tryd.underlying5
  refine ⟨_, _, h, ?_, ?_⟩
  · exact (Below.refl _ w).drew.alloc (Nat.le_refl _) _
  · intro _
    refine ⟨_, rfl, fun j u hu => ?_⟩
    have hj : j < l.length := by have := (List.getElem?_eq_some_iff.1 hu).1; rwa [bs_length] at this
    have hb := (MapKept.heap_alloc w.drew (.cells (bytesRow (str l) (grownCap w (str l).size 0 5)) 5 ((bytesRow (str l) (grownCap w (str l).size 0 5)).size, (bytesRow (str l) (grownCap w (str l).size 0 5)).size + 1))).1
    have hc := cell_blk (g := w.heap.size) hb j (bytesRow_at (str l) _ j (by simpa [str] using hj))
    have hu2 : u = .int .u8 (l[j].toNat : Int) := by
      have h2 := List.getElem?_eq_getElem (l := bs l) (i := j) (by rw [bs_length]; exact hj)
      rw [h2] at hu
      injection hu with hu
      rw [← hu, bs_get l j hj]
    rw [hu2]
    have e1 : (⟨w.heap.size, 0, none⟩ : Addr).add j = ⟨w.heap.size, j, none⟩ := by unfold Addr.add; split <;> simp_all
    rw [e1]
    simpa [str] using hc
section
variable {B p : Nat} {F : Nat → Prop} {su no : List (Bs × Bs)} {st : List (Stp Bs)}
/-- What an act leaves: a disk; and what is sure, unless it made sure. -/
def Done (B p : Nat) (F : Nat → Prop) (su : List (Bs × Bs)) (k : Nat) (w : World) (e : Ending) (w' : World) : Prop :=
  e = .returned (.tuple #[]) ∧ ∃ F' su' no' st', Turn F w F' w' ∧ Disk w' B p F' su' no' st' ∧ (k ≠ 4 → su' = su)
set_option maxHeartbeats 4000000 in
set_option maxRecDepth 100000 in
theorem do3_is (a : Act3) (w : World) (hd : Disk w B p F su no st) (hB : B ≤ w.heap.size) (hn : a.b.length ≤ 2 ^ 64) :
    Calls Tryd.prog 23 #[.pointer (some ⟨p, 0, none⟩), actV a] w (Done B p F su (kOf a.kind) w) := by
  obtain ⟨kind, nm, to, b, steps, part⟩ := a
  have hk := kOf_lt kind
  have hke := kOf_eq kind
  dsimp only at hn hk hke ⊢
  have ha : actV ⟨kind, nm, to, b, steps, part⟩ = .agg #[.int .i64 kind, .string (str nm), .string (str to), .string (str b), .int .i64 steps, .int .i64 part] := rfl
  rw [ha]
  clear ha
  have h0 := Int.emod_nonneg (IntKind.u64.wrap kind) (show (6 : Int) ≠ 0 by decide)
  have ht : (IntKind.u64.wrap kind).tmod 6 = (kOf kind : Int) := by
    rw [Int.tmod_eq_emod_of_nonneg (u64_nonneg kind), hke]
  clear h0 hke
  generalize kOf kind = k at hk ht ⊢
  have HD := Lib.hid (And.intro hd (And.intro hB hn))
  clear hd hB hn
  have hw0 := (Below.refl w.heap.size w).alloc (Nat.le_refl _) (.cells #[.int .i64 kind, .string (str nm), .string (str to), .string (str b), .int .i64 steps, .int .i64 part] 30)
  have HW := Lib.hid hw0
  clear hw0
  rcases (show k = 2 ∨ k = 3 ∨ k = 4 ∨ (k = 0 ∨ k = 1 ∨ k = 5) by omega) with rfl | rfl | rfl | h3
  · go_enter Tryd.func23, Tryd.ntmps23
    go_wp2_with fail
    refine (rename_is nm to _ (HD.out.1.below HW.out) (Nat.le_trans HD.out.2.1 HW.out.size)).mono ?_
    rintro e w1 ⟨rfl, F', ht', hd'⟩
    have HX := Lib.hid (And.intro ht' hd')
    clear ht' hd'
    go_wp2_with fail
    go_end0
    exact ⟨rfl, F', _, _, _, (Turn.of_below F HW.out).trans HX.out.1, HX.out.2, fun _ => rfl⟩
  · go_enter Tryd.func23, Tryd.ntmps23
    go_wp2_with fail
    refine (remove_is nm _ (HD.out.1.below HW.out) (Nat.le_trans HD.out.2.1 HW.out.size)).mono ?_
    rintro e w1 ⟨rfl, F', ht', hd'⟩
    have HX := Lib.hid (And.intro ht' hd')
    clear ht' hd'
    go_wp2_with fail
    go_end0
    exact ⟨rfl, F', _, _, _, (Turn.of_below F HW.out).trans HX.out.1, HX.out.2, fun _ => rfl⟩
  · go_enter Tryd.func23, Tryd.ntmps23
    go_wp2_with fail
    refine (sync_ok _ (HD.out.1.below HW.out) (Nat.le_trans HD.out.2.1 HW.out.size)).mono ?_
    rintro e w1 ⟨rfl, F', ht', hd'⟩
    have HX := Lib.hid (And.intro ht' hd')
    clear ht' hd'
    go_wp2_with fail
    go_end0
    exact ⟨rfl, F', _, _, _, (Turn.of_below F HW.out).trans HX.out.1, HX.out.2, fun h => absurd rfl h⟩
  · obtain ⟨h5, h6, h7⟩ := kind_facts h3
    obtain ⟨c, w2, hconv, hb2, hr2⟩ := bytes_of b (w.alloc (.cells #[.int .i64 kind, .string (str nm), .string (str to), .string (str b), .int .i64 steps, .int .i64 part] 30))
    obtain ⟨n, hn⟩ : ∃ n, b.length = n := ⟨_, rfl⟩
    rw [hn, World.size_alloc] at hconv
    rw [World.size_alloc] at hr2
    have H2 := Lib.hid (And.intro (HW.out.trans (hb2.mono HW.out.size)) (And.intro hr2 hn))
    clear hb2 hr2 hn h3
    go_enter Tryd.func23, Tryd.ntmps23
    go_wp2_with fail
    refine (write_is nm b _ n c _ (HD.out.1.below H2.out.1) (Nat.le_trans HD.out.2.1 H2.out.1.size) H2.out.2.2 (H2.out.2.2 ▸ HD.out.2.2) H2.out.2.1).mono ?_
    rintro e w3 ⟨rfl, F', ht', hd'⟩
    have HX := Lib.hid (And.intro ht' hd')
    clear ht' hd'
    go_wp2_with fail
    go_end0
    exact ⟨rfl, F', _, _, _, (Turn.of_below F H2.out.1).trans HX.out.1, HX.out.2, fun _ => rfl⟩
end
end Go.Proofs.YtljagggankmnkaaDoor

/- Layer 3's law package: try, all made sure. -/
import Derived.Test.YtljagggankmnkaaDoorL3TryA
import Derived.StillTailTactics
import Derived.Deep.RegionHeld3
namespace Go.Proofs.YtljagggankmnkaaDoor
open Go.RowKit Go.Maps

set_option maxHeartbeats 4000000 in
set_option maxRecDepth 100000 in
theorem try_sy3 (kind : Int) (nm to b : Bs) (steps part : Int) {B p : Nat} {F : Nat → Prop} {su no : List (Bs × Bs)} {st : List (Stp Bs)} {D : Value} (w : World) (hd : Disk w B p F su no st) (hB : B ≤ w.heap.size) (hR : RefIs F w D no su st)
    (hE : ∀ F' W, Turn F w F' W → ErrT W) (hk : kOf kind = 4) :
    Calls Tryd.prog 9 #[.pointer (some ⟨p, 0, none⟩), D, actV ⟨kind, nm, to, b, steps, part⟩] w (Tried3 B p F w) := by
  have ha : actV ⟨kind, nm, to, b, steps, part⟩ = .agg #[.int .i64 kind, .string (str nm), .string (str to), .string (str b), .int .i64 steps, .int .i64 part] := rfl
  rw [ha]
  clear ha
  have ht : (IntKind.u64.wrap kind).tmod 6 = 4 := by rw [Int.tmod_eq_emod_of_nonneg (u64_nonneg kind), kOf_eq, hk]; rfl
  clear hk
  obtain ⟨A1, n1, c1, A2, n2, c2, A3, n3, c3, rfl⟩ := ref_form hR
  obtain ⟨hbl, g0, g1, g2, hsz⟩ := ent_is (ref3 A1 n1 c1 A2 n2 c2 A3 n3 c3) (act6 kind nm to b steps part) (ref3 none 0 0 none 0 0 none 0 0) w
  have a0 := cell_blk g0 0 (v := .slice A1 n1 c1) rfl
  have a1 := cell_blk g0 1 (v := .slice A2 n2 c2) rfl
  have a2 := cell_blk g0 2 (v := .slice A3 n3 c3) rfl
  have b0 := cell_blk g1 0 (v := .int .i64 kind) rfl
  have b1 := cell_blk g1 1 (v := .string (str nm)) rfl
  have b2 := cell_blk g1 2 (v := .string (str to)) rfl
  have b3 := cell_blk g1 3 (v := .string (str b)) rfl
  have b4 := cell_blk g1 4 (v := .int .i64 steps) rfl
  have b5 := cell_blk g1 5 (v := .int .i64 part) rfl
  have HF := Lib.hid (show ∀ i, F i → i < w.heap.size from fun i hi => (hd.lt i hi).2)
  have HFw := Lib.hid (show ∀ i, F i → i < (((w.alloc (ref3 A1 n1 c1 A2 n2 c2 A3 n3 c3)).alloc (act6 kind nm to b steps part)).alloc (ref3 none 0 0 none 0 0 none 0 0)).heap.size from fun i hi => by have := (hd.lt i hi).2; omega)
  have HB := Lib.hid (And.intro hbl (And.intro hsz (Nat.le_trans hB hbl.size)))
  have HD := Lib.hid (hd.below hbl)
  have HR := Lib.hid (hR.below hbl)
  have HL := Lib.hid (And.intro (hd.hist.le.2) hd.few)
  have HE := Lib.hid hE

  clear hd hB hR hE g0 g1 g2 hbl hsz
  obtain ⟨w0, hw0⟩ : ∃ w0, ((w.alloc (ref3 A1 n1 c1 A2 n2 c2 A3 n3 c3)).alloc (act6 kind nm to b steps part)).alloc (ref3 none 0 0 none 0 0 none 0 0) = w0 := ⟨_, rfl⟩
  have hmid : ∀ F' W, Turn F w0 F' W → _ := fun F' W h => mid0_is (w := w) (oD := ref3 A1 n1 c1 A2 n2 c2 A3 n3 c3) (oA := act6 kind nm to b steps part) (oR := ref3 none 0 0 none 0 0 none 0 0) (w1 := w0) (by rw [hw0]; exact Below.refl _ _) HF.out (F' := F') (W := W) h
  have HMID := Lib.hid hmid
  have HSS := Lib.hid (show ∀ F' W, Turn F w0 F' W → W.cell? ⟨w.heap.size, 0, none⟩ = some (.slice A1 n1 c1) ∧ W.cell? ⟨w.heap.size, 1, none⟩ = some (.slice A2 n2 c2) ∧ W.cell? ⟨w.heap.size, 2, none⟩ = some (.slice A3 n3 c3) from fun F' W h =>
    ⟨cell_blk (hmid F' W h).1 0 rfl, cell_blk (hmid F' W h).1 1 rfl, cell_blk (hmid F' W h).1 2 rfl⟩)
  have HDR := Lib.hid (show Disk w0 B p F su no st ∧ RefIs F w0 (DiskV A1 n1 c1 A2 n2 c2 A3 n3 c3) no su st ∧ B ≤ w0.heap.size from ⟨hw0 ▸ HD.out, hw0 ▸ HR.out, hw0 ▸ HB.out.2.2⟩)
  have hb0 : Below w0.heap.size w0 w0.drew := ⟨rfl, rfl, rfl, Nat.le_refl _, fun _ _ => rfl⟩
  have hT0 : Turn F w0 F w0.drew := Turn.of_below F hb0
  have HW0 := Lib.hid hw0
  have hne1 : w.heap.size ≠ w.heap.size + 1 + 1 := by omega
  clear hw0 hmid
  go_enter Tryd.func9, Tryd.ntmps9
  go_wp2_with fail
  rw [HW0.out]
  clear a0 a1 a2 b0 b1 b2 b3 b4 b5
  go_region_held3 (fun W => W.cell? ⟨w.heap.size, 0, none⟩ = some (.slice A1 n1 c1) ∧ W.cell? ⟨w.heap.size, 1, none⟩ = some (.slice A2 n2 c2) ∧ W.cell? ⟨w.heap.size, 2, none⟩ = some (.slice A3 n3 c3))
    (first
      | exact HSS.out _ _ (by assumption)
      | exact keep_3 (HSS.out _ _ hT2) hne1)
    (first
      | (go_at_call 25
         refine (syncRef_u (HDR.out.2.1.below hb0)).mono ?_
         rintro e w1 ⟨D', rfl, hbb, hR1⟩
         obtain ⟨B1, m1, d1, B2, m2, d2, B3, m3, d3, rfl⟩ := ref_form hR1
         have hb1 := hb0.trans (hbb.mono hb0.size)
         have hT1 := Turn.of_below F hb1
         have HR1 := Lib.hid hR1
         clear hR1 hbb)
      | (go_at_call 20
         refine (sync_ok _ (HDR.out.1.below hb1) (Nat.le_trans HDR.out.2.2 hb1.size)).mono ?_
         rintro e w2 ⟨rfl, F2, ht2, hd2⟩
         have hT2 := hT1.trans ht2
         have HX := Lib.hid (And.intro hd2 (HR1.out.turn ht2))
         have hm := HMID.out _ _ hT2
         have r0 := cell_blk hm.2.2.1 0 (v := .slice none 0 0) rfl
         have r1 := cell_blk hm.2.2.1 1 (v := .slice none 0 0) rfl
         have r2 := cell_blk hm.2.2.1 2 (v := .slice none 0 0) rfl
         have f0 := frz_blk hm.2.2.1 0
         have f1 := frz_blk hm.2.2.1 1
         have f2 := frz_blk hm.2.2.1 2
         have HM2 := Lib.hid hm
         clear hm hd2 ht2))
  all_goals
    clear r0 r1 r2 f0 f1 f2
    go_wp2_with fail
    (try simp only [Exit.inBlock, Exit.then])
    refine bodyPost_ret (results_cell2 rfl _ _ (w.heap.size + 1 + 1) _ #[.slice B1 m1 d1, .slice B2 m2 d2, .slice B3 m3 d3] (0, 0) _ rfl (set3 HM2.out.2.2.1) Tryd.underlying28 rfl (by kernel_rfl)) rfl ?_
    obtain ⟨e1, e2, e3⟩ := end_is HM2.out.2.2.2.1 HM2.out.2.2.1 HF.out HX.out.1 HX.out.2 rfl HM2.out.2.2.2.2
    exact ⟨_, F2, _, _, _, rfl, e1, e2, e3⟩
end Go.Proofs.YtljagggankmnkaaDoor

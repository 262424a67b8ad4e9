/- Layer 3's law package: try, a crash. -/
import Derived.Test.YtljagggankmnkaaDoorL3TryA
import Derived.StillTailTactics
import Derived.Deep.RegionHeld3
namespace Go.Proofs.YtljagggankmnkaaDoor
open Go.RowKit Go.Maps

set_option maxHeartbeats 4000000 in
set_option maxRecDepth 100000 in
theorem try_cy3 (kind : Int) (nm to b : Bs) (steps part : Int) (k q : Nat) (hks : (k : Int) = steps) (hqs : (q : Int) = part) {B p : Nat} {F : Nat → Prop} {su no : List (Bs × Bs)} {st : List (Stp Bs)} {D : Value} (w : World) (hd : Disk w B p F su no st) (hB : B ≤ w.heap.size) (hR : RefIs F w D no su st)
    (hE : ∀ F' W, Turn F w F' W → ErrT W) (hkl : k ≤ st.length) (hq : (q : Int) ≤ 9223372036854775807) (hk : kOf kind = 5) :
    Calls Tryd.prog 9 #[.pointer (some ⟨p, 0, none⟩), D, actV ⟨kind, nm, to, b, steps, part⟩] w (Tried3 B p F w) := by
  have ha : actV ⟨kind, nm, to, b, steps, part⟩ = .agg #[.int .i64 kind, .string (str nm), .string (str to), .string (str b), .int .i64 steps, .int .i64 part] := rfl
  rw [ha]
  clear ha
  have ht : (IntKind.u64.wrap kind).tmod 6 = 5 := by rw [Int.tmod_eq_emod_of_nonneg (u64_nonneg kind), kOf_eq, hk]; rfl
  clear hk
  obtain ⟨A1, n1, c1, A2, n2, c2, A3, n3, c3, rfl⟩ := ref_form hR
  obtain ⟨hbl, g0, g1, g2, hsz⟩ := ent_is (ref3 A1 n1 c1 A2 n2 c2 A3 n3 c3) (act6 kind nm to b steps part) (ref3 none 0 0 none 0 0 none 0 0) w
  have a0 := cell_blk g0 0 (v := .slice A1 n1 c1) rfl
  have a1 := cell_blk g0 1 (v := .slice A2 n2 c2) rfl
  have a2 := cell_blk g0 2 (v := .slice A3 n3 c3) rfl
  have b0 := cell_blk g1 0 (v := .int .i64 kind) rfl
  have b1 := cell_blk g1 1 (v := .string (str nm)) rfl
  have b2 := cell_blk g1 2 (v := .string (str to)) rfl
  have b3 := cell_blk g1 3 (v := .string (str b)) rfl
  have b4 := cell_blk g1 4 (v := .int .i64 steps) rfl
  have b5 := cell_blk g1 5 (v := .int .i64 part) rfl
  have HF := Lib.hid (show ∀ i, F i → i < w.heap.size from fun i hi => (hd.lt i hi).2)
  have HFw := Lib.hid (show ∀ i, F i → i < (((w.alloc (ref3 A1 n1 c1 A2 n2 c2 A3 n3 c3)).alloc (act6 kind nm to b steps part)).alloc (ref3 none 0 0 none 0 0 none 0 0)).heap.size from fun i hi => by have := (hd.lt i hi).2; omega)
  have HB := Lib.hid (And.intro hbl (And.intro hsz (Nat.le_trans hB hbl.size)))
  have HD := Lib.hid (hd.below hbl)
  have HR := Lib.hid (hR.below hbl)
  have HL := Lib.hid (And.intro (hd.hist.le.2) hd.few)
  have HE := Lib.hid hE
  have HS := Lib.hid (And.intro hkl (And.intro hq hd.hist))
  have HK := Lib.hid (And.intro hks hqs)
  clear hkl hq hks hqs
  clear hd hB hR hE g0 g1 g2 hbl hsz
  go_enter Tryd.func9, Tryd.ntmps9
  go_wp2_with fail
  refine (crashRef_yes' steps part k q HK.out.1 HK.out.2 HR.out HFw.out HS.out.2.2 HS.out.1 HL.out.2 HS.out.2.1).mono ?_
  rintro e w1 ⟨D', rfl, hb1, hR1⟩
  obtain ⟨B1, m1, d1, B2, m2, d2, B3, m3, d3, rfl⟩ := ref_form hR1
  obtain ⟨wy, hwy⟩ : ∃ wy, w1.alloc (ref3 B1 m1 d1 B2 m2 d2 B3 m3 d3) = wy := ⟨_, rfl⟩
  have hy1 : Below w1.heap.size w1 wy := by rw [← hwy]; exact (Below.refl _ _).alloc (Nat.le_refl _) _
  have hR2 := hR1.below hy1
  have hd2 := (HD.out.below hb1).below hy1
  have hB2 : B ≤ wy.heap.size := Nat.le_trans HB.out.2.2 (Nat.le_trans hb1.size hy1.size)
  have hmid : ∀ F' W, Turn F wy F' W → _ := fun F' W h => mid_is hb1 HF.out (F' := F') (W := W) (oy := ref3 B1 m1 d1 B2 m2 d2 B3 m3 d3) (by rw [hwy]; exact h)
  have HMID := Lib.hid hmid
  have HSS := Lib.hid (show ∀ F' W, Turn F wy F' W → W.cell? ⟨w1.heap.size, 0, none⟩ = some (.slice B1 m1 d1) ∧ W.cell? ⟨w1.heap.size, 1, none⟩ = some (.slice B2 m2 d2) ∧ W.cell? ⟨w1.heap.size, 2, none⟩ = some (.slice B3 m3 d3) ∧ W.cell? ⟨w.heap.size + 1, 4, none⟩ = some (.int .i64 steps) ∧ W.cell? ⟨w.heap.size + 1, 5, none⟩ = some (.int .i64 part) from fun F' W h =>
    ⟨cell_blk (hmid F' W h).2.2.1 0 rfl, cell_blk (hmid F' W h).2.2.1 1 rfl, cell_blk (hmid F' W h).2.2.1 2 rfl, cell_blk (hmid F' W h).1 4 rfl, cell_blk (hmid F' W h).1 5 rfl⟩)
  have HCALL := Lib.hid (show ∀ W, Turn F wy F W → Below wy.heap.size wy W → Calls Tryd.prog 22 #[.pointer (some ⟨p, 0, none⟩), .int .i64 steps, .int .i64 part] W (fun e w' => e = .returned (errV 0) ∧ ∃ F', Turn F wy F' w' ∧ Disk w' B p F' (crashF su st k q) (crashF su st k q) [] ∧ RefIs F' w' (DiskV B1 m1 d1 B2 m2 d2 B3 m3 d3) (crashF su st k q) (crashF su st k q) []) from fun W h hb =>
    (HK.out.1 ▸ HK.out.2 ▸ crash_ok k q W (hd2.below hb) (Nat.le_trans hB2 hb.size) HS.out.1).mono (by
      rintro e w' ⟨rfl, F', ht', hd'⟩
      exact ⟨rfl, F', h.trans ht', hd', (hR2.below hb).turn ht'⟩))
  have HNUM := Lib.hid (show ∀ F' W, Turn F wy F' W → Calls Tryd.prog 15 #[(errV 0)] W (fun e w' => e = .returned (.int .i64 0) ∧ Below W.heap.size W w') from fun F' W h => num_errV 0 W (HE.out F' W (hmid F' W h).2.2.2.1))
  have hb0 : Below wy.heap.size wy wy.drew := ⟨rfl, rfl, rfl, Nat.le_refl _, fun _ _ => rfl⟩
  have hT0 : Turn F wy F wy.drew := Turn.of_below F hb0
  have HWY := Lib.hid hwy
  have hne1 : w1.heap.size ≠ w.heap.size + 1 + 1 := by have := hb1.size; have := HB.out.2.1; omega
  have hne2 : w.heap.size + 1 ≠ w.heap.size + 1 + 1 := by omega
  clear hb1 hR1 a0 a1 a2 b0 b1 b2 b3 b4 b5 hwy hy1 hR2 hd2 hB2 hmid
  go_wp2_with fail
  rw [HWY.out]
  go_region_held3 (fun W => W.cell? ⟨w1.heap.size, 0, none⟩ = some (.slice B1 m1 d1) ∧ W.cell? ⟨w1.heap.size, 1, none⟩ = some (.slice B2 m2 d2) ∧ W.cell? ⟨w1.heap.size, 2, none⟩ = some (.slice B3 m3 d3) ∧ W.cell? ⟨w.heap.size + 1, 4, none⟩ = some (.int .i64 steps) ∧ W.cell? ⟨w.heap.size + 1, 5, none⟩ = some (.int .i64 part))
    (first
      | exact HSS.out _ _ (by assumption)
      | exact keep5 (HSS.out _ _ hT2) hne1 hne2)
    (first
      | (go_at_call 22
         refine (HCALL.out _ hT0 hb0).mono ?_
         rintro e wR ⟨rfl, F2, hT1, hd2, hR2⟩
         have HX := Lib.hid (And.intro hd2 hR2)
         clear hd2 hR2)
      | (go_at_call 15
         refine (HNUM.out _ _ hT1).mono ?_
         rintro e wN ⟨rfl, hbN⟩
         have hT2 := hT1.trans (Turn.of_below _ hbN)
         have HY := Lib.hid (And.intro (HX.out.1.below hbN) (HX.out.2.below hbN))
         have hm := HMID.out _ _ hT2
         have r0 := cell_blk hm.2.1 0 (v := .slice none 0 0) rfl
         have r1 := cell_blk hm.2.1 1 (v := .slice none 0 0) rfl
         have r2 := cell_blk hm.2.1 2 (v := .slice none 0 0) rfl
         have f0 := frz_blk hm.2.1 0
         have f1 := frz_blk hm.2.1 1
         have f2 := frz_blk hm.2.1 2
         have HM2 := Lib.hid hm
         clear hm hbN))
  all_goals
    clear r0 r1 r2 f0 f1 f2
    go_wp2_with fail
    (try simp only [Exit.inBlock, Exit.then])
    refine bodyPost_ret (results_cell2 rfl _ _ (w.heap.size + 1 + 1) _ #[.slice B1 m1 d1, .slice B2 m2 d2, .slice B3 m3 d3] (0, 0) _ rfl (set3 HM2.out.2.1) Tryd.underlying28 rfl (by kernel_rfl)) rfl ?_
    obtain ⟨e1, e2, e3⟩ := end_is HM2.out.2.2.2.1 HM2.out.2.1 HF.out HY.out.1 HY.out.2 rfl HM2.out.2.2.2.2
    exact ⟨_, F2, _, _, _, rfl, e1, e2, e3⟩
end Go.Proofs.YtljagggankmnkaaDoor

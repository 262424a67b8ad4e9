/- PeriodNexts' walk: the program's Next and the document's. -/
import Derived.Test.YtlogapkpllgdcaaGreatDoorRf7N
import Derived.Test.YtlogapkpllgdcaaGreatDoorL7Num
import Derived.Test.YtlogapkpllgdcaaGreatDoorPdSure
import Derived.Test.YtlogapkpllgdcaaGreatDoorPdGvH
import Derived.Deep.RegionHeld3
namespace Go.Proofs.YtlogapkpllgdcaaGreatDoor
open Go.RowKit

/-- What Next says: nothing where it has an error, else the first time that is in. -/
def NxA (l : List Prd) (i t o b x : Int) (f : Bool) : Prop := (errX l i t o b ≠ 0 ∧ x = 0 ∧ f = false) ∨ (errX l i t o b = 0 ∧ NextAns (inT l i o) t (t + lim t b) f x)
theorem NxA.one {l : List Prd} {i t o b x x' : Int} {f f' : Bool} (h : NxA l i t o b x f) (h' : NxA l i t o b x' f') : f = f' ∧ x = x' := by
  rcases h with ⟨h1, h2, h3⟩ | ⟨h1, h2⟩ <;> rcases h' with ⟨g1, g2, g3⟩ | ⟨g1, g2⟩
  · exact ⟨h3.trans g3.symm, h2.trans g2.symm⟩
  · exact absurd g1 h1
  · exact absurd h1 g1
  · exact h2.one g2
theorem nxA_any (l : List Prd) (v : Value) (i t o b : Int) (w : World) (ht : Tab w) (hz : Tz w) (hset : HPd w v l) :
    Calls Tryz.prog 14 #[v, .int .i64 i, .int .i64 t, .int .i64 o, .int .i64 b] w fun e w' => ∃ x f, e = .returned (.tuple #[.int .i64 x, .bool f, errE (errX l i t o b)]) ∧ NxA l i t o b x f ∧ Below w.heap.size w w' := by
  by_cases h : errX l i t o b = 0
  · obtain ⟨hI, _⟩ := errX_zero h
    obtain ⟨h7, _⟩ := errI_zero hI
    obtain ⟨_, h1, h2⟩ := err7_zero h7
    obtain ⟨q, rfl⟩ : ∃ q : Nat, i = q := ⟨i.toNat, by omega⟩
    refine (nxt_ok l v q t o b w ht hz hset h).mono fun e w' ⟨x, f, he, ha, hb⟩ => ⟨x, f, ?_, .inr ⟨h, ha⟩, hb⟩
    rw [he, h, errE_zero]
  · exact (nxt_no l v i t o b w ht hset h).mono fun e w' ⟨he, hb⟩ => ⟨0, false, he, .inl ⟨h, rfl, rfl⟩, hb⟩
theorem refNxA_any (l : List Prd) (v : Value) (i t o b : Int) (w : World) (hset : HPd w v l) :
    Calls Tryz.prog 15 #[v, .int .i64 i, .int .i64 t, .int .i64 o, .int .i64 b] w fun e w' => ∃ x f, e = .returned (.tuple #[.int .i64 x, .bool f, .int .i64 (errX l i t o b)]) ∧ NxA l i t o b x f ∧ Below w.heap.size w w' := by
  by_cases h : errX l i t o b = 0
  · obtain ⟨hI, _⟩ := errX_zero h
    obtain ⟨h7, _⟩ := errI_zero hI
    obtain ⟨_, h1, h2⟩ := err7_zero h7
    obtain ⟨q, rfl⟩ : ∃ q : Nat, i = q := ⟨i.toNat, by omega⟩
    refine (refNxt_ok l v q t o b w hset h).mono fun e w' ⟨x, f, he, ha, hb⟩ => ⟨x, f, ?_, .inr ⟨h, ha⟩, hb⟩
    rw [he, h]
  · exact (refNxt_no l v i t o b w hset h).mono fun e w' ⟨he, hb⟩ => ⟨0, false, he, .inl ⟨h, rfl, rfl⟩, hb⟩
set_option maxRecDepth 100000 in
set_option maxHeartbeats 1000000 in
theorem nexts_walk (l : List Prd) (v : Value) (i t o b : Int) (w : World) (ht : Tab w) (hz : Tz w) (hE : ErrT w) (hset : HPd w v l) (_ : -9223372036854775808 ≤ i ∧ i ≤ 9223372036854775807) (_ : -9223372036854775808 ≤ t ∧ t ≤ 9223372036854775807)
    (_ : -9223372036854775808 ≤ o ∧ o ≤ 9223372036854775807) (_ : -9223372036854775808 ≤ b ∧ b ≤ 9223372036854775807) :
    Calls Tryz.prog 4 #[v, .int .i64 i, .agg #[.int .i64 t, .int .i64 o, .int .i64 b]] w fun e w' => e = .returned (.bool true) ∧ Below w.heap.size w w' := by
  have hal : Below w.heap.size w (w.alloc (.cells #[.int .i64 t, .int .i64 o, .int .i64 b] 38)) := (Below.refl w.heap.size w).alloc (Nat.le_refl _) _
  have G0 := Lib.hid (heap_alloc_new w (.cells #[.int .i64 t, .int .i64 o, .int .i64 b] 38))
  have HW0 := Lib.hid hal
  obtain ⟨w0, hw0⟩ : ∃ w0, w.alloc (.cells #[.int .i64 t, .int .i64 o, .int .i64 b] 38) = w0 := ⟨_, rfl⟩
  have HS := Lib.hid (fun W (hW : Below w.heap.size w W) => sure_any W (ht.below hW) (hz.below hW))
  have HH := Lib.hid (huge_any l v _ (hset.below hal))
  rw [hw0] at HH G0 HW0
  have HE0 := Lib.hid hw0
  clear hw0 hal
  by_cases hbig : hugeB l = true
  · rw [hbig] at HH
    obtain ⟨A, c, E, U, rfl, _, _, _⟩ := hset
    go_enter Tryz.func4, Tryz.ntmps4
    go_wp2_with fail
    rw [HE0.out]
    refine HH.out.mono ?_
    rintro e w1 ⟨rfl, rfl⟩
    go_wp2_with fail
    refine (HS.out _ HW0.out).mono ?_
    rintro e w2 ⟨rfl, hb⟩
    have HB := Lib.hid (HW0.out.trans (hb.mono HW0.out.size))
    clear hb
    go_wp2_with fail
    go_ret
    exact ⟨rfl, HB.out⟩
  have hsm : hugeB l = false := by simpa using hbig
  rw [hsm] at HH
  obtain ⟨hl, hb⟩ := not_huge hsm
  have HGV := Lib.hid (fun W (hW : Below w.heap.size w W) => give_any l v W (hset.below hW) hl hb)
  have HI := Lib.hid (fun u W (hW : Below w.heap.size w W) (hs : HPd W u l) => nxA_any l u i t o b W (ht.below hW) (hz.below hW) hs)
  have HR := Lib.hid (fun W (hW : Below w.heap.size w W) => refNxA_any l v i t o b W (hset.below hW))
  have HN1 := Lib.hid (fun W (hW : Below w.heap.size w W) => num_E (errX l i t o b) W (hE.below hW))
  obtain ⟨A, c, E, U, rfl, _, _, _⟩ := hset
  have HONE := Lib.hid (fun x x' f f' (h : NxA l i t o b x f) (h' : NxA l i t o b x' f') => h.one h')
  generalize errE (errX l i t o b) = e1 at *
  generalize errX l i t o b = k1 at *
  generalize NxA l i t o b = NX at *
  obtain ⟨n, hn⟩ : ∃ n, l.length = n := ⟨_, rfl⟩
  rw [hn] at HH HGV HR ⊢
  have HN9 := Lib.hid hn
  clear hbig hsm hb hl ht hz hn hE
  have HSS := Lib.hid (fun W (hW : Below w0.heap.size w0 W) => show W.cell? ⟨w.heap.size, 0, none⟩ = some (.int .i64 t) ∧ W.cell? ⟨w.heap.size, 1, none⟩ = some (.int .i64 o) ∧ W.cell? ⟨w.heap.size, 2, none⟩ = some (.int .i64 b) from
    ⟨cell_blk ((hW.block _ (Array.getElem?_eq_some_iff.1 G0.out).1).trans G0.out) 0 rfl, cell_blk ((hW.block _ (Array.getElem?_eq_some_iff.1 G0.out).1).trans G0.out) 1 rfl, cell_blk ((hW.block _ (Array.getElem?_eq_some_iff.1 G0.out).1).trans G0.out) 2 rfl⟩)
  go_enter Tryz.func4, Tryz.ntmps4
  go_wp2_with fail
  rw [HE0.out]
  refine HH.out.mono ?_
  rintro e w1 ⟨rfl, rfl⟩
  have hb0 := (Below.refl w0.heap.size w0).drew
  go_wp2_with fail
  go_region_held3 (fun W => W.cell? ⟨w.heap.size, 0, none⟩ = some (.int .i64 t) ∧ W.cell? ⟨w.heap.size, 1, none⟩ = some (.int .i64 o) ∧ W.cell? ⟨w.heap.size, 2, none⟩ = some (.int .i64 b))
    (first
      | exact HSS.out _ hb0
      | exact HSS.out _ hbA
      | exact HSS.out _ hbB
      | exact HSS.out _ (by assumption))
    (first
      | (go_at_call 9
         refine (HGV.out _ (HW0.out.trans (hb0.mono HW0.out.size))).mono ?_
         rintro e w2 ⟨u, rfl, hset2, hb2⟩
         have hbA : Below w0.heap.size w0 w2 := hb0.trans (hb2.mono hb0.size)
         have HSET := Lib.hid hset2
         clear hset2 hb2)
      | (go_at_call 14
         refine (HI.out u _ (HW0.out.trans (hbA.mono HW0.out.size)) HSET.out).mono ?_
         rintro e w3 ⟨x, f, rfl, hx, hb3⟩
         have HNX := Lib.hid hx
         have hbB : Below w0.heap.size w0 w3 := hbA.trans (hb3.mono hbA.size)
         clear hb3 hx))
  obtain ⟨z0, z1, z2⟩ := HSS.out _ hbB
  have HB3 := Lib.hid hbB
  have HBW := Lib.hid (HW0.out.trans (hbB.mono HW0.out.size))
  clear hb0 hbA hbB
  go_wp2_with fail
  refine (HR.out _ HBW.out).mono ?_
  rintro e w4 ⟨x', f', rfl, hx', hb4⟩
  have HB4 := Lib.hid (HBW.out.trans (hb4.mono HBW.out.size))
  obtain ⟨rfl, rfl⟩ := HONE.out _ _ _ _ HNX.out hx'
  clear hb4 z0 z1 z2 hx'
  go_wp2_with fail
  refine (HN1.out _ HB4.out).mono ?_
  rintro e w9 ⟨rfl, hb9⟩
  have HB9 := Lib.hid (HB4.out.trans (hb9.mono HB4.out.size))
  clear hb9
  go_wp2_with fail
  refine (HS.out _ HB9.out).mono ?_
  rintro e w10 ⟨rfl, hb10⟩
  have HB10 := Lib.hid (HB9.out.trans (hb10.mono HB9.out.size))
  clear hb10
  go_wp2_with fail
  go_ret
  exact ⟨rfl, HB10.out⟩
end Go.Proofs.YtlogapkpllgdcaaGreatDoor

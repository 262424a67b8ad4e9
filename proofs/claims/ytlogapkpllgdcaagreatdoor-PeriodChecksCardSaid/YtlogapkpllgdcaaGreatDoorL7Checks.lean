/- PeriodChecks' walk: the program's Check and In, and the document's. -/
import Derived.Test.YtlogapkpllgdcaaGreatDoorRf7I
import Derived.Test.YtlogapkpllgdcaaGreatDoorL7Num
import Derived.Test.YtlogapkpllgdcaaGreatDoorPdSure
import Derived.Test.YtlogapkpllgdcaaGreatDoorPdGvH
import Derived.Deep.RegionHeld3
namespace Go.Proofs.YtlogapkpllgdcaaGreatDoor
open Go.RowKit

open Classical in
/-- What In says: is the time in, where it has no error. -/
noncomputable def inA (l : List Prd) (i t o : Int) : Bool := if errI l i t o = 0 then inT l i o t else false
theorem inA_any (l : List Prd) (v : Value) (i t o : Int) (w : World) (ht : Tab w) (hset : HPd w v l) :
    Calls Tryz.prog 8 #[v, .int .i64 i, .int .i64 t, .int .i64 o] w fun e w' => e = .returned (.tuple #[.bool (inA l i t o), errE (errI l i t o)]) ∧ Below w.heap.size w w' := by
  by_cases h : errI l i t o = 0
  · refine (in_ok l v i t o w ht hset h).mono fun e w' ⟨he, hb⟩ => ⟨?_, hb⟩
    rw [he, h, errE_zero]
    unfold inA
    rw [if_pos h]
  · refine (in_no l v i t o w ht hset h).mono fun e w' ⟨he, hb⟩ => ⟨?_, hb⟩
    rw [he]
    unfold inA
    rw [if_neg h]
theorem refInA_any (l : List Prd) (v : Value) (i t o : Int) (w : World) (hset : HPd w v l) :
    Calls Tryz.prog 10 #[v, .int .i64 i, .int .i64 t, .int .i64 o] w fun e w' => e = .returned (.tuple #[.bool (inA l i t o), .int .i64 (errI l i t o)]) ∧ Below w.heap.size w w' := by
  by_cases h : errI l i t o = 0
  · obtain ⟨h7, _⟩ := errI_zero h
    obtain ⟨_, h1, h2⟩ := err7_zero h7
    obtain ⟨q, rfl⟩ : ∃ q : Nat, i = q := ⟨i.toNat, by omega⟩
    obtain ⟨d, hd⟩ : ∃ d, (t + o) / 86400 = d := ⟨_, rfl⟩
    obtain ⟨s, hs⟩ : ∃ s : Nat, (t + o) % 86400 = s := ⟨((t + o) % 86400).toNat, by omega⟩
    refine (refIn_ok l v q t o d s w hset h hd hs).mono fun e w' ⟨he, hb⟩ => ⟨?_, hb⟩
    rw [he, h]
    unfold inA
    rw [if_pos h]
    unfold inT secF
    rw [hd, hs]
    rfl
  · refine (refIn_no l v i t o w hset h).mono fun e w' ⟨he, hb⟩ => ⟨?_, hb⟩
    rw [he]
    unfold inA
    rw [if_neg h]
set_option maxRecDepth 100000 in
set_option maxHeartbeats 1000000 in
theorem checks_walk (l : List Prd) (v : Value) (i t o : Int) (w : World) (ht : Tab w) (hz : Tz w) (hE : ErrT w) (hset : HPd w v l) (_ : -9223372036854775808 ≤ i ∧ i ≤ 9223372036854775807) (_ : -9223372036854775808 ≤ t ∧ t ≤ 9223372036854775807)
    (_ : -9223372036854775808 ≤ o ∧ o ≤ 9223372036854775807) :
    Calls Tryz.prog 3 #[v, .int .i64 i, .agg #[.int .i64 t, .int .i64 o]] w fun e w' => e = .returned (.bool true) ∧ Below w.heap.size w w' := by
  have hal : Below w.heap.size w (w.alloc (.cells #[.int .i64 t, .int .i64 o] 23)) := (Below.refl w.heap.size w).alloc (Nat.le_refl _) _
  have G0 := Lib.hid (heap_alloc_new w (.cells #[.int .i64 t, .int .i64 o] 23))
  have HW0 := Lib.hid hal
  obtain ⟨w0, hw0⟩ : ∃ w0, w.alloc (.cells #[.int .i64 t, .int .i64 o] 23) = w0 := ⟨_, rfl⟩
  have HS := Lib.hid (fun W (hW : Below w.heap.size w W) => sure_any W (ht.below hW) (hz.below hW))
  have HH := Lib.hid (huge_any l v _ (hset.below hal))
  rw [hw0] at HH G0 HW0
  have HE0 := Lib.hid hw0
  clear hw0 hal
  by_cases hbig : hugeB l = true
  · rw [hbig] at HH
    obtain ⟨A, c, E, U, rfl, _, _, _⟩ := hset
    go_enter Tryz.func3, Tryz.ntmps3
    go_wp2_with fail
    rw [HE0.out]
    refine HH.out.mono ?_
    rintro e w1 ⟨rfl, rfl⟩
    go_wp2_with fail
    refine (HS.out _ HW0.out).mono ?_
    rintro e w2 ⟨rfl, hb⟩
    have HB := Lib.hid (HW0.out.trans (hb.mono HW0.out.size))
    clear hb
    go_wp2_with fail
    go_ret
    exact ⟨rfl, HB.out⟩
  have hsm : hugeB l = false := by simpa using hbig
  rw [hsm] at HH
  obtain ⟨hl, hb⟩ := not_huge hsm
  have HGV := Lib.hid (fun W (hW : Below w.heap.size w W) => give_any l v W (hset.below hW) hl hb)
  have HI := Lib.hid (fun u W (hW : Below w.heap.size w W) (hs : HPd W u l) => inA_any l u i t o W (ht.below hW) hs)
  have HR := Lib.hid (fun W (hW : Below w.heap.size w W) => refInA_any l v i t o W (hset.below hW))
  have HC := Lib.hid (fun u W (hW : Below w.heap.size w W) (hs : HPd W u l) => chk_any l u W (ht.below hW) hs)
  have HD := Lib.hid (fun W (hW : Below w.heap.size w W) => refChk_any l v W (hset.below hW))
  have HN1 := Lib.hid (fun W (hW : Below w.heap.size w W) => num_E (errI l i t o) W (hE.below hW))
  have HN2 := Lib.hid (fun W (hW : Below w.heap.size w W) => num_E (chk l) W (hE.below hW))
  obtain ⟨A, c, E, U, rfl, _, _, _⟩ := hset
  generalize errE (errI l i t o) = e1 at *
  generalize errE (chk l) = e2 at *
  generalize errI l i t o = k1 at *
  generalize chk l = k2 at *
  generalize inA l i t o = B at *
  obtain ⟨n, hn⟩ : ∃ n, l.length = n := ⟨_, rfl⟩
  rw [hn] at HH HGV HR HD ⊢
  have HN9 := Lib.hid hn
  clear hbig hsm hb hl ht hz hn hE
  have HSS := Lib.hid (fun W (hW : Below w0.heap.size w0 W) => show W.cell? ⟨w.heap.size, 0, none⟩ = some (.int .i64 t) ∧ W.cell? ⟨w.heap.size, 1, none⟩ = some (.int .i64 o) from
    ⟨cell_blk ((hW.block _ (Array.getElem?_eq_some_iff.1 G0.out).1).trans G0.out) 0 rfl, cell_blk ((hW.block _ (Array.getElem?_eq_some_iff.1 G0.out).1).trans G0.out) 1 rfl⟩)
  go_enter Tryz.func3, Tryz.ntmps3
  go_wp2_with fail
  rw [HE0.out]
  refine HH.out.mono ?_
  rintro e w1 ⟨rfl, rfl⟩
  have hb0 := (Below.refl w0.heap.size w0).drew
  go_wp2_with fail
  go_region_held3 (fun W => W.cell? ⟨w.heap.size, 0, none⟩ = some (.int .i64 t) ∧ W.cell? ⟨w.heap.size, 1, none⟩ = some (.int .i64 o))
    (first
      | exact HSS.out _ hb0
      | exact HSS.out _ hbA
      | exact HSS.out _ hbB
      | exact HSS.out _ (by assumption))
    (first
      | (go_at_call 9
         refine (HGV.out _ (HW0.out.trans (hb0.mono HW0.out.size))).mono ?_
         rintro e w2 ⟨u, rfl, hset2, hb2⟩
         have hbA : Below w0.heap.size w0 w2 := hb0.trans (hb2.mono hb0.size)
         have HSET := Lib.hid hset2
         clear hset2 hb2)
      | (go_at_call 8
         refine (HI.out u _ (HW0.out.trans (hbA.mono HW0.out.size)) HSET.out).mono ?_
         rintro e w3 ⟨rfl, hb3⟩
         have hbB : Below w0.heap.size w0 w3 := hbA.trans (hb3.mono hbA.size)
         clear hb3))
  obtain ⟨z0, z1⟩ := HSS.out _ hbB
  have HB3 := Lib.hid hbB
  have HBW := Lib.hid (HW0.out.trans (hbB.mono HW0.out.size))
  clear hb0 hbA hbB
  go_wp2_with fail
  refine (HR.out _ HBW.out).mono ?_
  rintro e w4 ⟨rfl, hb4⟩
  have HB4 := Lib.hid (HBW.out.trans (hb4.mono HBW.out.size))
  clear hb4 z0 z1
  go_wp2_with fail
  refine (HGV.out _ HB4.out).mono ?_
  rintro e w5 ⟨u2, rfl, hset5, hb5⟩
  have HB5 := Lib.hid (HB4.out.trans (hb5.mono HB4.out.size))
  have HS5 := Lib.hid hset5
  clear hb5 hset5
  go_wp2_with fail
  refine (HC.out u2 _ HB5.out HS5.out).mono ?_
  rintro e w6 ⟨rfl, hb6⟩
  have HB6 := Lib.hid (HB5.out.trans (hb6.mono HB5.out.size))
  clear hb6
  go_wp2_with fail
  refine (HN2.out _ HB6.out).mono ?_
  rintro e w7 ⟨rfl, hb7⟩
  have HB7 := Lib.hid (HB6.out.trans (hb7.mono HB6.out.size))
  clear hb7
  go_wp2_with fail
  refine (HD.out _ HB7.out).mono ?_
  rintro e w8 ⟨rfl, hb8⟩
  have HB8 := Lib.hid (HB7.out.trans (hb8.mono HB7.out.size))
  clear hb8
  go_wp2_with fail
  refine (HN1.out _ HB8.out).mono ?_
  rintro e w9 ⟨rfl, hb9⟩
  have HB9 := Lib.hid (HB8.out.trans (hb9.mono HB8.out.size))
  clear hb9
  go_wp2_with fail
  refine (HS.out _ HB9.out).mono ?_
  rintro e w10 ⟨rfl, hb10⟩
  have HB10 := Lib.hid (HB9.out.trans (hb10.mono HB9.out.size))
  clear hb10
  go_wp2_with fail
  go_ret
  exact ⟨rfl, HB10.out⟩
end Go.Proofs.YtlogapkpllgdcaaGreatDoor

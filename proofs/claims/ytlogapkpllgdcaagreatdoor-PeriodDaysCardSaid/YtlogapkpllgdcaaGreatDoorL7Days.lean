/- PeriodDays' walk: the program's Day and the document's. -/
import Derived.Test.YtlogapkpllgdcaaGreatDoorRf7D
import Derived.Test.YtlogapkpllgdcaaGreatDoorL7Num
import Derived.Test.YtlogapkpllgdcaaGreatDoorPdSure
import Derived.Test.YtlogapkpllgdcaaGreatDoorPdGvH
namespace Go.Proofs.YtlogapkpllgdcaaGreatDoor
open Go.RowKit

/-- What Day says: none where it has an error, else the day's seconds as spans. -/
def DyA (l : List Prd) (i day : Int) (o : List Spn) : Prop := (errD l i day ≠ 0 ∧ o = []) ∨ (errD l i day = 0 ∧ Can (-1) o ∧ ∀ j, j < 86400 → secF l day i.toNat j = o.any fun s => inS s j)
theorem DyA.one {l : List Prd} {i day : Int} {o o' : List Spn} (h : DyA l i day o) (h' : DyA l i day o') : o = o' := by
  rcases h with ⟨h1, h2⟩ | ⟨h1, h2, h3⟩ <;> rcases h' with ⟨g1, g2⟩ | ⟨g1, g2, g3⟩
  · exact h2.trans g2.symm
  · exact absurd g1 h1
  · exact absurd h1 g1
  · exact h2.day g2 fun j hj => (h3 j hj).symm.trans (g3 j hj)
theorem DyA.can {l : List Prd} {i day : Int} {o : List Spn} (h : DyA l i day o) : Can (-1) o := by
  rcases h with ⟨_, h2⟩ | ⟨_, h2, _⟩
  · rw [h2]; exact trivial
  · exact h2
theorem hsp_nil (w : World) : HSp w (.slice none 0 0) [] := ⟨none, 0, rfl, Nat.le_refl _, Nat.zero_le _, fun k hk => by cases hk⟩
theorem dyA_any (l : List Prd) (v : Value) (i day : Int) (w : World) (ht : Tab w) (hz : Tz w) (hset : HPd w v l) :
    Calls Tryz.prog 16 #[v, .int .i64 i, .int .i64 day] w fun e w' => ∃ u o, e = .returned (.tuple #[u, errE (errD l i day)]) ∧ HSp w' u o ∧ DyA l i day o ∧ Below w.heap.size w w' := by
  by_cases h : errD l i day = 0
  · obtain ⟨h7, _⟩ := errD_zero h
    obtain ⟨_, h1, h2⟩ := err7_zero h7
    obtain ⟨q, rfl⟩ : ∃ q : Nat, i = q := ⟨i.toNat, by omega⟩
    refine (day_ok l v q day w ht hz hset h).mono fun e w' ⟨u, o, he, hs, hc, hm, hb⟩ => ⟨u, o, ?_, hs, .inr ⟨h, hc, hm⟩, hb⟩
    rw [he, h, errE_zero]
  · exact (day_no l v i day w ht hset h).mono fun e w' ⟨he, hb⟩ => ⟨_, [], he, hsp_nil w', .inl ⟨h, rfl⟩, hb⟩
theorem refDyA_any (l : List Prd) (v : Value) (i day : Int) (w : World) (hset : HPd w v l) :
    Calls Tryz.prog 17 #[v, .int .i64 i, .int .i64 day] w fun e w' => ∃ u o, e = .returned (.tuple #[u, .int .i64 (errD l i day)]) ∧ HSp w' u o ∧ DyA l i day o ∧ Below w.heap.size w w' := by
  by_cases h : errD l i day = 0
  · obtain ⟨h7, _⟩ := errD_zero h
    obtain ⟨_, h1, h2⟩ := err7_zero h7
    obtain ⟨q, rfl⟩ : ∃ q : Nat, i = q := ⟨i.toNat, by omega⟩
    refine (refDay_ok l v q day w hset h).mono fun e w' ⟨u, o, he, hs, hc, hm, hb⟩ => ⟨u, o, ?_, hs, .inr ⟨h, hc, hm⟩, hb⟩
    rw [he, h]
  · exact (refDay_no l v i day w hset h).mono fun e w' ⟨he, hb⟩ => ⟨_, [], he, hsp_nil w', .inl ⟨h, rfl⟩, hb⟩
/-- A list of a day's spans is not long. -/
theorem Can.len {lo : Int} {o : List Spn} (h : Can lo o) (hlo : lo ≤ 86400) : (o.length : Int) ≤ 86400 - lo := by
  induction o generalizing lo with
  | nil => show (0 : Int) ≤ _; omega
  | cons a o ih =>
    obtain ⟨h1, h2, h3, h4⟩ := h
    have := ih h4 h3
    rw [List.length_cons]
    omega
set_option maxRecDepth 100000 in
set_option maxHeartbeats 1000000 in
theorem days_walk (l : List Prd) (v : Value) (i day : Int) (w : World) (ht : Tab w) (hz : Tz w) (hE : ErrT w) (hset : HPd w v l) (_ : -9223372036854775808 ≤ i ∧ i ≤ 9223372036854775807) (_ : -9223372036854775808 ≤ day ∧ day ≤ 9223372036854775807) :
    Calls Tryz.prog 5 #[v, .int .i64 i, .int .i64 day] w fun e w' => e = .returned (.bool true) ∧ Below w.heap.size w w' := by
  have HS := Lib.hid (fun W (hW : Below w.heap.size w W) => sure_any W (ht.below hW) (hz.below hW))
  have HH := Lib.hid (huge_any l v w hset)
  by_cases hbig : hugeB l = true
  · rw [hbig] at HH
    obtain ⟨A, c, E, U, rfl, _, _, _⟩ := hset
    go_enter Tryz.func5, Tryz.ntmps5
    go_wp2_with fail
    refine HH.out.mono ?_
    rintro e w1 ⟨rfl, rfl⟩
    go_wp2_with fail
    refine (HS.out _ (Below.refl _ _)).mono ?_
    rintro e w2 ⟨rfl, hb⟩
    have HB := Lib.hid hb
    clear hb
    go_wp2_with fail
    go_ret
    exact ⟨rfl, HB.out⟩
  have hsm : hugeB l = false := by simpa using hbig
  rw [hsm] at HH
  obtain ⟨hl, hb⟩ := not_huge hsm
  have HGV := Lib.hid (give_any l v w hset hl hb)
  have HI := Lib.hid (fun u W (hW : Below w.heap.size w W) (hs : HPd W u l) => dyA_any l u i day W (ht.below hW) (hz.below hW) hs)
  have HR := Lib.hid (fun W (hW : Below w.heap.size w W) => refDyA_any l v i day W (hset.below hW))
  have HN1 := Lib.hid (fun W (hW : Below w.heap.size w W) => num_E (errD l i day) W (hE.below hW))
  obtain ⟨A, c, E, U, rfl, _, _, _⟩ := hset
  have HONE := Lib.hid (fun o o' (h : DyA l i day o) (h' : DyA l i day o') => h.one h')
  have HCAN := Lib.hid (fun o (h : DyA l i day o) => h.can.len (by omega))
  generalize errE (errD l i day) = e1 at *
  generalize errD l i day = k1 at *
  generalize DyA l i day = DY at *
  obtain ⟨n, hn⟩ : ∃ n, l.length = n := ⟨_, rfl⟩
  rw [hn] at HH HGV HR ⊢
  have HN9 := Lib.hid hn
  clear hbig hsm hb hl ht hz hn hE
  go_enter Tryz.func5, Tryz.ntmps5
  go_wp2_with fail
  refine HH.out.mono ?_
  rintro e w1 ⟨rfl, rfl⟩
  go_wp2_with fail
  refine HGV.out.mono ?_
  rintro e w2 ⟨u, rfl, hset2, hb2⟩
  have HB2 := Lib.hid hb2
  have HSET := Lib.hid hset2
  clear hset2 hb2
  go_wp2_with fail
  refine (HI.out u _ HB2.out HSET.out).mono ?_
  rintro e w3 ⟨ua, oa, rfl, hsa, hda, hb3⟩
  have HB3 := Lib.hid (HB2.out.trans (hb3.mono HB2.out.size))
  have HSA := Lib.hid hsa
  clear hsa hb3
  go_wp2_with fail
  refine (HR.out _ HB3.out).mono ?_
  rintro e w4 ⟨ub, ob, rfl, hsb, hdb, hb4⟩
  have HB4 := Lib.hid (HB3.out.trans (hb4.mono HB3.out.size))
  have hsa := HSA.out.below hb4
  obtain rfl := HONE.out _ _ hda hdb
  have hz9 := HCAN.out _ hda
  obtain ⟨Aa, ca, rfl, _, _, hka⟩ := hsa
  obtain ⟨Ab, cb, rfl, _, _, hkb⟩ := hsb
  obtain ⟨z, hz⟩ : ∃ z, oa.length = z := ⟨_, rfl⟩
  rw [hz] at hka hkb hz9 ⊢
  have hz8 : (z : Int) ≤ 90000 := by omega
  have HKA := Lib.hid hka
  have HKB := Lib.hid hkb
  clear hb4 hda hdb hka hkb hz hz9
  go_wp2_with fail
  refine (HN1.out _ HB4.out).mono ?_
  rintro e w5 ⟨rfl, hb5⟩
  have HB5 := Lib.hid hb5
  have HBW := Lib.hid (HB4.out.trans (hb5.mono HB4.out.size))
  clear hb5
  go_wp2_with fail
  go_loopw [11] (fun x wr => ∃ k : Nat, k ≤ z ∧ x = .int .i64 k ∧ Below w5.heap.size w5 wr) (fun x _ => z - (intOf x).toNat)
  case atStart => exact ⟨0, Nat.zero_le _, rfl, Below.refl _ _⟩
  case round =>
    obtain ⟨k, hk, rfl, hb⟩ := hrel
    obtain ⟨w6, hw6⟩ : ∃ w6, w6 = wr := ⟨_, rfl⟩
    subst hw6
    have HBR := Lib.hid hb
    have hb6 := HB5.out.trans (hb.mono HB5.out.size)
    clear hb
    by_cases hkt : (k : Int) < z
    · have HK1 := Lib.hid (show k + 1 ≤ z by omega)
      obtain ⟨ad, X, hA, hX, x1, x2⟩ := HKA.out k (by omega)
      obtain ⟨ae, Y, hB, hY, y1, y2⟩ := HKB.out k (by omega)
      obtain ⟨f, hf⟩ : ∃ f, (oa.getD k dS).f = f := ⟨_, rfl⟩
      obtain ⟨t, ht⟩ : ∃ t, (oa.getD k dS).t = t := ⟨_, rfl⟩
      rw [hf] at x1 y1
      rw [ht] at x2 y2
      have p1 := cell_below x1 hb6
      have p2 := cell_below x2 hb6
      have q1 := cell_below y1 hb6
      have q2 := cell_below y2 hb6
      cases hA
      cases hB
      have hk0 : (0 : Int) ≤ k := by omega
      clear x1 x2 y1 y2 hf ht hb6
      go_wp2_with fail
      go_quiet (fail)
      have HBQ := Lib.hid (HBR.out.trans ((below_drewN w6 nq).mono HBR.out.size))
      go_wp2_with fail
      go_round
      case rel => exact ⟨k + 1, HK1.out, by go_num, HBQ.out⟩
      case measure => simp [intOf]; omega
    · have HB6 := Lib.hid (HBW.out.trans (HBR.out.mono HBW.out.size))
      clear hb6
      go_wp2_with fail
      refine (HS.out _ HB6.out).mono ?_
      rintro e w7 ⟨rfl, hb7⟩
      have HB7 := Lib.hid (HB6.out.trans (hb7.mono HB6.out.size))
      clear hb7
      go_wp2_with fail
      go_ret
      exact ⟨rfl, HB7.out⟩
end Go.Proofs.YtlogapkpllgdcaaGreatDoor

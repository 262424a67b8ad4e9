/- Contract: Next. -/
import Derived.Test.YtlogapkpllgdcaaGreatDoorPdDay
namespace Go.Proofs.YtlogapkpllgdcaaGreatDoor
open Go.RowKit

/-- The error of Next. -/
noncomputable def errX (l : List Prd) (i t o b : Int) : Int := if errI l i t o = 0 then (if b < 0 ∨ 34560000 < b then 1 else 0) else errI l i t o
theorem errX_zero {l : List Prd} {i t o b : Int} (h : errX l i t o b = 0) : errI l i t o = 0 ∧ 0 ≤ b ∧ b ≤ 34560000 := by
  unfold errX at h
  split at h
  · rename_i h1
    split at h <;> omega
  · rename_i h1
    exact absurd h h1
/-- How far is asked. -/
def lim (t b : Int) : Int := if b ≤ 4611686018427387904 - t then b else 4611686018427387904 - t
/-- The first time that is in, from t on, or none. -/
def NextAns (p : Int → Bool) (t z : Int) (f : Bool) (x : Int) : Prop :=
  (f = true ∧ t ≤ x ∧ x ≤ z ∧ p x = true ∧ ∀ u, t ≤ u → u < x → p u = false) ∨ (f = false ∧ x = 0 ∧ ∀ u, t ≤ u → u ≤ z → p u = false)
theorem NextAns.one {p : Int → Bool} {t z : Int} {f f' : Bool} {x x' : Int} (h : NextAns p t z f x) (h' : NextAns p t z f' x') : f = f' ∧ x = x' := by
  rcases h with ⟨rfl, a1, a2, a3, a4⟩ | ⟨rfl, rfl, a1⟩ <;> rcases h' with ⟨rfl, b1, b2, b3, b4⟩ | ⟨rfl, rfl, b1⟩
  · refine ⟨rfl, ?_⟩
    rcases Int.lt_trichotomy x x' with h | h | h
    · rw [b4 x a1 h] at a3; cases a3
    · exact h
    · rw [a4 x' b1 h] at b3; cases b3
  · rw [b1 x a1 a2] at a3; cases a3
  · rw [a1 x' b1 b2] at b3; cases b3
  · exact ⟨rfl, rfl⟩
theorem inT_at (l : List Prd) (i : Nat) (o t d q : Int) (s j : Nat) (hd : (t + o) / 86400 = d) (hs : (t + o) % 86400 = s) (hj : j < 86400) :
    inT l i o (t + (86400 * q - s) + j) = secF l (d + q) i j := by
  have e1 : (t + (86400 * q - s) + j + o) / 86400 = d + q := by omega
  have e2 : ((t + (86400 * q - s) + j + o) % 86400).toNat = j := by omega
  unfold inT secF
  rw [e1, e2]
  rfl
set_option maxRecDepth 100000 in
set_option maxHeartbeats 1000000 in
theorem nxt_no (l : List Prd) (v : Value) (i t o b : Int) (w : World) (ht : Tab w) (hset : HPd w v l) (he : errX l i t o b ≠ 0) :
    Calls Tryz.prog 14 #[v, .int .i64 i, .int .i64 t, .int .i64 o, .int .i64 b] w fun e w' => e = .returned (.tuple #[.int .i64 0, .bool false, errE (errX l i t o b)]) ∧ Below w.heap.size w w' := by
  rw [errE_ne he]
  by_cases hI : errI l i t o = 0
  · have hr : b < 0 ∨ 34560000 < b := by
      by_cases h : b < 0 ∨ 34560000 < b
      · exact h
      · exact absurd (by unfold errX; rw [if_pos hI, if_neg h]) he
    have e1 : errX l i t o b = 1 := by unfold errX; rw [if_pos hI, if_pos hr]
    rw [e1]
    obtain ⟨d, hd⟩ : ∃ d, (t + o) / 86400 = d := ⟨_, rfl⟩
    obtain ⟨s, hs⟩ : ∃ s, (t + o) % 86400 = s := ⟨_, rfl⟩
    have HM := Lib.hid (moment_ok l v i t o d s w ht hset hI hd hs)
    obtain ⟨A, c, E, U, rfl, _, _, _⟩ := hset
    unfold mo errK at *
    clear he hI e1 ht hd hs
    rcases (show b < 0 ∨ (¬ b < 0 ∧ 34560000 < b) by omega) with h | ⟨h, h'⟩
    all_goals
      go_enter Tryz.func14, Tryz.ntmps14
      go_wp2_with fail
      refine HM.out.mono ?_
      rintro e w1 ⟨rfl, hb1⟩
      have HB1 := Lib.hid (hb1.alloc hb1.size (.cells #[.int .i64 d, .int .i64 s] 73))
      clear hb1
      go_wp2_with fail
      go_ret3
      exact ⟨rfl, HB1.out⟩
  · have e1 : errX l i t o b = errI l i t o := by unfold errX; rw [if_neg hI]
    rw [e1]
    have HM := Lib.hid (moment_no l v i t o w ht hset hI)
    obtain ⟨A, c, E, U, rfl, _, _, _⟩ := hset
    unfold mo errK at *
    generalize errI l i t o = k at *
    clear he hI e1 ht
    go_enter Tryz.func14, Tryz.ntmps14
    go_wp2_with fail
    refine HM.out.mono ?_
    rintro e w1 ⟨rfl, hb1⟩
    have HB1 := Lib.hid (hb1.alloc hb1.size (.cells #[.int .i64 0, .int .i64 0] 73))
    clear hb1
    go_wp2_with fail
    go_ret3
    exact ⟨rfl, HB1.out⟩
/-- What Next hands back. -/
def NextS (p : Int → Bool) (t z : Int) (w : World) (e : Ending) (w' : World) : Prop := ∃ x f, e = .returned (.tuple #[.int .i64 x, .bool f, .nilIface]) ∧ NextAns p t z f x ∧ Below w.heap.size w w'
/-- What its loop keeps: none of the days ahead has a time that is in. -/
def NextR (p : Int → Bool) (t : Int) (d : Int) (s : Nat) (g : Nat) (w : World) (q : Nat) (W : World) : Prop :=
  W.heap[g]? = some (.cells #[.int .i64 (d + q), .int .i64 s] 73 (0, 0)) ∧ (∀ u, t ≤ u → u < t + (86400 * q - s) → p u = false) ∧ Below w.heap.size w W ∧ w.heap.size ≤ g
theorem next_between {p : Int → Bool} {f : Nat → Bool} {t B : Int} {k0 r : Nat} (hold : ∀ u, t ≤ u → u < t + B → p u = false) (hat : ∀ j : Nat, j < 86400 → p (t + B + j) = f j) (hk0 : (k0 : Int) ≤ 0 ∨ (k0 : Int) ≤ -B) (hn : NextIs f true k0 r) :
    (∀ u, t ≤ u → u < t + B + r → p u = false) ∧ (r < 86400 → p (t + B + r) = true) := by
  obtain ⟨n1, n2, n3, n4⟩ := hn
  refine ⟨fun u h1 h2 => ?_, fun h => by rw [hat r h]; exact n4 h⟩
  rcases Int.lt_or_le u (t + B) with h | h
  · exact hold u h1 h
  · obtain ⟨j, hj⟩ : ∃ j : Nat, u = t + B + j := ⟨(u - t - B).toNat, by omega⟩
    rw [hj, hat j (by omega)]
    exact n3 j (by omega) (by omega)
set_option maxRecDepth 100000 in
set_option maxHeartbeats 4000000 in
theorem nxt_ok (l : List Prd) (v : Value) (i : Nat) (t o b : Int) (w : World) (ht : Tab w) (hz : Tz w) (hset : HPd w v l) (he : errX l i t o b = 0) :
    Calls Tryz.prog 14 #[v, .int .i64 i, .int .i64 t, .int .i64 o, .int .i64 b] w (NextS (inT l i o) t (t + lim t b) w) := by
  obtain ⟨hI, hb1, hb2⟩ := errX_zero he
  obtain ⟨h7, h1, h2, h3, h4⟩ := errI_zero hI
  obtain ⟨hc, hi1, hi2⟩ := err7_zero h7
  obtain ⟨d, hd⟩ : ∃ d, (t + o) / 86400 = d := ⟨_, rfl⟩
  obtain ⟨s, hs⟩ : ∃ s : Nat, (t + o) % 86400 = s := ⟨((t + o) % 86400).toNat, by omega⟩
  have hs2 : s < 86400 := by omega
  have hd1 : -1 ≤ d := by omega
  have hd2 : d ≤ 53375995583651 := by omega
  have HM := Lib.hid (moment_ok l v i t o d s w ht hset hI hd hs)
  have HIN := Lib.hid (fun W (hW : Below w.heap.size w W) => isIn_any l v W d s i (good_of hc) (ht.below hW) (hset.below hW) (by omega) (by omega) (by omega))
  have HF := Lib.hid (fun W (a : Int) (h1 : -70368744177664 ≤ a) (h2 : a ≤ 70368744177664) (hW : Below w.heap.size w W) => find_any l v W a i (good_of hc) (ht.below hW) (hset.below hW) h1 h2 (by omega))
  have HX := Lib.hid (fun W u f k (hk : k ≤ 86400) (hW : Below w.heap.size w W) (h : HSec W u f) => next_sec u f k W (hz.below hW) h hk)
  have HAT := Lib.hid (fun (q : Int) (j : Nat) (hj : j < 86400) => inT_at l i o t d q s j hd hs hj)
  have hhere : inn l (hitE d s) i = inT l i o t := by
    have h := inT_at l i o t d 0 s s hd hs hs2
    rw [show t + (86400 * 0 - (s : Int)) + s = t by omega, show d + 0 = d by omega] at h
    rw [h]; rfl
  rw [hhere] at HIN
  obtain ⟨A, c, E, U, rfl, _, _, _⟩ := hset
  obtain ⟨L, hL⟩ : ∃ L, lim t b = L := ⟨_, rfl⟩
  have hL0 : (b < 4611686018427387904 - t ∧ L = b) ∨ (b = 4611686018427387904 - t ∧ L = b) ∨ (4611686018427387904 - t < b ∧ L = 4611686018427387904 - t) := by
    unfold lim at hL
    split at hL <;> omega
  rw [hL]
  have HHERE := Lib.hid (show ∀ r, inT l i o t = r → inT l i o t = r from fun _ h => h)
  obtain ⟨r, hr⟩ : ∃ r, inT l i o t = r := ⟨_, rfl⟩
  rw [hr] at HIN
  have HR := Lib.hid hr
  unfold mo at HM
  clear he hI h7 hc hi1 hi2 hd hs ht hz hhere hL HHERE hr
  cases r
  · have hL1 : (b < 4611686018427387904 - t ∧ L = b) ∨ (b = 4611686018427387904 - t ∧ L = b) ∨ (4611686018427387904 - t < b ∧ L = 4611686018427387904 - t) := hL0
    have hLb : L ≤ 34560000 := by omega
    clear hL0
    have HLL := Lib.hid (And.intro hL1 hLb)
    clear hL1 hLb
    go_enter Tryz.func14, Tryz.ntmps14
    go_wp2_with fail
    refine HM.out.mono ?_
    rintro e w1 ⟨rfl, hb1⟩
    have HB1 := Lib.hid (hb1.alloc hb1.size (.cells #[.int .i64 d, .int .i64 s] 73))
    have G1 := Lib.hid (heap_alloc_new w1 (.cells #[.int .i64 d, .int .i64 s] 73))
    have HSZ := Lib.hid hb1.size
    clear hb1
    go_wp2_with fail
    refine (HIN.out _ HB1.out).mono ?_
    rintro e w2 ⟨rfl, hb2⟩
    have HB2 := Lib.hid (HB1.out.trans (hb2.mono HB1.out.size))
    have g2 := (hb2.block w1.heap.size (by simp)).trans G1.out
    have y1 := cell_blk g2 1 (v := .int .i64 s) rfl
    have HR0 := Lib.hid (show NextR (inT l i o) t d s w1.heap.size w 0 w2 from ⟨by rw [g2]; simp, fun u h1 h2 => by omega, HB2.out, HSZ.out⟩)
    clear hb2 g2
    have hmin : (if 4611686018427387904 - t < b then 4611686018427387904 - t else b) = L := by
      have := HLL.out
      split <;> omega
    have HMIN := Lib.hid hmin
    have hLb := HLL.out.2
    have hL9 : 0 ≤ L := by have := HLL.out; omega
    clear hmin
    go_upto_region 9 with (fail)
    rw [HMIN.out]
    go_wp2_with fail
    clear y1
    go_loopw [15] (fun v wr => ∃ (q : Nat) (B : Int), (86400 : Int) * q - s = B ∧ B ≤ 34646400 ∧ v = .int .i64 B ∧ NextR (inT l i o) t d s w1.heap.size w q wr) (fun v _ => (34646401 - (match v with | .int _ n => n | _ => 0)).toNat)
    case atStart => exact ⟨0, -(s : Int), by omega, by omega, rfl, HR0.out⟩
    case round =>
      obtain ⟨q, B, hB, hBu, rfl, r1, r2, r3, r4⟩ := hrel
      have hB0 : -86400 < B := by omega
      have hq : (q : Int) ≤ 402 := by omega
      rw [show t + (86400 * (q : Int) - s) = t + B by omega] at r2
      have HQ := Lib.hid hB
      have HRR := Lib.hid (And.intro r1 (And.intro r2 (And.intro r3 r4)))
      have hat : ∀ j : Nat, j < 86400 → inT l i o (t + B + j) = secF l (d + q) i j := fun j hj => by
        have := HAT.out q j hj
        rw [hB] at this
        exact this
      have HA := Lib.hid hat
      have hlt := (Array.getElem?_eq_some_iff.1 r1).1
      have HLT := Lib.hid hlt
      clear hat
      by_cases hin : B ≤ L
      · have y0 := cell_blk r1 0 (v := .int .i64 (d + q)) rfl
        have hdq1 : -70368744177664 ≤ d + q := by omega
        have hdq2 : d + q ≤ 70368744177664 := by omega
        have HFF := Lib.hid (HF.out wr (d + q) hdq1 hdq2 r3)
        clear r1 r2 r3 r4 hlt hB
        have hk : ∃ k0 : Nat, k0 ≤ 86400 ∧ ((k0 : Int) ≤ 0 ∨ (k0 : Int) ≤ -B) ∧ ((B < 0 ∧ -B = k0) ∨ (0 ≤ B ∧ k0 = 0)) := by
          rcases Int.lt_or_le B 0 with h | h
          · exact ⟨(-B).toNat, by omega, by omega, .inl ⟨h, by omega⟩⟩
          · exact ⟨0, by omega, by omega, .inr ⟨h, rfl⟩⟩
        obtain ⟨k0, hk1, hk2, hk3⟩ := hk
        have hmax : (if 0 < -B then -B else 0) = (k0 : Int) := by split <;> omega
        have hmax2 : (if B < 0 then -B else 0) = (k0 : Int) := by split <;> omega
        have HK2 := Lib.hid (And.intro hk1 (And.intro hk2 hk3))
        clear hk1 hk2 hk3
        go_wp2_with fail
        refine HFF.out.mono ?_
        rintro e w5 ⟨u, rfl, hu, hb5⟩
        have HU := Lib.hid hu
        have HB5 := Lib.hid (HRR.out.2.2.1.trans (hb5.mono HRR.out.2.2.1.size))
        have G5 := Lib.hid ((hb5.block _ HLT.out).trans HRR.out.1)
        clear hu hb5 y0
        go_wp2_with fail
        clear hmax hmax2
        refine (HX.out _ _ _ _ HK2.out.1 HB5.out HU.out).mono ?_
        rintro e w6 ⟨⟨r, he, hn⟩, rfl⟩
        obtain ⟨hbt, hfd⟩ := next_between HRR.out.2.1 HA.out HK2.out.2.1 hn
        have hr0 : (r : Int) ≤ 86400 := by have := hn.2.1; omega
        have hr1 : 0 ≤ B + r := by have := hn.1; have := HK2.out.2.2; omega
        have hfd' : (r : Int) < 86400 → inT l i o (t + B + r) = true := fun h => hfd (by omega)
        obtain ⟨R, hR⟩ : ∃ R : Int, (r : Int) = R := ⟨_, rfl⟩
        rw [hR] at he hr0 hr1 hfd' hbt
        subst he
        have HBT := Lib.hid (And.intro hbt hfd')
        have HINN := Lib.hid hin
        clear hn hbt hfd hfd' hin hR
        rcases (show L < B + R ∨ (B + R ≤ L ∧ R < 86400) ∨ (B + R ≤ L ∧ 86400 ≤ R) by omega) with hq1 | ⟨hq1, hq2⟩ | ⟨hq1, hq2⟩
        · have HF9 : Hid (NextAns (inT l i o) t (t + L) false 0) := .inr ⟨rfl, rfl, fun u h1 h2 => HBT.out.1 u h1 (by omega)⟩
          go_wp2_with fail
          go_ret3
          exact ⟨_, _, rfl, HF9.out, HB5.out⟩
        · have HF9 : Hid (NextAns (inT l i o) t (t + L) true (t + B + R)) := .inl ⟨rfl, by omega, by omega, HBT.out.2 (by omega), HBT.out.1⟩
          go_wp2_with fail
          go_ret3
          exact ⟨_, _, rfl, HF9.out, HB5.out⟩
        · have y0 := cell_blk G5.out 0 (v := .int .i64 (d + q)) rfl
          have y1 := frz_blk G5.out 0
          have hst := heap_setCell_same w5 w1.heap.size 0 _ _ (.int .i64 (d + q + 1)) G5.out
          have HF9 : Hid (NextR (inT l i o) t d s w1.heap.size w (q + 1) (w5.setCell ⟨w1.heap.size, 0, none⟩ (.int .i64 (d + q + 1)))) :=
            ⟨by rw [hst, show d + (q : Int) + 1 = d + ((q + 1 : Nat) : Int) by omega]; rfl, fun u h1 h2 => HBT.out.1 u h1 (by have := HQ.out; omega), HB5.out.setCell (p := ⟨w1.heap.size, 0, none⟩) HRR.out.2.2.2 _, HRR.out.2.2.2⟩
          clear hst
          go_wp2_with fail
          go_roundw
          case rel => exact ⟨q + 1, B + 86400, by have := HQ.out; omega, by have := HINN.out; omega, rfl, HF9.out⟩
          case measure => have := HINN.out; simp; omega
      · have HF9 : Hid (NextAns (inT l i o) t (t + L) false 0) := .inr ⟨rfl, rfl, fun u h1 h2 => HRR.out.2.1 u h1 (by omega)⟩
        clear r1 r2 r3 r4 hlt hB
        go_wp2_with fail
        go_ret3
        exact ⟨_, _, rfl, HF9.out, HRR.out.2.2.1⟩
  · have HFI : Hid (NextAns (inT l i o) t (t + L) true t) := .inl ⟨rfl, Int.le_refl _, by omega, HR.out, fun u h1 h2 => by omega⟩
    clear HF HX HAT hL0
    go_enter Tryz.func14, Tryz.ntmps14
    go_wp2_with fail
    refine HM.out.mono ?_
    rintro e w1 ⟨rfl, hb1⟩
    have HB1 := Lib.hid (hb1.alloc hb1.size (.cells #[.int .i64 d, .int .i64 s] 73))
    clear hb1
    go_wp2_with fail
    refine (HIN.out _ HB1.out).mono ?_
    rintro e w2 ⟨rfl, hb2⟩
    have HB2 := Lib.hid (HB1.out.trans (hb2.mono HB1.out.size))
    clear hb2
    go_wp2_with fail
    go_ret3
    exact ⟨_, _, rfl, HFI.out, HB2.out⟩
end Go.Proofs.YtlogapkpllgdcaaGreatDoor

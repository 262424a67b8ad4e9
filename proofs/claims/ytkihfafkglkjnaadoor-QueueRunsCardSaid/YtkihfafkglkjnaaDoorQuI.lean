/- Layer 15: the queue in memory; isAhead, foremost. -/
import Derived.Test.YtkihfafkglkjnaaDoorQuCm
namespace Go.Proofs.YtkihfafkglkjnaaDoor
open Go.RowKit

theorem Gw.trans {a b c : World} (h : Gw a b) (h' : Gw b c) : Gw a c := by
  obtain ⟨q, os, rfl⟩ := h
  obtain ⟨q', os', rfl⟩ := h'
  refine ⟨q + q', os ++ os', ?_⟩
  have e : (Go.Sort.grow (a.drewN q) os).drewN q' = Go.Sort.grow (a.drewN (q + q')) os := by
    unfold Go.Sort.grow World.drewN
    simp [Nat.add_assoc]
  rw [e, Go.Sort.grow_grow]
/-- The queue at block q: its room, its heap, its map of places. -/
structure QuI (w : World) (q g : Nat) (v : Value) (n : Int) (H : List Ev) : Prop where
  blk : w.heap[q]? = some (.cells #[.int .i64 n, v, .map (some g)] 56 (0, 0))
  row : w.ownsRow 0 38 3 v H.length (H.flatMap evC)
  map : MapQ w g H.length (PosE H)
  d1 : q ≠ g
  d2 : v.ownBlock ≠ some q
  d3 : v.ownBlock ≠ some g
  key : KeyE H
  k64 : ∀ e ∈ H, In64 e.2.1 ∧ In64 e.2.2
  len : H.length ≤ 65536
/-- Its blocks. -/
def FqB (q g : Nat) (v : Value) (k : Nat) : Prop := k = q ∨ k = g ∨ v.ownBlock = some k
section
variable {w w' : World} {q g : Nat} {v : Value} {n : Int} {H : List Ev}
theorem QuI.fp (h : QuI w q g v n H) : ∀ k, FqB q g v k → k < w.heap.size := fun k hk => by
  rcases hk with rfl | rfl | hk
  · exact blk9_lt h.blk
  · exact h.map.lt
  · exact (h.row.lt k hk).2
theorem QuI.kept (h : QuI w q g v n H) (hb : ∀ k, FqB q g v k → w'.heap[k]? = w.heap[k]?) : QuI w' q g v n H :=
  ⟨(hb q (.inl rfl)).trans h.blk, own_block9 h.row (fun i hi => hb i (.inr (.inr hi))), h.map.block (hb g (.inr (.inl rfl))), h.d1, h.d2, h.d3, h.key, h.k64, h.len⟩
theorem QuI.bl (h : QuI w q g v n H) (hb : Below w.heap.size w w') : QuI w' q g v n H := h.kept fun k hk => hb.block k (h.fp k hk)
theorem QuI.gw (h : QuI w q g v n H) (hg : Gw w w') : QuI w' q g v n H := h.bl hg.below
/-- The slice; an event's cells. -/
theorem QuI.form (h : QuI w q g v n H) : ∃ A c, v = .slice A H.length c ∧ H.length ≤ c ∧ ∀ i, (hi : i < H.length) → ∃ ad X, A = some ad ∧ ad.add (i * 3) = X ∧ w.cell? X = some (.int .i64 (evA H i).1) ∧ w.cell? { block := X.block, off := X.off + 1 } = some (.int .i64 (evA H i).2.1) ∧ w.cell? { block := X.block, off := X.off + 2 } = some (.int .i64 (evA H i).2.2) := by
  obtain ⟨A, c, e, hc, hm, _, hr, _⟩ := owns_formk h.row
  have hR : RowE w (.slice A H.length c) H := ⟨A, c, rfl, hc, hm, hr⟩
  refine ⟨A, c, e, hc, fun i hi => ?_⟩
  exact hR.parts.2.2.2.2 i hi _ (evA_at hi)
end
/-- What is read of a queue and two of its events. -/
def ReQ (V : World) (q : Nat) (v : Value) (X Y : Addr) (a b : Ev) : Prop := V.cell? ⟨q, 1, none⟩ = some v ∧
  (V.cell? X = some (.int .i64 a.1) ∧ V.cell? { block := X.block, off := X.off + 1 } = some (.int .i64 a.2.1) ∧ V.cell? { block := X.block, off := X.off + 2 } = some (.int .i64 a.2.2)) ∧
  (V.cell? Y = some (.int .i64 b.1) ∧ V.cell? { block := Y.block, off := Y.off + 1 } = some (.int .i64 b.2.1) ∧ V.cell? { block := Y.block, off := Y.off + 2 } = some (.int .i64 b.2.2))
theorem ReQ.bl {V V' : World} {q : Nat} {v : Value} {X Y : Addr} {a b : Ev} (h : ReQ V q v X Y a b) (hb : Below V.heap.size V V') : ReQ V' q v X Y a b :=
  ⟨cell9_below h.1 hb, ⟨cell9_below h.2.1.1 hb, cell9_below h.2.1.2.1 hb, cell9_below h.2.1.2.2 hb⟩, ⟨cell9_below h.2.2.1 hb, cell9_below h.2.2.2.1 hb, cell9_below h.2.2.2.2 hb⟩⟩
set_option maxRecDepth 100000 in
set_option maxHeartbeats 4000000 in
theorem isAhead_any (q g : Nat) (v : Value) (n : Int) (H : List Ev) (i j : Nat) (w : World) (h : QuI w q g v n H) (hi : i < H.length) (hj : j < H.length) :
    Calls Tryd.prog 43 #[.pointer (some ⟨q, 0, none⟩), .int .i64 (i : Nat), .int .i64 (j : Nat)] w fun x w' => x = .returned (.bool (ahE (evA H i) (evA H j))) ∧ Gw w w' := by
  obtain ⟨A, c, rfl, hc, hat⟩ := h.form
  have hlen := h.len
  obtain ⟨m, hm⟩ : ∃ m, H.length = m := ⟨_, rfl⟩
  obtain ⟨ad, X, rfl, hX, c1, c2, c3⟩ := hat i hi
  obtain ⟨ad2, Y, e2, hY, d1, d2, d3⟩ := hat j hj
  injection e2 with e2
  subst e2
  have c0 := cell9_blk h.blk 1 rfl
  have hCm := fun W => compare_any (evA H i) (evA H j) W
  have hR := cmE_neg (evA H i) (evA H j)
  obtain ⟨z, hz⟩ : ∃ z, cmE (evA H i) (evA H j) = z := ⟨_, rfl⟩
  obtain ⟨R, hRR⟩ : ∃ R, ahE (evA H i) (evA H j) = R := ⟨_, rfl⟩
  have hre : ReQ w q (.slice (some ad) H.length c) X Y (evA H i) (evA H j) := ⟨c0, ⟨c1, c2, c3⟩, ⟨d1, d2, d3⟩⟩
  rw [hz] at hCm hR
  rw [hRR] at hR ⊢
  obtain ⟨⟨a1, a2, a3⟩, ha⟩ : ∃ a, evA H i = a := ⟨_, rfl⟩
  obtain ⟨⟨b1, b2, b3⟩, hb⟩ : ∃ a, evA H j = a := ⟨_, rfl⟩
  rw [ha, hb, hm] at hre
  rw [ha, hb] at hCm
  unfold evV at hCm
  dsimp only at hCm
  rw [hm] at hi hj hc hlen
  have i0 : (0 : Int) ≤ i := by omega
  have i1 : (i : Int) < m := by omega
  have j0 : (0 : Int) ≤ j := by omega
  have j1 : (j : Int) < m := by omega
  have HCm := Lib.hid hCm
  have HKp : Hid (∀ V V', ReQ V q (.slice (some ad) m c) X Y (a1, a2, a3) (b1, b2, b3) → Gw V V' → ReQ V' q (.slice (some ad) m c) X Y (a1, a2, a3) (b1, b2, b3)) := Lib.hid (fun V V' h hg => h.bl hg.below)
  have HDr : Hid (ReQ w.drew q (.slice (some ad) m c) X Y (a1, a2, a3) (b1, b2, b3)) := Lib.hid (hre.bl (Gw.refl w).drew.below)
  clear h c0 c1 c2 c3 d1 d2 d3 hat hCm hz hRR ha hb hm hre
  unfold ReQ at HKp HDr
  dsimp only at HKp HDr
  go_enter Tryd.func43, Tryd.ntmps43
  have HR := Lib.hid hR
  clear hR
  · go_wp2_with fail
    go_region_held3 (fun V => V.cell? ⟨q, 1, none⟩ = some (.slice (some ad) m c) ∧ (V.cell? X = some (.int .i64 a1) ∧ V.cell? { block := X.block, off := X.off + 1 } = some (.int .i64 a2) ∧ V.cell? { block := X.block, off := X.off + 2 } = some (.int .i64 a3)) ∧ (V.cell? Y = some (.int .i64 b1) ∧ V.cell? { block := Y.block, off := Y.off + 1 } = some (.int .i64 b2) ∧ V.cell? { block := Y.block, off := Y.off + 2 } = some (.int .i64 b3))) (first | exact HDr.out | assumption | exact HKp.out _ _ (by assumption) (by assumption))
      (first | (with_reducible refine (HCm.out _).mono ?_; rintro e w' ⟨rfl, hgw⟩))
    go_wp2_with fail
    go_ret
    refine ⟨?_, (Gw.refl w).drew.trans hgw⟩
    rw [← HR.out]
    rfl
/-- The first of one and so many of the two beneath it. -/
def fmK (H : List Ev) (p k : Nat) : Nat := if k = 0 then p else if k = 1 then fmA H p (2 * p + 1) else fmE H p
theorem fmK_succ (H : List Ev) (p k : Nat) (hk : k < 2) : fmK H p (k + 1) = fmA H (fmK H p k) (2 * p + 1 + k) := by
  unfold fmK
  rcases k with _ | _ | k
  · rfl
  · rfl
  · omega
theorem fmA_lt {H : List Ev} {f u : Nat} (hf : f < H.length) : fmA H f u < H.length := by
  unfold fmA
  split
  · rename_i h; exact h.1
  · exact hf
theorem fmK_lt {H : List Ev} {p k : Nat} (hp : p < H.length) : fmK H p k < H.length := by
  unfold fmK fmE
  split
  · exact hp
  · split
    · exact fmA_lt hp
    · exact fmA_lt (fmA_lt hp)
set_option maxRecDepth 100000 in
set_option maxHeartbeats 4000000 in
theorem foremost_any (q g : Nat) (v : Value) (n : Int) (H : List Ev) (p : Nat) (w : World) (h : QuI w q g v n H) (hp : p < H.length) :
    Calls Tryd.prog 45 #[.pointer (some ⟨q, 0, none⟩), .int .i64 (p : Nat)] w fun x w' => x = .returned (.int .i64 (fmE H p : Nat)) ∧ Below w.heap.size w w' := by
  have hlen := h.len
  obtain ⟨A, c, rfl, hc, _⟩ := h.form
  obtain ⟨m, hm⟩ : ∃ m, H.length = m := ⟨_, rfl⟩
  have HB := Lib.hid (fun W => beneath_any p W (by omega))
  obtain ⟨x1, hx1⟩ : ∃ x, 2 * p + 1 = x := ⟨_, rfl⟩
  obtain ⟨x2, hx2⟩ : ∃ x, 2 * p + 2 = x := ⟨_, rfl⟩
  rw [hx1, hx2] at HB
  have hix : ∀ (k : Nat) (W : World), k < 2 → (Instr.index 112 (.agg #[.int .i64 (x1 : Nat), .int .i64 (x2 : Nat)]) (.int .i64 (k : Nat))).run Tryd.prog W = .ok (.int .i64 ((2 * p + 1 + k : Nat) : Int)) W := fun k W hk => by
    rcases k with _ | _ | k
    · rw [Nat.add_zero, hx1]
      kernel_rfl
    · rw [show 2 * p + 1 + (0 + 1) = x2 by omega]
      kernel_rfl
    · omega
  have HIx := Lib.hid hix
  have HA := Lib.hid (fun i j W (h : QuI W q g (.slice A H.length c) n H) (hi : i < H.length) (hj : j < H.length) => isAhead_any q g (.slice A H.length c) n H i j W h hi hj)
  have HI := Lib.hid h
  have HP := Lib.hid hp
  obtain ⟨F, hF⟩ : ∃ F, fmE H p = F := ⟨_, rfl⟩
  rw [hF]
  have HF := Lib.hid hF
  rw [hm] at HA HI hlen hc
  have HM := Lib.hid hm
  clear h hp hm hix hx1 hx2 hF
  go_enter Tryd.func45, Tryd.ntmps45
  go_wp2_with fail
  with_reducible refine (HB.out _).mono ?_
  rintro e w1 ⟨rfl, hb1⟩
  have HB1 := Lib.hid hb1
  clear hb1
  go_wp2_with fail
  go_loopw [5, 11] (fun fv iv wr => ∃ (k f : Nat), iv = .int .i64 k ∧ fv = .int .i64 f ∧ k ≤ 2 ∧ fmK H p k = f ∧ Below w.heap.size w wr) (fun _ iv _ => 2 - (intOf iv).toNat)
  case atStart => exact ⟨0, p, rfl, rfl, by omega, rfl, HB1.out⟩
  case round =>
    obtain ⟨k, f, rfl, rfl, hk, hf, hb⟩ := hrel
    have HI2 := Lib.hid (HI.out.bl hb)
    have HBl := Lib.hid hb
    have c0 := cell9_blk HI2.out.blk 1 rfl
    clear hb
    by_cases hk2 : k < 2
    · have k0 : (0 : Int) ≤ k := by omega
      have k1 : (k : Int) < 2 := by omega
      have hi1 := HIx.out k wr hk2
      have hfl : f < m := by rw [← hf, ← HM.out]; exact fmK_lt HP.out
      have hs := fmK_succ H p k hk2
      rw [hf] at hs
      unfold fmA at hs
      rw [HM.out] at hs
      obtain ⟨u, hu⟩ : ∃ u, 2 * p + 1 + k = u := ⟨_, rfl⟩
      rw [hu] at hi1 hs
      have u0 : (0 : Int) ≤ u := by omega
      have f0 : (0 : Int) ≤ f := by omega
      have hbk := fun (f' : Nat) (wz : World) (h1 : fmK H p (k + 1) = f') (h2 : Below wr.heap.size wr wz) => And.intro h1 (HBl.out.trans (h2.mono HBl.out.size))
      have HBk := Lib.hid hbk
      by_cases hum : u < m
      · have u1 : (u : Int) < m := by omega
        have hA := HA.out u f wr HI2.out hum hfl
        obtain ⟨R, hR⟩ : ∃ R, ahE (evA H u) (evA H f) = R := ⟨_, rfl⟩
        rw [hR] at hA hs
        have HA2 := Lib.hid hA
        clear hA hR hbk hf
        cases R
        · rw [if_neg (by simp)] at hs
          have HS := Lib.hid hs
          clear hs
          go_wp2_with (first | (with_reducible refine HA2.out.mono ?_; rintro e w2 ⟨rfl, hg2⟩))
          exact ⟨⟨k + 1, f, by go_num, rfl, hk2, HBk.out f _ HS.out hg2.below⟩, by simp [intOf]; omega⟩
        · rw [if_pos ⟨hum, rfl⟩] at hs
          have HS := Lib.hid hs
          clear hs
          go_wp2_with (first | (with_reducible refine HA2.out.mono ?_; rintro e w2 ⟨rfl, hg2⟩))
          exact ⟨⟨k + 1, u, by go_num, rfl, hk2, HBk.out u _ HS.out hg2.below⟩, by simp [intOf]; omega⟩
      · have u1 : ¬ (u : Int) < m := by omega
        rw [if_neg (fun h => hum h.1)] at hs
        have HS := Lib.hid hs
        clear hs hbk hf
        go_wp2_with fail
        exact ⟨⟨k + 1, f, by go_num, rfl, hk2, HBk.out f _ HS.out (Below.refl _ _)⟩, by simp [intOf]; omega⟩
    · obtain rfl : k = 2 := by omega
      have e2 : fmK H p 2 = F := HF.out
      rw [e2] at hf
      subst hf
      have HX := Lib.hid HBl.out
      clear c0
      go_wp2_with fail
      go_ret
      exact ⟨rfl, HBl.out⟩
end Go.Proofs.YtkihfafkglkjnaaDoor

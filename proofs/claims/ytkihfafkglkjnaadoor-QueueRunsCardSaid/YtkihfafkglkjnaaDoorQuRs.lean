/- Layer 15: rise, sink, settle. -/
import Derived.Test.YtkihfafkglkjnaaDoorQuSw
namespace Go.Proofs.YtkihfafkglkjnaaDoor
open Go.RowKit

theorem TuF.refl {F : Nat → Prop} (w : World) : TuF F F w w := .of (Below.refl _ _)
set_option maxRecDepth 100000 in
set_option maxHeartbeats 4000000 in
theorem rise_any (q g : Nat) (v : Value) (n : Int) (H : List Ev) (p0 : Nat) (w : World) (h : QuI w q g v n H) (hp : p0 < H.length) (hu : UpH p0 p0 H) :
    Calls Tryd.prog 33 #[.pointer (some ⟨q, 0, none⟩), .int .i64 (p0 : Nat)] w fun x w' => x = .returned (.tuple #[]) ∧ ∃ H', QuI w' q g v n H' ∧ H'.Perm H ∧ DnH p0 H' ∧ TuF (FqB q g v) (FqB q g v) w w' := by
  have hlen := h.len
  obtain ⟨m, hm⟩ : ∃ m, H.length = m := ⟨_, rfl⟩
  rw [hm] at hp hlen
  have H0 := Lib.hid (And.intro h (And.intro hm hu))
  have HAb := Lib.hid (fun p W (h0 : 0 < p) (h1 : p ≤ 100000) => above_any p W h0 h1)
  have HAh := Lib.hid (fun H i j W (h : QuI W q g v n H) (hi : i < H.length) (hj : j < H.length) => isAhead_any q g v n H i j W h hi hj)
  have HSw := Lib.hid (fun H i j W (h : QuI W q g v n H) (hi : i < H.length) (hj : j < H.length) => swap_any q g v n H i j W h hi hj)
  clear h hm hu
  go_enter Tryd.func33, Tryd.ntmps33
  go_wp2_with fail
  go_loopw [1] (fun pv wr => ∃ (p : Nat) (H' : List Ev), pv = .int .i64 p ∧ p < m ∧ QuI wr q g v n H' ∧ H'.Perm H ∧ UpH p0 p H' ∧ TuF (FqB q g v) (FqB q g v) w wr) (fun pv _ => (intOf pv).toNat)
  case atStart => exact ⟨p0, H, rfl, hp, H0.out.1, List.Perm.refl _, H0.out.2.2, TuF.refl _⟩
  case round =>
    obtain ⟨p, H', rfl, hpm, hI, hpe, hup, ht⟩ := hrel
    have hl : H'.length = m := hpe.length_eq.trans H0.out.2.1
    have HI := Lib.hid (And.intro hI (And.intro hpe (And.intro hup (And.intro ht hl))))
    clear hI hpe hup ht hl
    by_cases h0 : 0 < p
    · have q0 : (0 : Int) < p := by omega
      have hpl := parN_lt h0
      obtain ⟨a, ha⟩ : ∃ a, parN p = a := ⟨_, rfl⟩
      rw [ha] at hpl
      have HA1 := Lib.hid (by have h := HAb.out p wr h0 (by omega); rw [ha] at h; exact h : Calls Tryd.prog 44 #[.int .i64 (p : Nat)] wr fun x w' => x = .returned (.int .i64 (a : Nat)) ∧ w' = wr)
      obtain ⟨R, hR⟩ : ∃ R, ahE (evA H' p) (evA H' a) = R := ⟨_, rfl⟩
      have HA2 := Lib.hid (by have h := HAh.out H' p a wr HI.out.1 (by rw [HI.out.2.2.2.2]; exact hpm) (by rw [HI.out.2.2.2.2]; omega); rw [hR] at h; exact h : Calls Tryd.prog 43 #[.pointer (some ⟨q, 0, none⟩), .int .i64 (p : Nat), .int .i64 (a : Nat)] wr fun x w' => x = .returned (.bool R) ∧ Gw wr w')
      have HPa := Lib.hid (And.intro ha (And.intro hR hpl))
      clear ha hR hpl
      cases R with
      | false =>
        go_wp2_with (first
          | (go_at_call 44; with_reducible refine HA1.out.mono ?_; rintro e w1 ⟨rfl, rfl⟩)
          | (go_at_call 43; with_reducible refine HA2.out.mono ?_; rintro e w2 ⟨rfl, hg2⟩))
        go_end0
        refine ⟨rfl, H', HI.out.1.gw hg2, HI.out.2.1, ?_, HI.out.2.2.2.1.trans (.of hg2.below)⟩
        exact HI.out.2.2.1.done (by rw [HI.out.2.2.2.2]; omega) (fun _ => by rw [HPa.out.1]; exact HPa.out.2.1)
      | true =>
        have hah := HPa.out.2.1
        rw [← HPa.out.1] at hah
        have hup2 := HI.out.2.2.1.rise (by rw [HI.out.2.2.2.2]; exact hpm) h0 hah
        rw [HPa.out.1] at hup2
        have HU2 := Lib.hid hup2
        clear hah hup2
        go_wp2_with (first
          | (go_at_call 43; with_reducible refine HA2.out.mono ?_; rintro e w2 ⟨rfl, hg2⟩
             have HG2 := Lib.hid hg2
             clear hg2)
          | (go_at_call 44; with_reducible refine HA1.out.mono ?_; rintro e w1 ⟨rfl, rfl⟩)
          | (go_at_call 44; with_reducible refine (HAb.out p _ h0 (by omega)).mono ?_; rintro e w1 ⟨rfl, rfl⟩; rw [HPa.out.1])
          | (go_at_call 35; with_reducible refine (HSw.out H' p a _ (HI.out.1.gw HG2.out) (by rw [HI.out.2.2.2.2]; exact hpm) (by rw [HI.out.2.2.2.2]; have := HPa.out.2.2; omega)).mono ?_; rintro e w3 ⟨rfl, hI3, ht3⟩
             have H3 := Lib.hid (And.intro hI3 ht3)
             clear hI3 ht3))
        have hal := HPa.out.2.2
        exact ⟨⟨a, swL H' p a, rfl, by omega, H3.out.1, (swL_perm (by rw [HI.out.2.2.2.2]; exact hpm) (by rw [HI.out.2.2.2.2]; omega)).trans HI.out.2.1, HU2.out, (HI.out.2.2.2.1.trans (.of HG2.out.below)).trans H3.out.2⟩, by simp [intOf]; omega⟩
    · have q0 : ¬ (0 : Int) < p := by omega
      go_wp2_with fail
      go_end0
      refine ⟨rfl, H', HI.out.1, HI.out.2.1, ?_, HI.out.2.2.2.1⟩
      exact HI.out.2.2.1.done (by rw [HI.out.2.2.2.2]; omega) (fun h => absurd h h0)
set_option maxRecDepth 100000 in
set_option maxHeartbeats 4000000 in
theorem sink_any (q g : Nat) (v : Value) (n : Int) (H : List Ev) (p0 : Nat) (w : World) (h : QuI w q g v n H) (hp : p0 < H.length) (hu : DnH p0 H) :
    Calls Tryd.prog 34 #[.pointer (some ⟨q, 0, none⟩), .int .i64 (p0 : Nat)] w fun x w' => x = .returned (.tuple #[]) ∧ ∃ H', QuI w' q g v n H' ∧ H'.Perm H ∧ HeapE H' ∧ TuF (FqB q g v) (FqB q g v) w w' := by
  have hlen := h.len
  obtain ⟨m, hm⟩ : ∃ m, H.length = m := ⟨_, rfl⟩
  have HF0 := Lib.hid (foremost_any q g v n H p0 w h hp)
  rw [hm] at hp hlen
  have H0 := Lib.hid (And.intro h (And.intro hm hu))
  have HFm := Lib.hid (fun H p W (h : QuI W q g v n H) (hp : p < H.length) => foremost_any q g v n H p W h hp)
  have HSw := Lib.hid (fun H i j W (h : QuI W q g v n H) (hi : i < H.length) (hj : j < H.length) => swap_any q g v n H i j W h hi hj)
  clear h hm hu
  go_enter Tryd.func34, Tryd.ntmps34
  go_wp2_with fail
  with_reducible refine HF0.out.mono ?_
  rintro e w1 ⟨rfl, hb1⟩
  have HB1 := Lib.hid hb1
  clear hb1
  go_wp2_with fail
  go_loopw [1, 4] (fun pv nv wr => ∃ (p f : Nat) (H' : List Ev), pv = .int .i64 p ∧ nv = .int .i64 f ∧ p < m ∧ fmE H' p = f ∧ QuI wr q g v n H' ∧ H'.Perm H ∧ DnH p H' ∧ TuF (FqB q g v) (FqB q g v) w wr) (fun pv _ _ => m - (intOf pv).toNat)
  case atStart => exact ⟨p0, _, H, rfl, rfl, hp, rfl, H0.out.1.bl HB1.out, List.Perm.refl _, H0.out.2.2, .of HB1.out⟩
  case round =>
    obtain ⟨p, f, H', rfl, rfl, hpm, hf, hI, hpe, hdn, ht⟩ := hrel
    have hl : H'.length = m := hpe.length_eq.trans H0.out.2.1
    have HI := Lib.hid (And.intro hI (And.intro hpe (And.intro hdn (And.intro ht (And.intro hl hf)))))
    clear hI hpe hdn ht hl
    by_cases hfp : f = p
    · have q0 : (f : Int) = p := by omega
      clear hf
      go_wp2_with fail
      go_end0
      exact ⟨rfl, H', HI.out.1, HI.out.2.1, HI.out.2.2.1.done (by rw [HI.out.2.2.2.2.2]; exact hfp), HI.out.2.2.2.1⟩
    · have q0 : ¬ (f : Int) = p := by omega
      have hs := fmE_spec H' p
      rw [hf] at hs
      rcases hs with ⟨h1, _⟩ | ⟨_, hlt, hfl, _⟩
      · exact absurd h1 hfp
      rw [HI.out.2.2.2.2.1] at hfl
      have hd2 := HI.out.2.2.1.sink (by rw [HI.out.2.2.2.2.1]; exact hpm) (by rw [hf]; exact hfp)
      rw [hf] at hd2
      have HD2 := Lib.hid hd2
      have HS2 := Lib.hid (HSw.out H' p f wr HI.out.1 (by rw [HI.out.2.2.2.2.1]; exact hpm) (by rw [HI.out.2.2.2.2.1]; exact hfl))
      clear hf hd2
      go_wp2_with fail
      with_reducible refine HS2.out.mono ?_
      rintro e w2 ⟨rfl, hI2, ht2⟩
      have H2 := Lib.hid (And.intro hI2 ht2)
      have HF2 := Lib.hid (HFm.out _ f w2 hI2 (by rw [swL_len, HI.out.2.2.2.2.1]; exact hfl))
      clear hI2 ht2
      obtain ⟨f2, hf2⟩ : ∃ y, fmE (swL H' p f) f = y := ⟨_, rfl⟩
      rw [hf2] at HF2
      have HFF := Lib.hid hf2
      clear hf2
      go_wp2_with fail
      with_reducible refine HF2.out.mono ?_
      rintro e w3 ⟨rfl, hb3⟩
      have H3 := Lib.hid hb3
      clear hb3
      go_wp2_with fail
      exact ⟨⟨f, f2, swL H' p f, rfl, rfl, hfl, HFF.out, H2.out.1.bl H3.out, (swL_perm (by rw [HI.out.2.2.2.2.1]; exact hpm) (by rw [HI.out.2.2.2.2.1]; exact hfl)).trans HI.out.2.1, HD2.out, (HI.out.2.2.2.1.trans H2.out.2).trans (.of H3.out)⟩, by simp [intOf]; omega⟩
set_option maxRecDepth 100000 in
set_option maxHeartbeats 4000000 in
theorem settle_any (q g : Nat) (v : Value) (n : Int) (H : List Ev) (p : Nat) (w : World) (h : QuI w q g v n H) (hp : p < H.length) (hu : UpH p p H) :
    Calls Tryd.prog 24 #[.pointer (some ⟨q, 0, none⟩), .int .i64 (p : Nat)] w fun x w' => x = .returned (.tuple #[]) ∧ ∃ H', QuI w' q g v n H' ∧ H'.Perm H ∧ HeapE H' ∧ TuF (FqB q g v) (FqB q g v) w w' := by
  have HR := Lib.hid (rise_any q g v n H p w h hp hu)
  have HP := Lib.hid hp
  clear h hp hu
  go_enter Tryd.func24, Tryd.ntmps24
  go_wp2_with fail
  with_reducible refine HR.out.mono ?_
  rintro e w1 ⟨rfl, H1, hI1, hp1, hd1, ht1⟩
  have HS := Lib.hid (sink_any q g v n H1 p w1 hI1 (by rw [hp1.length_eq]; exact HP.out) hd1)
  have HT := Lib.hid (And.intro hp1 ht1)
  clear hI1 hp1 hd1 ht1
  go_wp2_with fail
  with_reducible refine HS.out.mono ?_
  rintro e w2 ⟨rfl, H2, hI2, hp2, hd2, ht2⟩
  have HT2 := Lib.hid (And.intro hI2 (And.intro hp2 (And.intro hd2 ht2)))
  clear hI2 hp2 hd2 ht2
  go_wp2_with fail
  go_end0
  exact ⟨rfl, H2, HT2.out.1, HT2.out.2.1.trans HT.out.1, HT2.out.2.2.1, HT.out.2.trans HT2.out.2.2.2⟩
end Go.Proofs.YtkihfafkglkjnaaDoor

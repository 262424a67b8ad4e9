/- Contract: large: which blocks are gone over. -/
import Derived.Test.YthnogakjaaopkaaGreatDoorBp9
import Derived.Test.YthnogakjaaopkaaGreatDoorBase
import Derived.Test.YthnogakjaaopkaaGreatDoorVaLb
import Derived.BigQuiet
import Derived.Deep.QuietTactic
namespace Go.Proofs.YthnogakjaaopkaaGreatDoor
open Go.RowKit

/-- Blocks whose kinds, names and values are short, that are few. -/
def Smal (s : Nat) (b : MB) : Prop := b.2.2.length ≤ 80 ∧ min b.2.1.length 10000 ≤ s ∧ ∀ f ∈ b.2.2, min f.2.1.length 10000 ≤ s ∧ min f.2.2.length 10000 ≤ s
theorem Smal.mono {s t : Nat} {b : MB} (h : Smal s b) (hst : s ≤ t) : Smal t b :=
  ⟨h.1, Nat.le_trans h.2.1 hst, fun f hf => ⟨Nat.le_trans (h.2.2 f hf).1 hst, Nat.le_trans (h.2.2 f hf).2 hst⟩⟩
/-- What large answers. -/
def Lrg (L : List MB) (w : World) (e : Ending) (w' : World) : Prop := ∃ B, e = .returned (.bool B) ∧ Below w.heap.size w w' ∧ (B = false → L.length ≤ 60 ∧ ∀ b ∈ L, Smal 9000 b)
set_option maxHeartbeats 4000000 in
set_option maxRecDepth 100000 in
theorem large_any (v : Value) (L : List MB) (w : World) (hl : L.length ≤ 9223372036854775807) (hv : RowB w v L) : Calls Tryz.prog 8 #[v] w (Lrg L w) := by
  obtain ⟨A, c, rfl, hr⟩ := hv.form
  obtain ⟨n, hn⟩ : ∃ n, L.length = n := ⟨_, rfl⟩
  rw [hn] at hr hl ⊢
  have HR := Lib.hid hr
  have HN := Lib.hid hn
  clear hr hn hv
  by_cases h60 : 60 < n
  · have q : (60 : Int) < n := by omega
    clear h60
    go_enter Tryz.func8, Tryz.ntmps8
    go_wp2_with fail
    go_ret
    exact ⟨true, rfl, Below.refl _ _, fun h => by cases h⟩
  have q : ¬ (60 : Int) < n := by omega
  have hn6 : n ≤ 60 := by omega
  clear hl h60
  go_enter Tryz.func8, Tryz.ntmps8
  go_wp2_with fail
  go_loopw [3, 4] (fun t i wr => ∃ a s : Nat, t = .int .i64 s ∧ i = .int .i64 a ∧ a ≤ n ∧ s ≤ a * 1700000 ∧ Below w.heap.size w wr ∧ ∀ b ∈ L.take a, Smal s b) (fun _ i _ => n - (intOf i).toNat)
  case atStart => exact ⟨0, 0, rfl, rfl, Nat.zero_le _, Nat.zero_le _, Below.refl _ _, fun b hb => by simp at hb⟩
  case round =>
    obtain ⟨a, s, rfl, rfl, ha, hs, hbw, hsm⟩ := hrel
    obtain ⟨wo, hwo⟩ : ∃ x, x = wr := ⟨_, rfl⟩
    subst hwo
    have HBw := Lib.hid hbw
    rcases Nat.lt_or_ge a n with hlt | hge
    · have hal : a < L.length := by rw [HN.out]; exact hlt
      obtain ⟨b, hbe⟩ : ∃ b, L[a] = b := ⟨_, rfl⟩
      have hp := (HR.out.below hbw).parts.2.2.2
      obtain ⟨ad, X, vR, rfl, hX, g0, g1, g2, hrf⟩ := hp a hlt b (by rw [List.getElem?_eq_getElem hal, hbe])
      obtain ⟨AR, cR, rfl, hrf'⟩ := hrf.form
      obtain ⟨m, hm⟩ : ∃ m, b.2.2.length = m := ⟨_, rfl⟩
      rw [hm] at g2 hrf'
      have q0 : (0 : Int) ≤ a := by omega
      have q1 : (a : Int) < n := by omega
      obtain ⟨T, hT⟩ : ∃ T, str b.2.1 = T := ⟨_, rfl⟩
      obtain ⟨kl, hkl⟩ : ∃ x, b.2.1.length = x := ⟨_, rfl⟩
      have hts : T.size = kl := by rw [← hT, ← hkl]; rfl
      rw [hT] at g1
      have HZ := Lib.hid (And.intro hbe (And.intro hm (And.intro hkl (And.intro hsm (And.intro hal hrf')))))
      clear hT hkl hsm hrf hrf' hp hbe g0 hbw
      by_cases h80 : 80 < m
      · have p : (80 : Int) < m := by omega
        clear HZ h80 hm
        go_wp2_with fail
        go_ret
        exact ⟨true, rfl, HBw.out, fun h => by cases h⟩
      · have p : ¬ (80 : Int) < m := by omega
        have hm8 : m ≤ 80 := by omega
        obtain ⟨km, hkm⟩ : ∃ km : Nat, min kl 10000 = km := ⟨_, rfl⟩
        have hmi : min (kl : Int) 10000 = (km : Int) := by omega
        have hkm1 : km ≤ 10000 := by omega
        have hs1 : s ≤ 102000000 := by omega
        have HKm := Lib.hid hkm
        clear h80 hm hkm
        go_wp2_with fail
        go_loopw [3, 5] (fun t i w2 => ∃ k s2 : Nat, t = .int .i64 s2 ∧ i = .int .i64 k ∧ k ≤ m ∧ s + km ≤ s2 ∧ s2 ≤ s + km + k * 20000 ∧ Below wo.heap.size wo w2 ∧ ∀ f ∈ b.2.2.take k, min f.2.1.length 10000 ≤ s2 ∧ min f.2.2.length 10000 ≤ s2) (fun _ i _ => m - (intOf i).toNat)
        case atStart => exact ⟨0, s + km, by go_num, rfl, Nat.zero_le _, Nat.le_refl _, by omega, Below.refl _ _, fun f hf => by simp at hf⟩
        case round =>
          obtain ⟨k, s2, rfl, rfl, hk, hs3, hs4, hb2, hfs⟩ := hrel
          have HB2 := Lib.hid hb2
          have k2 := cell9_below g2 hb2
          have p0 : (0 : Int) ≤ k := by omega
          have HS := Lib.hid hfs
          clear hfs
          rcases Nat.lt_or_ge k m with hkm | hkm
          · have p1 : (k : Int) < m := by omega
            have hq := (HZ.out.2.2.2.2.2.below hb2).parts.2.2.2
            have hkl2 : k < b.2.2.length := by rw [HZ.out.2.1]; exact hkm
            obtain ⟨f, hf⟩ : ∃ f, b.2.2[k] = f := ⟨_, rfl⟩
            obtain ⟨ad2, X2, rfl, hX2, f0, f1, f2⟩ := hq k hkm f (by rw [List.getElem?_eq_getElem hkl2, hf])
            obtain ⟨N1, hN1⟩ : ∃ x, str f.2.1 = x := ⟨_, rfl⟩
            obtain ⟨N2, hN2⟩ : ∃ x, str f.2.2 = x := ⟨_, rfl⟩
            obtain ⟨x1, hx1⟩ : ∃ x, f.2.1.length = x := ⟨_, rfl⟩
            obtain ⟨x2, hx2⟩ : ∃ x, f.2.2.length = x := ⟨_, rfl⟩
            have e1 : N1.size = x1 := by rw [← hN1, ← hx1]; rfl
            have e2 : N2.size = x2 := by rw [← hN2, ← hx2]; rfl
            rw [hN1] at f1
            rw [hN2] at f2
            obtain ⟨m1, hm1⟩ : ∃ m1 : Nat, min x1 10000 = m1 := ⟨_, rfl⟩
            obtain ⟨m2, hm2⟩ : ∃ m2 : Nat, min x2 10000 = m2 := ⟨_, rfl⟩
            have hmi1 : min (x1 : Int) 10000 = (m1 : Int) := by omega
            have hmi2 : min (x2 : Int) 10000 = (m2 : Int) := by omega
            have hm1' : m1 ≤ 10000 := by omega
            have hm2' : m2 ≤ 10000 := by omega
            have hs5 : s2 ≤ 104000000 := by omega
            have HF := Lib.hid (And.intro hf (And.intro hx1 (And.intro hx2 (And.intro hm1 (And.intro hm2 hkl2)))))
            clear hq hN1 hN2 hx1 hx2 hm1 hm2 f0 hf hs hmi hb2 g1 g2
            go_wp2_with fail
            go_quiet (fail)
            go_wp2_with fail
            refine ⟨⟨k + 1, s2 + m1 + m2, by go_num, by go_num, hkm, by omega, by omega, HB2.out.trans (below_dr _ _), fun f' hf' => ?_⟩, by simp [intOf]; omega⟩
            rw [List.take_succ_eq_append_getElem HF.out.2.2.2.2.2, HF.out.1] at hf'
            rcases List.mem_append.1 hf' with h | h
            · have := HS.out f' h
              omega
            · rw [List.mem_singleton.1 h, HF.out.2.1, HF.out.2.2.1, HF.out.2.2.2.1, HF.out.2.2.2.2.1]
              omega
          · obtain rfl : k = m := by omega
            have p1 : ¬ ((k : Int) < k) := by omega
            clear hmi hb2 g1 g2
            go_wp2_with fail
            refine ⟨⟨a + 1, s2, by go_num, by go_num, hlt, by omega, HBw.out.trans (HB2.out.mono HBw.out.size), fun b' hb' => ?_⟩, by simp [intOf]; omega⟩
            rw [List.take_succ_eq_append_getElem HZ.out.2.2.2.2.1, HZ.out.1] at hb'
            rcases List.mem_append.1 hb' with h | h
            · exact (HZ.out.2.2.2.1 b' h).mono (by omega)
            · rw [List.mem_singleton.1 h]
              refine ⟨by rw [HZ.out.2.1]; exact hm8, by rw [HZ.out.2.2.1, HKm.out]; omega, fun f hf => HS.out f ?_⟩
              rw [List.take_of_length_le (by rw [HZ.out.2.1]; exact Nat.le_refl _)]
              exact hf
    · obtain rfl : a = n := by omega
      have q1 : ¬ ((a : Int) < a) := by omega
      have HS := Lib.hid hsm
      clear hsm hbw
      by_cases h9 : 9000 < s
      · have d : (9000 : Int) < s := by omega
        go_wp2_with fail
        go_ret
        exact ⟨true, rfl, HBw.out, fun h => by cases h⟩
      · have d : ¬ (9000 : Int) < s := by omega
        go_wp2_with fail
        go_ret
        refine ⟨false, rfl, HBw.out, fun _ => ⟨by rw [HN.out]; exact hn6, fun b hb => (HS.out b ?_).mono (by omega)⟩⟩
        rw [List.take_of_length_le (by rw [HN.out]; exact Nat.le_refl _)]
        exact hb
end Go.Proofs.YthnogakjaaopkaaGreatDoor

/- Contract: single: blocks that have each name once. -/
import Derived.Test.YthnogakjaaopkaaGreatDoorBrU
import Derived.Test.YthnogakjaaopkaaGreatDoorIhNn
namespace Go.Proofs.YthnogakjaaopkaaGreatDoor
open Go.RowKit

/-- Each name stands where it is found. -/
def Sgl (b : MB) : Prop := ∀ (k : Nat) (f : MF), b.2.2[k]? = some f → fndN f.2.1 b.2.2 0 = (k : Int)
/-- What single answers. -/
def SiE (l : List MB) (w : World) (e : Ending) (w' : World) : Prop := ∃ B, e = .returned (.bool B) ∧ Below w.heap.size w w' ∧ (B = true → ∀ b ∈ l, Sgl b)
set_option maxHeartbeats 2000000 in
set_option maxRecDepth 100000 in
theorem single_any (v : Value) (l : List MB) (w : World) (hl : l.length ≤ 1000) (hf : ∀ b ∈ l, b.2.2.length ≤ 1000) (hv : RowB w v l) : Calls Tryz.prog 9 #[v] w (SiE l w) := by
  obtain ⟨A, c, rfl, hr⟩ := hv.form
  obtain ⟨n, hn⟩ : ∃ n, l.length = n := ⟨_, rfl⟩
  rw [hn] at hr hl ⊢
  have HR := Lib.hid (And.intro hr (And.intro hn hf))
  clear hr hv hn hf
  go_enter Tryz.func9, Tryz.ntmps9
  go_wp2_with fail
  go_loopw [3] (fun iv wr => ∃ i : Nat, iv = .int .i64 i ∧ i ≤ n ∧ (∀ b ∈ l.take i, Sgl b) ∧ Below w.heap.size w wr) (fun iv _ => n - (intOf iv).toNat)
  case atStart => exact ⟨0, rfl, Nat.zero_le _, fun b hb => by simp at hb, Below.refl _ _⟩
  case round =>
    obtain ⟨i, rfl, hi, hs, hb⟩ := hrel
    have HB := Lib.hid (And.intro hs hb)
    rcases Nat.lt_or_ge i n with hlt | hge
    · have q0 : (0 : Int) ≤ i := by omega
      have q1 : (i : Int) < n := by omega
      have hil : i < l.length := by rw [HR.out.2.1]; exact hlt
      obtain ⟨ad, X, vF, rfl, hX, k0, k1, k2, hrf⟩ := (HR.out.1.below hb).parts.2.2.2 i hlt l[i] (List.getElem?_eq_getElem hil)
      obtain ⟨b, hbk⟩ : ∃ b, l[i] = b := ⟨_, rfl⟩
      have hfl := HR.out.2.2 l[i] (List.getElem_mem hil)
      have htk : l.take (i + 1) = l.take i ++ [b] := by rw [List.take_succ_eq_append_getElem hil, hbk]
      rw [hbk] at hrf hfl k0 k1
      obtain ⟨AF, cF, rfl, hrF⟩ := hrf.form
      obtain ⟨m, hm⟩ : ∃ m, b.2.2.length = m := ⟨_, rfl⟩
      rw [hm] at k2 hrF hfl
      have HF := Lib.hid (And.intro hrF (And.intro hm htk))
      obtain ⟨w2, hw2⟩ : ∃ w2, w2 = wr := ⟨_, rfl⟩
      subst hw2
      obtain ⟨KB, hKB⟩ : ∃ x, str b.2.1 = x := ⟨_, rfl⟩
      rw [hKB] at k1
      have HC2 : Hid (∀ W, Below w2.heap.size w2 W → W.cell? X = some (.int .i64 b.1) ∧ W.cell? { block := X.block, off := X.off + 1 } = some (.string KB) ∧ W.cell? { block := X.block, off := X.off + 2 } = some (.slice AF m cF)) := fun W h => ⟨cell9_below k0 h, cell9_below k1 h, cell9_below k2 h⟩
      clear hs hb hbk hrf hrF hm hil k0 k1 k2 htk hKB
      go_wp2_with fail
      go_loopw [4] (fun kv wr => ∃ k : Nat, kv = .int .i64 k ∧ k ≤ m ∧ (∀ j f, j < k → b.2.2[j]? = some f → fndN f.2.1 b.2.2 0 = (j : Int)) ∧ Below w2.heap.size w2 wr) (fun kv _ => m - (intOf kv).toNat)
      case atStart => exact ⟨0, rfl, Nat.zero_le _, fun j f hj => by omega, Below.refl _ _⟩
      case round =>
        obtain ⟨k, rfl, hk, hsk, hb2⟩ := hrel
        have HK := Lib.hid (And.intro hsk hb2)
        obtain ⟨c0, c1, c2⟩ := HC2.out _ hb2
        have HBB := Lib.hid (HB.out.2.trans (hb2.mono HB.out.2.size))
        rcases Nat.lt_or_ge k m with hlk | hgk
        · have q2 : (0 : Int) ≤ k := by omega
          have q3 : (k : Int) < m := by omega
          have hkl : k < b.2.2.length := by rw [HF.out.2.1]; exact hlk
          obtain ⟨adF, Y, rfl, hY, g0, g1, g2⟩ := (HF.out.1.below hb2).parts.2.2.2 k hlk b.2.2[k] (List.getElem?_eq_getElem hkl)
          have hdr : Below w2.heap.size w2 wr.drew := ⟨hb2.os, hb2.tape, hb2.output, hb2.size, hb2.block⟩
          have HFd := Lib.hid (refFind_any b.1 KB (.slice (some adF) m cF) b.2.2 b.2.2[k].2.1 wr.drew (by rw [HF.out.2.1]; omega) (HF.out.1.below hdr))
          have HL : Hid (fndN b.2.2[k].2.1 b.2.2 0 = (k : Int) → ∀ j f, j < k + 1 → b.2.2[j]? = some f → fndN f.2.1 b.2.2 0 = (j : Int)) := fun h j f hj hf => by
            rcases Nat.lt_succ_iff_lt_or_eq.1 hj with h1 | rfl
            · exact HK.out.1 j f h1 hf
            · rw [List.getElem?_eq_getElem hkl] at hf
              rw [← Option.some.inj hf]
              exact h
          generalize str b.2.2[k].2.1 = S at *
          obtain ⟨z, hz⟩ : ∃ z, fndN b.2.2[k].2.1 b.2.2 0 = z := ⟨_, rfl⟩
          rw [hz] at HFd HL
          have HS := Lib.hid (And.intro c0 (And.intro c1 (And.intro c2 g1)))
          have HSt : Hid (∀ W', Below wr.drew.heap.size wr.drew W' → W'.cell? X = some (.int .i64 b.1) ∧ W'.cell? { block := X.block, off := X.off + 1 } = some (.string KB) ∧ W'.cell? { block := X.block, off := X.off + 2 } = some (.slice (some adF) m cF) ∧ W'.cell? { block := Y.block, off := Y.off + 1 } = some (.string S)) := fun W' h =>
            ⟨cell9_below (w := wr.drew) c0 h, cell9_below (w := wr.drew) c1 h, cell9_below (w := wr.drew) c2 h, cell9_below (w := wr.drew) g1 h⟩
          clear hsk hb2 hkl g0 g2 hz hdr
          go_wp2_with fail
          go_region_held3 (fun W => W.cell? X = some (.int .i64 b.1) ∧ W.cell? { block := X.block, off := X.off + 1 } = some (.string KB) ∧ W.cell? { block := X.block, off := X.off + 2 } = some (.slice (some adF) m cF) ∧ W.cell? { block := Y.block, off := Y.off + 1 } = some (.string S)) (first | exact HS.out | exact HSt.out _ (by assumption)) (first
            | (go_at_call 18
               refine HFd.out.mono ?_
               rintro e w' ⟨rfl, hbt⟩))
          all_goals
            have hbt2 : Below wr.heap.size wr w' := ⟨hbt.os, hbt.tape, hbt.output, hbt.size, hbt.block⟩
            have HBt := Lib.hid (HK.out.2.trans (hbt2.mono HK.out.2.size))
            clear hbt hbt2
            by_cases hzk : z = (k : Int)
            · have HL2 := Lib.hid (HL.out hzk)
              subst hzk
              go_wp2_with fail
              exact ⟨⟨k + 1, by go_num, hlk, HL2.out, HBt.out⟩, by simp [intOf]; omega⟩
            · have e1 : (z == (k : Int)) = false := beq_eq_false_iff_ne.2 hzk
              go_wp2_with fail
              go_ret
              exact ⟨false, rfl, HB.out.2.trans (HBt.out.mono HB.out.2.size), fun h => by cases h⟩
        · obtain rfl : k = m := by omega
          have q3 : ¬ ((k : Int) < k) := by omega
          have HE : Hid (∀ b' ∈ l.take (i + 1), Sgl b') := fun b' hb' => by
            rw [HF.out.2.2] at hb'
            rcases List.mem_append.1 hb' with h | h
            · exact HB.out.1 b' h
            · rw [List.mem_singleton.1 h]
              intro j f hf
              exact HK.out.1 j f (by have := (List.getElem?_eq_some_iff.1 hf).1; rw [HF.out.2.1] at this; exact this) hf
          clear hsk hb2
          go_wp2_with fail
          exact ⟨⟨i + 1, by go_num, hlt, HE.out, HBB.out⟩, by simp [intOf]; omega⟩
    · obtain rfl : i = n := by omega
      have q1 : ¬ ((i : Int) < i) := by omega
      have HE : Hid (∀ b ∈ l, Sgl b) := by
        have h := HB.out.1
        rwa [List.take_of_length_le (by rw [HR.out.2.1]; exact Nat.le_refl _)] at h
      clear hs hb
      go_wp2_with fail
      go_ret
      exact ⟨true, rfl, HB.out.2, fun _ => HE.out⟩
end Go.Proofs.YthnogakjaaopkaaGreatDoor

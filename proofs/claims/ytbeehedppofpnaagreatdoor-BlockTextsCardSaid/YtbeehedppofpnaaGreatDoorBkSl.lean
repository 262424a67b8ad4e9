/- Plain: the sizes of what is read; the same blocks. -/
import Derived.Test.YtbeehedppofpnaaGreatDoorBkTt
import Derived.Test.YtbeehedppofpnaaGreatDoorBkSame
namespace Go.Proofs.YtbeehedppofpnaaGreatDoor
open Go.RowKit

theorem smal9 {b : Bk} (h1 : b.2.1.length ≤ 9000) (h2 : b.2.2.length ≤ 80) (h3 : ∀ f ∈ b.2.2, f.2.1.length ≤ 9000 ∧ f.2.2.length ≤ 9000) : Smal 9000 (iB b) := by
  refine ⟨by show (b.2.2.map iF).length ≤ 80; rw [List.length_map]; exact h2, by show min b.2.1.length 10000 ≤ 9000; omega, fun f hf => ?_⟩
  obtain ⟨g, hg, rfl⟩ := List.mem_map.1 hf
  have := h3 g hg
  show min g.2.1.length 10000 ≤ 9000 ∧ min g.2.2.length 10000 ≤ 9000
  omega
/-- A block that is being read. -/
def Fits (b : Bk) : Prop := b.2.1.length ≤ 32 ∧ b.2.2.length ≤ 64 ∧ ∀ f ∈ b.2.2, f.2.1.length ≤ 32 ∧ f.2.2.length ≤ 4096
theorem word_len {s : Tx} (h : ¬ wordT s = false) : s.length ≤ 32 := (word_facts (by simpa using h)).2.1
theorem prs_fits : ∀ (r : List (Nat × Tx)) (out : List Bk) (cur : Option Bk), (∀ p ∈ r, Solid p.2) → (∀ b ∈ out, Fits b) → (∀ b, cur = some b → Fits b ∧ out.length < 1024) → out.length ≤ 1024 → (prs r out cur).2.2 = 0 → (prs r out cur).1.length ≤ 1024 ∧ ∀ b ∈ (prs r out cur).1, Fits b
  | [], out, none, _, ho, _, hl, _ => ⟨hl, ho⟩
  | [], out, some b, _, _, _, _, h => by cases h
  | p :: r, out, none, hr, ho, hc, hl, h => by
    have hr' : ∀ q ∈ r, Solid q.2 := fun q hq => hr q (by simp [hq])
    rw [prs] at h ⊢
    cases hk : headT p.2 with
    | none => rw [hk] at h; cases h
    | some k =>
      rw [hk] at h
      simp only [] at h ⊢
      split at h
      · cases h
      · rename_i h1
        rw [if_neg h1]
        split at h
        · cases h
        · rename_i h2
          rw [if_neg h2]
          refine prs_fits r out (some (p.1, k, [])) hr' ho (fun b hb => ?_) hl h
          injection hb with hb
          subst hb
          exact ⟨⟨word_len h1, Nat.zero_le _, fun f hf => by cases hf⟩, by omega⟩
  | p :: r, out, some b, hr, ho, hc, hl, h => by
    have hr' : ∀ q ∈ r, Solid q.2 := fun q hq => hr q (by simp [hq])
    obtain ⟨hb, hlt⟩ := hc b rfl
    rw [prs] at h ⊢
    split at h
    · rename_i h1
      rw [if_pos h1]
      refine prs_fits r (out ++ [b]) none hr' (fun c hc => ?_) (fun _ e => by cases e) (by rw [List.length_append]; exact hlt) h
      rcases List.mem_append.1 hc with hc | hc
      · exact ho c hc
      · rw [List.mem_singleton.1 hc]
        exact hb
    · rename_i h1
      rw [if_neg h1]
      split at h
      · cases h
      · rename_i h2
        rw [if_neg h2]
        split at h
        · cases h
        · rename_i h3
          rw [if_neg h3]
          split at h
          · cases h
          · rename_i h4
            rw [if_neg h4]
            split at h
            · cases h
            · rename_i h5
              rw [if_neg h5]
              refine prs_fits r out _ hr' ho (fun c hc => ?_) hl h
              injection hc with hc
              subst hc
              refine ⟨⟨hb.1, ?_, fun f hf => ?_⟩, hlt⟩
              · show (b.2.2 ++ [_]).length ≤ 64
                rw [List.length_append, List.length_cons, List.length_nil]
                omega
              · rcases List.mem_append.1 hf with hf | hf
                · exact hb.2.2 f hf
                · rw [List.mem_singleton.1 hf]
                  have hs := hr p (by simp)
                  refine ⟨word_len h3, ?_⟩
                  exact Nat.le_trans (trim_len _) (Nat.le_trans (snd_len _) hs.2.2)
theorem parse_fits (l : Tx) (h : (parseT l).2.2 = 0) : ((parseT l).1.map iB).length ≤ 1024 ∧ ∀ b ∈ (parseT l).1.map iB, Smal 9000 b := by
  have hk : (parseT l).1.length ≤ 1024 ∧ ∀ b ∈ (parseT l).1, Fits b := by
    unfold parseT at h ⊢
    split at h
    · rename_i h1
      exact absurd h h1
    · rename_i h1
      rw [if_neg h1]
      exact prs_fits _ [] none (ans_solid l) (fun b hb => by cases hb) (fun _ e => by cases e) (Nat.zero_le _) h
  refine ⟨by rw [List.length_map]; exact hk.1, fun b hb => ?_⟩
  obtain ⟨c, hc, rfl⟩ := List.mem_map.1 hb
  obtain ⟨f1, f2, f3⟩ := hk.2 c hc
  exact smal9 (by omega) (by omega) fun f hf => by have := f3 f hf; omega
theorem textT_len {l : List Bk} {t : Tx} {k : Nat} (h : textT l = (t, k)) : t.length ≤ 65536 := by
  have : (textT l).1.length ≤ 65536 := by
    unfold textT
    split; · exact Nat.zero_le _
    split; · exact Nat.zero_le _
    split; · exact Nat.zero_le _
    split; · exact Nat.zero_le _
    split; · exact Nat.zero_le _
    split
    · exact Nat.zero_le _
    · rename_i h1
      have := fun x => h1 (.inr x)
      show (textB l).length ≤ 65536
      omega
  rw [h] at this
  exact this
/-- The same blocks, but for where they stand. -/
theorem sm_sam (A : List Bk) (L : List MB) (h : samB A = samB (L.map zB)) : Sm false (A.map iB) L := by
  have hl : A.length = L.length := by
    have := congrArg List.length h
    unfold samB at this
    simpa using this
  refine ⟨by rw [List.length_map]; exact hl, fun i b1 b2 h1 h2 => ?_⟩
  rw [List.getElem?_map] at h1
  obtain ⟨c, hc, rfl⟩ := Option.map_eq_some_iff.1 h1
  have hi := congrArg (fun X => X[i]?) h
  unfold samB at hi
  simp only [List.getElem?_map, hc, h2, Option.map_some, Option.some.injEq, Prod.mk.injEq] at hi
  obtain ⟨e1, e2⟩ := hi
  have e2' : c.2.2.map (fun f => f.2) = b2.2.2.map (fun f => f.2) := by
    rw [e2]
    show (b2.2.2.map zF).map _ = _
    rw [List.map_map]
    rfl
  refine ⟨e1, fun h => absurd h Bool.false_ne_true, ?_, fun k f1 f2 g1 g2 => ⟨?_, fun h => absurd h Bool.false_ne_true⟩⟩
  · have := congrArg List.length e2'
    show (c.2.2.map iF).length = _
    simpa using this
  · have g1' : (c.2.2.map iF)[k]? = some f1 := g1
    rw [List.getElem?_map] at g1'
    obtain ⟨g, hg, rfl⟩ := Option.map_eq_some_iff.1 g1'
    have := congrArg (fun X => X[k]?) e2'
    simp only [List.getElem?_map, hg, g2, Option.map_some, Option.some.injEq] at this
    exact this
end Go.Proofs.YtbeehedppofpnaaGreatDoor

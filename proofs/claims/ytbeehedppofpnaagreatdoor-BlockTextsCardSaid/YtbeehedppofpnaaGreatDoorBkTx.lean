/- Layer 9, plain: how a line is parted; names that stand twice; values that can't be told: of no program. -/
import Derived.Test.YtbeehedppofpnaaGreatDoorBkMath
namespace Go.Proofs.YtbeehedppofpnaaGreatDoor

/-- A line as layer 8 tells it. -/
def Solid (t : Tx) : Prop := t ≠ [] ∧ trim t = t ∧ t.length ≤ 4096
theorem said_trim (l : Tx) : trim (said l) = said l := by
  unfold said
  split
  · rfl
  · exact trim_trim _
theorem scan_solid : ∀ (r acc : List (Nat × Tx)), (∀ p ∈ acc, Solid p.2) → ∀ p ∈ (scan acc r).1, Solid p.2
  | [], acc, h => by rw [scan]; exact h
  | q :: r, acc, h => by
    rw [scan]
    split
    · intro p hp
      cases hp
    · rename_i h1
      split
      · exact scan_solid r acc h
      · rename_i h2
        refine scan_solid r _ fun p hp => ?_
        rcases List.mem_append.1 hp with hp | hp
        · exact h p hp
        · rw [List.mem_singleton.1 hp]
          exact ⟨h2, said_trim _, Nat.le_of_not_lt h1⟩
theorem ans_solid (l : Tx) : ∀ p ∈ (ans l).1, Solid p.2 := by
  unfold ans
  split
  · intro p hp
    cases hp
  · exact scan_solid _ [] fun p hp => by cases hp
theorem solid_head {t : Tx} (h : trim t = t) : t.head?.any blk = false := by
  cases t with
  | nil => rfl
  | cons x r =>
    cases hx : blk x
    · simpa using hx
    · have e : trim (x :: r) = trim r := by unfold trim; rw [ldr_cons, hx, if_pos rfl]
      have h1 := trim_len r
      rw [← e, h] at h1
      simp at h1
      omega
theorem solid_last {t : Tx} (h : trim t = t) : t.getLast?.any blk = false := by
  rcases List.eq_nil_or_concat t with rfl | ⟨r, x, rfl⟩
  · rfl
  · rw [List.concat_eq_append] at h ⊢
    rw [List.getLast?_concat]
    cases hx : blk x
    · simpa using hx
    · have e : trim (r ++ [x]) = trim r := by
        show rdr (ldr (r ++ [x])) = rdr (ldr r)
        rw [trim_comm, trim_comm, rdr_snoc, hx, if_pos rfl]
      have h1 := trim_len r
      rw [← e, h] at h1
      simp at h1
      omega
theorem fst_snd (t : Tx) : fst9 t ++ snd9 t = t := List.takeWhile_append_dropWhile
theorem fst_no (t : Tx) : ∀ c ∈ fst9 t, blk c = false := fun c hc => by
  have := mem_tw hc
  simpa using this
theorem snd_head (t : Tx) : snd9 t = [] ∨ ∃ x r, snd9 t = x :: r ∧ blk x = true := by
  unfold snd9
  induction t with
  | nil => exact .inl rfl
  | cons x r ih =>
    cases hx : blk x
    · rw [List.dropWhile_cons, if_pos (by rw [hx]; rfl)]
      exact ih
    · rw [List.dropWhile_cons, if_neg (by rw [hx]; simp)]
      exact .inr ⟨x, r, rfl, hx⟩
theorem snd_drop (t : Tx) : t.drop (fst9 t).length = snd9 t := by
  have h := congrArg (List.drop (fst9 t).length) (fst_snd t)
  rw [List.drop_left] at h
  exact h.symm
theorem fst_len (t : Tx) : (fst9 t).length ≤ t.length := (List.takeWhile_prefix _).length_le
theorem last_app (a : Tx) {b : Tx} (h : b ≠ []) : (a ++ b).getLast? = b.getLast? := by
  rcases List.eq_nil_or_concat b with rfl | ⟨r, x, rfl⟩
  · exact absurd rfl h
  · rw [List.concat_eq_append, ← List.append_assoc, List.getLast?_concat, List.getLast?_concat]
/-- What stands behind the first word, without the blanks ahead of it. -/
theorem snd_last {t : Tx} (h : Solid t) (hne : snd9 t ≠ []) : (snd9 t).getLast? = t.getLast? := by
  conv => rhs; rw [← fst_snd t]
  rw [last_app _ hne]
theorem blk_last {l : Tx} (h : ∀ x ∈ l, blk x = true) (hne : l ≠ []) : l.getLast?.any blk = true := by
  rw [List.getLast?_eq_some_getLast hne]
  exact h _ (List.getLast_mem hne)
theorem snd_trim {t : Tx} (h : Solid t) : trim (snd9 t) = [] ↔ snd9 t = [] := by
  refine ⟨fun h1 => Classical.byContradiction fun hne => ?_, fun h1 => by rw [h1]; rfl⟩
  obtain ⟨a, b, e, ha, hb⟩ := trim_split (snd9 t)
  rw [h1, List.append_nil] at e
  have h2 := blk_last (l := snd9 t) (fun x hx => by rw [e] at hx; rcases List.mem_append.1 hx with hx | hx; exact ha x hx; exact hb x hx) hne
  rw [snd_last h hne, solid_last h.2.1] at h2
  cases h2
theorem fst_ne {t : Tx} (h : Solid t) : fst9 t ≠ [] := by
  intro e
  rcases t with _ | ⟨x, r⟩
  · exact h.1 rfl
  · have hx := solid_head h.2.1
    have hx' : blk x = false := by simpa using hx
    unfold fst9 at e
    rw [List.takeWhile_cons, if_pos (by rw [hx']; rfl)] at e
    cases e
theorem wds_fst {t : Tx} (h : Solid t) : ∃ r, wds t [] = fst9 t :: r := by
  have e : wds t [] = wds (snd9 t) (fst9 t) := by
    conv => lhs; rw [← fst_snd t]
    rw [wds_skip _ _ _ (fst_no t), List.nil_append]
  rw [e]
  rcases snd_head t with h1 | ⟨x, r, h1, hx⟩
  · rw [h1, wds, if_neg (fst_ne h)]
    exact ⟨[], rfl⟩
  · rw [h1, wds, hx, if_pos rfl, if_neg (fst_ne h)]
    exact ⟨_, rfl⟩
/-- The kind that the program finds in a begin; none: empty. -/
def kindP (t : Tx) : Tx := if fst9 t = defineT ∧ (trim (snd9 t)).getLast? = some 123 then trim ((trim (snd9 t)).dropLast) else []
theorem ldr_head (l : Tx) : (ldr l).head?.any blk = false := by
  unfold ldr
  induction l with
  | nil => rfl
  | cons x r ih =>
    rw [List.dropWhile_cons]
    cases hx : blk x
    · rw [if_neg (by simp)]
      simpa using hx
    · rw [if_pos rfl]
      exact ih
theorem head_kind {t : Tx} (h : Solid t) : headT t = if kindP t = [] then none else some (kindP t) := by
  by_cases hd : fst9 t = defineT
  · have ht : t = defineT ++ snd9 t := by conv => lhs; rw [← fst_snd t, hd]
    rcases snd_head t with h1 | ⟨x, r, h1, hx⟩
    · have hk : kindP t = [] := by
        unfold kindP
        rw [h1, if_neg]
        rintro ⟨_, h2⟩
        cases h2
      rw [hk, if_pos rfl]
      unfold headT
      rw [if_neg]
      rintro ⟨h2, _⟩
      rw [ht, h1] at h2
      exact absurd h2 (by decide)
    · have hne : snd9 t ≠ [] := by rw [h1]; simp
      have hlast := snd_last h hne
      have hsolid := solid_last h.2.1
      obtain ⟨bl, e1, hbl⟩ := ldr_split (snd9 t)
      have hu : ldr (snd9 t) ≠ [] := by
        intro h2
        rw [h2, List.append_nil] at e1
        have h3 := blk_last (l := snd9 t) (fun y hy => hbl y (by rw [← e1]; exact hy)) hne
        rw [hlast, hsolid] at h3
        cases h3
      have hul : (ldr (snd9 t)).getLast? = t.getLast? := by
        rw [← hlast]
        conv => rhs; rw [e1]
        rw [last_app _ hu]
      have hus : trim (ldr (snd9 t)) = ldr (snd9 t) := trim_solid (ldr_head _) (by rw [hul]; exact hsolid)
      have htr : trim (snd9 t) = ldr (snd9 t) := by
        have := trim_pad bl (ldr (snd9 t)) [] hbl (by simp)
        rw [List.append_nil, ← e1] at this
        rw [this, hus]
      have hdl : trim ((snd9 t).dropLast) = trim ((ldr (snd9 t)).dropLast) := by
        conv => lhs; rw [e1]
        rw [List.dropLast_append_of_ne_nil hu]
        have := trim_pad bl (ldr (snd9 t)).dropLast [] hbl (by simp)
        rw [List.append_nil] at this
        exact this
      have hbn : bl ≠ [] := by
        intro h2
        have h3 := ldr_head (snd9 t)
        rw [h2, List.nil_append] at e1
        rw [← e1, h1] at h3
        simp [hx] at h3
      have t6 : t.take 6 = defineT := by rw [ht]; rfl
      have d6 : t.drop 6 = snd9 t := by
        conv => lhs; rw [ht]
        rfl
      have hb : (t.drop 6).head?.any blk = true := by rw [d6, h1]; simpa using hx
      unfold headT kindP
      rw [htr, hul, d6, hdl]
      by_cases hl : t.getLast? = some 123
      · have hcond : fst9 t = defineT ∧ t.getLast? = some 123 := ⟨hd, hl⟩
        rw [if_pos hcond]
        by_cases hK : trim ((ldr (snd9 t)).dropLast) = []
        · rw [if_pos hK]
          split <;> rfl
        · have hv : (ldr (snd9 t)).dropLast ≠ [] := fun h2 => hK (by rw [h2]; rfl)
          have l1 := List.length_pos_iff.2 hv
          have l2 := List.length_pos_iff.2 hbn
          rw [List.length_dropLast] at l1
          have l3 := congrArg List.length e1
          have l4 := congrArg List.length ht
          rw [List.length_append] at l3 l4
          have l5 : defineT.length = 6 := rfl
          rw [d6] at hb
          rw [if_neg hK, if_pos ⟨by omega, t6, hb, hl⟩]
      · have hn : ¬ (fst9 t = defineT ∧ t.getLast? = some 123) := fun h2 => hl h2.2
        rw [if_neg hn, if_pos rfl, if_neg fun h2 => hl h2.2.2.2]
  · have hk : kindP t = [] := by unfold kindP; rw [if_neg fun h2 => hd h2.1]
    rw [hk, if_pos rfl]
    unfold headT
    rw [if_neg]
    rintro ⟨_, h2, h3, _⟩
    apply hd
    have e : t = defineT ++ t.drop 6 := by
      conv => lhs; rw [← List.take_append_drop 6 t, h2]
    rw [e]
    refine (wspan defineT (t.drop 6) (by decide) ?_).1
    cases hq : t.drop 6 with
    | nil => exact .inl rfl
    | cons x r =>
      rw [hq] at h3
      exact .inr ⟨x, r, rfl, by simpa using h3⟩
theorem kind_len (t : Tx) : (kindP t).length ≤ t.length := by
  unfold kindP
  split
  · refine Nat.le_trans (trim_len _) ?_
    rw [List.length_dropLast]
    have h1 := trim_len (snd9 t)
    have h2 : (snd9 t).length ≤ t.length := (List.dropWhile_suffix _).length_le
    omega
  · exact Nat.zero_le _
theorem snd_len (t : Tx) : (snd9 t).length ≤ t.length := (List.dropWhile_suffix _).length_le
/-! Names that stand twice. -/
theorem twice_snoc : ∀ (l : List Fd) (f : Fd), twice (l ++ [f]) = (twice l || l.any fun g => g.2.1 == f.2.1)
  | [], f => by simp [twice]
  | g :: l, f => by
    rw [List.cons_append, twice, twice, twice_snoc l f, List.any_append, List.any_cons, List.any_cons]
    simp only [List.any_nil, Bool.or_false]
    have e : (f.2.1 == g.2.1) = (g.2.1 == f.2.1) := Bool.beq_comm
    rw [e]
    cases l.any (fun x => x.2.1 == g.2.1) <;> cases twice l <;> cases (g.2.1 == f.2.1) <;> rfl
theorem twice_app : ∀ (a b : List Fd), twice a = true → twice (a ++ b) = true
  | g :: a, b, h => by
    rw [List.cons_append]
    rw [twice] at h ⊢
    rw [Bool.or_eq_true] at h ⊢
    rcases h with h | h
    · exact .inl (by rw [List.any_append, h]; rfl)
    · exact .inr (twice_app a b h)
theorem twice_take (l : List Fd) (k : Nat) (hk : k < l.length) : twice (l.take (k + 1)) = (twice (l.take k) || (l.take k).any fun g => g.2.1 == l[k].2.1) := by
  rw [List.take_succ_eq_append_getElem hk, twice_snoc]
theorem twice_hit (l : List Fd) (k : Nat) (hk : k < l.length) (h : (l.take k).any (fun g => g.2.1 == l[k].2.1) = true) : twice l = true := by
  have := twice_app (l.take (k + 1)) (l.drop (k + 1)) (by rw [twice_take l k hk, h, Bool.or_true])
  rwa [List.take_append_drop] at this
/-! Values. -/
theorem goes_last9 (v : Tx) : goes v = (v.getLast? == some 92) := rfl
theorem badV_split (f : Fd) : badV f = (f.2.2.any (fun c => c == 10 || c == 59) || f.2.1 == defineT || goes f.2.2 || decide (trim f.2.2 ≠ f.2.2)) := by
  unfold badV
  have e : (f.2.2.head?.any blk || f.2.2.getLast?.any blk) = decide (trim f.2.2 ≠ f.2.2) := by
    by_cases h : trim f.2.2 = f.2.2
    · rw [solid_head h, solid_last h, decide_eq_false (by simpa using h)]
      rfl
    · rw [decide_eq_true h]
      cases h1 : f.2.2.head?.any blk
      · cases h2 : f.2.2.getLast?.any blk
        · exact absurd (trim_solid h1 h2) h
        · rfl
      · rfl
  rw [← e]
  simp only [Bool.or_assoc]
end Go.Proofs.YtbeehedppofpnaaGreatDoor

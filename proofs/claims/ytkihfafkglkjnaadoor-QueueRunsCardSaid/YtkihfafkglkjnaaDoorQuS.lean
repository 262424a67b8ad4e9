/- Plain: lists of events that stand in their order, one of a kind and id. -/
import Derived.Test.YtkihfafkglkjnaaDoorQuM
namespace Go.Proofs.YtkihfafkglkjnaaDoor

theorem ahE_iff {a b : Ev} : ahE a b = true ↔ a.1 < b.1 ∨ (a.1 = b.1 ∧ (a.2.1 < b.2.1 ∨ (a.2.1 = b.2.1 ∧ a.2.2 < b.2.2))) := by
  unfold ahE
  simp
theorem ahE_trans {a b c : Ev} (h1 : ahE a b = true) (h2 : ahE b c = true) : ahE a c = true := by
  rw [ahE_iff] at h1 h2 ⊢
  omega
theorem ahE_irr (a : Ev) : ahE a a = false := by
  cases h : ahE a a with
  | false => rfl
  | true => rw [ahE_iff] at h; omega
theorem ahE_asym {a b : Ev} (h : ahE a b = true) : ahE b a = false := by
  cases h2 : ahE b a with
  | false => rfl
  | true =>
    have := ahE_trans h h2
    rw [ahE_irr] at this
    cases this
theorem ahE_tot {a b : Ev} (h1 : ahE a b = false) (h2 : a ≠ b) : ahE b a = true := by
  obtain ⟨a1, a2, a3⟩ := a
  obtain ⟨b1, b2, b3⟩ := b
  have h3 : ¬ (ahE (a1, a2, a3) (b1, b2, b3) = true) := by rw [h1]; decide
  rw [ahE_iff] at h3 ⊢
  dsimp only at h3 ⊢
  have h4 : ¬ (a1 = b1 ∧ a2 = b2 ∧ a3 = b3) := fun ⟨e1, e2, e3⟩ => h2 (by rw [e1, e2, e3])
  omega
/-- In order; one of a kind and id. -/
structure SrE (L : List Ev) : Prop where
  srt : L.Pairwise fun a b => ahE a b = true
  key : L.Pairwise fun a b => a.2 ≠ b.2
theorem SrE.nil : SrE [] := ⟨List.Pairwise.nil, List.Pairwise.nil⟩
theorem SrE.sub {L M : List Ev} (h : SrE L) (hs : M.Sublist L) : SrE M := ⟨h.srt.sublist hs, h.key.sublist hs⟩
theorem wioE_sub (L : List Ev) (j : Nat) : (wioE L j).Sublist L := by
  unfold wioE
  have h := (List.Sublist.refl (L.take j)).append (List.drop_sublist_drop_left L (Nat.le_succ j))
  rwa [List.take_append_drop] at h
theorem cutE_at : ∀ (e : Ev) (L : List Ev), (∀ x ∈ L.take (cutE e L), ahE x e = true) ∧ (∀ x, L[cutE e L]? = some x → ahE x e = false)
  | e, [] => ⟨fun x hx => by simp at hx, fun x hx => by simp at hx⟩
  | e, y :: r => by
    obtain ⟨h1, h2⟩ := cutE_at e r
    unfold cutE
    by_cases h : ahE y e = true
    · rw [if_pos h]
      refine ⟨fun x hx => ?_, fun x hx => h2 x (by simpa using hx)⟩
      rw [List.take_succ_cons] at hx
      rcases List.mem_cons.1 hx with rfl | hx
      · exact h
      · exact h1 x hx
    · rw [if_neg h]
      refine ⟨fun x hx => by simp at hx, fun x hx => ?_⟩
      have : y = x := by simpa using hx
      rw [← this]
      simpa using h
theorem keyB_iff {k i : Int} {e : Ev} : keyB k i e = true ↔ e.2 = (k, i) := by
  obtain ⟨a, b, c⟩ := e
  unfold keyB
  simp
theorem insE_mem {e x : Ev} {L : List Ev} : x ∈ insE e L ↔ x = e ∨ x ∈ L := by
  unfold insE
  rw [List.mem_append, List.mem_cons]
  conv => rhs; rw [← List.take_append_drop (cutE e L) L, List.mem_append]
  constructor
  · rintro (h | h | h)
    · exact .inr (.inl h)
    · exact .inl h
    · exact .inr (.inr h)
  · rintro (h | h | h)
    · exact .inr (.inl h)
    · exact .inl h
    · exact .inr (.inr h)
theorem SrE.ins {L : List Ev} (h : SrE L) {e : Ev} (hk : ∀ x ∈ L, x.2 ≠ e.2) : SrE (insE e L) := by
  obtain ⟨h1, h2⟩ := cutE_at e L
  have htd := h.srt
  have hkd := h.key
  rw [← List.take_append_drop (cutE e L) L] at htd hkd
  rw [List.pairwise_append] at htd hkd
  have hdr : ∀ y ∈ L.drop (cutE e L), ahE e y = true := fun y hy => by
    obtain ⟨j, hj, ej⟩ := List.mem_iff_getElem.1 hy
    rw [List.length_drop] at hj
    have hc : cutE e L < L.length := by omega
    have h3 := h2 L[cutE e L] (List.getElem?_eq_getElem hc)
    have hne : L[cutE e L] ≠ e := fun e2 => hk _ (List.getElem_mem hc) (by rw [e2])
    have h4 := ahE_tot h3 hne
    rw [List.getElem_drop] at ej
    by_cases h0 : j = 0
    · subst h0
      rw [← ej]
      exact h4
    · have h5 := List.pairwise_iff_getElem.1 h.srt (cutE e L) (cutE e L + j) hc (by omega) (by omega)
      rw [← ej]
      exact ahE_trans h4 h5
  refine ⟨?_, ?_⟩
  · unfold insE
    rw [List.pairwise_append]
    refine ⟨htd.1, List.pairwise_cons.2 ⟨hdr, htd.2.1⟩, fun a ha b hb => ?_⟩
    rcases List.mem_cons.1 hb with rfl | hb
    · exact h1 a ha
    · exact htd.2.2 a ha b hb
  · unfold insE
    rw [List.pairwise_append]
    refine ⟨hkd.1, List.pairwise_cons.2 ⟨fun b hb e2 => hk b (List.mem_of_mem_drop hb) e2.symm, hkd.2.1⟩, fun a ha b hb => ?_⟩
    rcases List.mem_cons.1 hb with rfl | hb
    · exact hk a (List.mem_of_mem_take ha)
    · exact hkd.2.2 a ha b hb
theorem wioE_mem {L : List Ev} {k i : Int} {j : Nat} (h : SrE L) (hj : fdE k i L 0 = j) {x : Ev} : x ∈ wioE L j ↔ x ∈ L ∧ x.2 ≠ (k, i) := by
  obtain ⟨e, h1, h2⟩ := fdE_at hj
  have hke := keyB_iff.1 h2
  obtain ⟨hl, eq⟩ := List.getElem?_eq_some_iff.1 h1
  have hsplit : L = L.take j ++ L[j] :: L.drop (j + 1) := by rw [List.getElem_cons_drop, List.take_append_drop]
  have hk := h.key
  rw [hsplit, List.pairwise_append] at hk
  obtain ⟨_, hk2, hk3⟩ := hk
  have hk4 := (List.pairwise_cons.1 hk2).1
  unfold wioE
  rw [List.mem_append]
  constructor
  · rintro (hx | hx)
    · refine ⟨List.mem_of_mem_take hx, fun e2 => hk3 x hx L[j] List.mem_cons_self ?_⟩
      rw [e2, eq, hke]
    · refine ⟨List.mem_of_mem_drop hx, fun e2 => hk4 x hx ?_⟩
      rw [e2, eq, hke]
  · rintro ⟨hx, hne⟩
    rw [hsplit] at hx
    rcases List.mem_append.1 hx with hx | hx
    · exact .inl hx
    · rcases List.mem_cons.1 hx with e2 | hx
      · exact absurd (by rw [e2, eq, hke]) hne
      · exact .inr hx
theorem SrE.st {L : List Ev} (h : SrE L) (n : Int) (e : Ev) : SrE (stE L n e).1 := by
  unfold stE
  split
  · exact h
  · split
    · rename_i h0
      obtain ⟨j, hj⟩ : ∃ j : Nat, fdE e.2.1 e.2.2 L 0 = j := ⟨(fdE e.2.1 e.2.2 L 0).toNat, by omega⟩
      rw [hj, Int.toNat_natCast]
      exact (h.sub (wioE_sub L j)).ins fun x hx => ((wioE_mem h hj).1 hx).2
    · split
      · exact h
      · rename_i h0 _
        refine h.ins fun x hx e2 => ?_
        have := fdE_none h0 x hx
        rw [keyB_iff.2 e2] at this
        cases this
theorem SrE.dr {L : List Ev} (h : SrE L) (k i : Int) : SrE (drE L k i).1 := by
  unfold drE
  split
  · exact h.sub (wioE_sub _ _)
  · exact h
/-- Two lists in order that have the same members are one. -/
theorem SrE.one {L M : List Ev} (h : SrE L) (h' : SrE M) (hm : ∀ x, x ∈ L ↔ x ∈ M) : L = M := by
  have hn : ∀ {K : List Ev}, SrE K → K.Nodup := fun hk => hk.srt.imp fun {a b} hab e => by rw [e, ahE_irr] at hab; cases hab
  exact List.Perm.eq_of_pairwise (le := fun a b => ahE a b = true) (fun a b _ _ h1 h2 => by
    have := ahE_asym h1
    rw [h2] at this
    cases this) h.srt h'.srt ((List.perm_ext_iff_of_nodup (hn h) (hn h')).2 hm)
end Go.Proofs.YtkihfafkglkjnaaDoor

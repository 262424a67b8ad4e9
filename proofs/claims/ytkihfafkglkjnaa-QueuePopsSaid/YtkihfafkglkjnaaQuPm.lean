/- Plain: what law QueuePops lays and takes. -/
import Derived.Test.YtkihfafkglkjnaaQuRm
namespace Go.Proofs.Ytkihfafkglkjnaa

theorem SrE.put {L : List Ev} (h : SrE L) {n : Int} {e : Ev} (hb : badE15 e = false) (hn : (L.length : Int) < n) : ∃ M, stE L n e = (M, 0) ∧ M.length = (if 0 ≤ fdE e.2.1 e.2.2 L 0 then L.length else L.length + 1) ∧ 0 ≤ fdE e.2.1 e.2.2 M 0 ∧ ∀ (j : Nat) x, fdE e.2.1 e.2.2 M 0 = j → M[j]? = some x → x.1 = e.1 := by
  by_cases h0 : 0 ≤ fdE e.2.1 e.2.2 L 0
  · obtain ⟨j, hj⟩ : ∃ j : Nat, fdE e.2.1 e.2.2 L 0 = j := ⟨(fdE e.2.1 e.2.2 L 0).toNat, by omega⟩
    refine ⟨insE e (wioE L j), ?_, ?_, fdE_mem (insE_mem.2 (.inl rfl)) rfl, fun k x hk hx => ?_⟩
    · unfold stE
      rw [hb, if_neg Bool.false_ne_true, if_pos h0, hj, Int.toNat_natCast]
    · rw [if_pos h0, insE_len, wioE_len (fdE_lt hj)]
    · obtain ⟨y, h2, h3⟩ := fdE_at hk
      rw [hx] at h2
      have e2 : x = y := Option.some.inj h2
      subst e2
      rcases insE_mem.1 (List.mem_of_getElem? hx) with rfl | h4
      · rfl
      · exact absurd (keyB_iff.1 h3) ((wioE_mem h hj).1 h4).2
  · refine ⟨insE e L, stE_ok hb (by omega) hn, by rw [if_neg h0, insE_len], fdE_mem (insE_mem.2 (.inl rfl)) rfl, fun k x hk hx => ?_⟩
    obtain ⟨y, h2, h3⟩ := fdE_at hk
    rw [hx] at h2
    have e2 : x = y := Option.some.inj h2
    subst e2
    rcases insE_mem.1 (List.mem_of_getElem? hx) with rfl | h4
    · rfl
    · have := fdE_none h0 x h4
      rw [h3] at this
      cases this
/-- What was taken is no more there. -/
theorem SrE.gone {L : List Ev} (h : SrE L) {i : Nat} {p : Ev} (hp : L[i]? = some p) : fdE p.2.1 p.2.2 (L.drop (i + 1)) 0 < 0 := by
  refine fdE_neg fun x hx e => ?_
  obtain ⟨j, hj, ej⟩ := List.mem_iff_getElem.1 hx
  rw [List.length_drop] at hj
  rw [List.getElem_drop] at ej
  obtain ⟨hi, ei⟩ := List.getElem?_eq_some_iff.1 hp
  have := List.pairwise_iff_getElem.1 h.key i (i + 1 + j) hi (by omega) (by omega)
  rw [ei, ej] at this
  exact this e.symm
theorem SrE.next {L : List Ev} (h : SrE L) {i : Nat} {p q : Ev} (hp : L[i]? = some p) (hq : L[i + 1]? = some q) : ahE q p = false := by
  obtain ⟨hi, ei⟩ := List.getElem?_eq_some_iff.1 hp
  obtain ⟨hj, ej⟩ := List.getElem?_eq_some_iff.1 hq
  have := List.pairwise_iff_getElem.1 h.srt i (i + 1) hi hj (by omega)
  rw [ei, ej] at this
  exact ahE_asym this
end Go.Proofs.Ytkihfafkglkjnaa

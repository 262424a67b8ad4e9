/- Plain: what law QueueRoom lays. -/
import Derived.Test.YtkihfafkglkjnaaDoorQuS
namespace Go.Proofs.YtkihfafkglkjnaaDoor

theorem stE_ok {L : List Ev} {n : Int} {e : Ev} (h : badE15 e = false) (hn : fdE e.2.1 e.2.2 L 0 < 0) (hl : (L.length : Int) < n) : stE L n e = (insE e L, 0) := by
  unfold stE
  rw [h, if_neg Bool.false_ne_true, if_neg (by omega), if_neg (by omega)]
theorem fdE_mem {k i : Int} {L : List Ev} {x : Ev} (h : x ∈ L) (hx : x.2 = (k, i)) : 0 ≤ fdE k i L 0 := by
  by_cases h0 : 0 ≤ fdE k i L 0
  · exact h0
  · have := fdE_none h0 x h
    rw [keyB_iff.2 hx] at this
    cases this
theorem fdE_neg {k i : Int} {L : List Ev} (h : ∀ x ∈ L, x.2 ≠ (k, i)) : fdE k i L 0 < 0 := by
  have := fdE_no (k := k) (i := i) (L := L) fun x hx => by
    cases hk : keyB k i x with
    | false => rfl
    | true => exact absurd (keyB_iff.1 hk) (h x hx)
  omega
theorem bad_no {a k i : Int} (h0 : 0 ≤ a) (h1 : a ≤ 4611686018427387904) (hk : 0 ≤ k) (hi : 0 ≤ i) : badE15 (a, k, i) = false := by
  unfold badE15
  simp
  omega
structure RmI (i : Nat) (L : List Ev) : Prop where
  len : L.length = i
  key : ∀ x ∈ L, ∃ j : Nat, j < i ∧ x.2 = ((0 : Int), (j : Int))
  has : ∀ j : Nat, j < i → ∃ x ∈ L, x.2 = ((0 : Int), (j : Int))
  srt : SrE L
theorem RmI.zero : RmI 0 [] := ⟨rfl, fun x hx => absurd hx List.not_mem_nil, fun j hj => absurd hj (Nat.not_lt_zero j), SrE.nil⟩
theorem pair_ne {i j : Nat} (h : j ≠ i) {x : Int × Int} (hx : x = ((0 : Int), (j : Int))) : x ≠ ((0 : Int), (i : Int)) := fun e => by
  rw [hx] at e
  injection e with _ e
  omega
theorem RmI.succ {i m : Nat} {L : List Ev} (h : RmI i L) (hi : i < m) {a : Int} (h0 : 0 ≤ a) (h1 : a ≤ 4611686018427387904) : stE L m (a, 0, i) = (insE (a, 0, i) L, 0) ∧ RmI (i + 1) (insE (a, 0, i) L) := by
  have hno : ∀ x ∈ L, x.2 ≠ ((0 : Int), (i : Int)) := fun x hx => by
    obtain ⟨j, hj, e⟩ := h.key x hx
    exact pair_ne (by omega) e
  refine ⟨stE_ok (bad_no h0 h1 (Int.le_refl 0) (by omega)) (fdE_neg hno) (by rw [h.len]; omega), by rw [insE_len, h.len], fun x hx => ?_, fun j hj => ?_, h.srt.ins hno⟩
  · rcases insE_mem.1 hx with rfl | hx
    · exact ⟨i, by omega, rfl⟩
    · obtain ⟨j, hj, e⟩ := h.key x hx
      exact ⟨j, by omega, e⟩
  · by_cases e : j = i
    · exact ⟨_, insE_mem.2 (.inl rfl), by rw [e]⟩
    · obtain ⟨x, hx, e2⟩ := h.has j (by omega)
      exact ⟨x, insE_mem.2 (.inr hx), e2⟩
theorem RmI.full {m : Nat} {L : List Ev} (h : RmI m L) : stE L m (0, 0, m) = (L, 10) := by
  have hno : fdE 0 (m : Int) L 0 < 0 := fdE_neg fun x hx => by
    obtain ⟨j, hj, e⟩ := h.key x hx
    exact pair_ne (by omega) e
  unfold stE
  rw [bad_no (Int.le_refl 0) (by omega) (Int.le_refl 0) (by omega), if_neg Bool.false_ne_true]
  dsimp only
  rw [if_neg (by omega), if_pos (by rw [h.len]; exact Int.le_refl _)]
theorem RmI.put {m r : Nat} {L : List Ev} (h : RmI m L) (hr : r < m) {a : Int} (h0 : 0 ≤ a) (h1 : a ≤ 4611686018427387904) : ∃ M, stE L m (a, 0, r) = (M, 0) ∧ M.length = m ∧ 0 ≤ fdE 0 r M 0 ∧ (∀ (j : Nat) e, fdE 0 r M 0 = j → M[j]? = some e → e.1 = a) ∧
    ∃ N, drE M 0 r = (N, true) ∧ ∀ b : Int, 0 ≤ b → b ≤ 4611686018427387904 → ∃ K, stE N m (b, 0, m) = (K, 0) := by
  obtain ⟨x, hx, ex⟩ := h.has r hr
  have hge := fdE_mem hx ex
  obtain ⟨j, hj⟩ : ∃ j : Nat, fdE 0 r L 0 = j := ⟨(fdE 0 r L 0).toNat, by omega⟩
  have hjl := fdE_lt hj
  have hwl := wioE_len hjl
  have hst : stE L m (a, 0, r) = (insE (a, 0, r) (wioE L j), 0) := by
    unfold stE
    rw [bad_no h0 h1 (Int.le_refl 0) (by omega), if_neg Bool.false_ne_true]
    dsimp only
    rw [if_pos hge, hj, Int.toNat_natCast]
  have hlen : (insE (a, 0, (r : Int)) (wioE L j)).length = m := by rw [insE_len, hwl, h.len]
  have hin : ∀ y ∈ insE (a, 0, (r : Int)) (wioE L j), y = (a, 0, (r : Int)) ∨ (y ∈ L ∧ y.2 ≠ (0, (r : Int))) := fun y hy => (insE_mem.1 hy).imp id fun h2 => (wioE_mem h.srt hj).1 h2
  have hsr : SrE (insE (a, 0, (r : Int)) (wioE L j)) := (h.srt.sub (wioE_sub L j)).ins fun y hy => ((wioE_mem h.srt hj).1 hy).2
  have hg2 : 0 ≤ fdE 0 r (insE (a, 0, (r : Int)) (wioE L j)) 0 := fdE_mem (insE_mem.2 (.inl rfl)) rfl
  obtain ⟨j2, hj2⟩ : ∃ k : Nat, fdE 0 r (insE (a, 0, (r : Int)) (wioE L j)) 0 = k := ⟨(fdE 0 r (insE (a, 0, (r : Int)) (wioE L j)) 0).toNat, by omega⟩
  refine ⟨_, hst, hlen, hg2, fun k e hk he => ?_, wioE (insE (a, 0, (r : Int)) (wioE L j)) j2, ?_, fun b hb0 hb1 => ⟨_, stE_ok (bad_no hb0 hb1 (Int.le_refl 0) (by omega)) (fdE_neg fun y hy => ?_) ?_⟩⟩
  · obtain ⟨e2, h2, h3⟩ := fdE_at hk
    rw [he] at h2
    have e4 : e = e2 := Option.some.inj h2
    subst e4
    rcases hin e (List.mem_of_getElem? he) with rfl | ⟨_, h4⟩
    · rfl
    · exact absurd (keyB_iff.1 h3) h4
  · unfold drE
    rw [if_pos hg2, hj2, Int.toNat_natCast]
  · rcases hin y ((wioE_mem hsr hj2).1 hy).1 with rfl | ⟨h4, _⟩
    · exact pair_ne (by omega) rfl
    · obtain ⟨k, hk, e⟩ := h.key y h4
      exact pair_ne (by omega) e
  · have := wioE_len (fdE_lt hj2)
    rw [hlen] at this
    omega
end Go.Proofs.YtkihfafkglkjnaaDoor

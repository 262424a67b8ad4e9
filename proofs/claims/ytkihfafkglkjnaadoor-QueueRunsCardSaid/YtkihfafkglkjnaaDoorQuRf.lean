/- Layer 15: the document's functions: Ahead, Find, Without, Set. -/
import Derived.Test.YtkihfafkglkjnaaDoorQuLp
namespace Go.Proofs.YtkihfafkglkjnaaDoor
open Go.RowKit

set_option maxRecDepth 100000 in
set_option maxHeartbeats 2000000 in
theorem refAhead_any (a b : Ev) (w : World) : Calls Tryd.prog 20 #[evV a, evV b] w fun e w' => e = .returned (.bool (ahE a b)) ∧ Below w.heap.size w w' := by
  obtain ⟨R, hR⟩ : ∃ R, ahE a b = R := ⟨_, rfl⟩
  rw [hR]
  have hway : (a.1 < b.1 ∧ R = true) ∨ (a.1 = b.1 ∧ a.2.1 < b.2.1 ∧ R = true) ∨ (a.1 = b.1 ∧ a.2.1 = b.2.1 ∧ a.2.2 < b.2.2 ∧ R = true) ∨ (a.1 = b.1 ∧ a.2.1 = b.2.1 ∧ ¬ a.2.2 < b.2.2 ∧ R = false) ∨ (a.1 = b.1 ∧ ¬ a.2.1 < b.2.1 ∧ ¬ a.2.1 = b.2.1 ∧ R = false) ∨ (¬ a.1 < b.1 ∧ ¬ a.1 = b.1 ∧ R = false) := by
    cases R with
    | true =>
      have h := ahE_iff.1 hR
      rcases h with h | ⟨h1, h | ⟨h2, h3⟩⟩
      · exact .inl ⟨h, rfl⟩
      · exact .inr (.inl ⟨h1, h, rfl⟩)
      · exact .inr (.inr (.inl ⟨h1, h2, h3, rfl⟩))
    | false =>
      have h : ¬ ahE a b = true := by rw [hR]; decide
      rw [ahE_iff] at h
      by_cases h1 : a.1 = b.1
      · by_cases h2 : a.2.1 = b.2.1
        · exact .inr (.inr (.inr (.inl ⟨h1, h2, by omega, rfl⟩)))
        · exact .inr (.inr (.inr (.inr (.inl ⟨h1, by omega, h2, rfl⟩))))
      · exact .inr (.inr (.inr (.inr (.inr ⟨by omega, h1, rfl⟩))))
  obtain ⟨a1, a2, a3⟩ := a
  obtain ⟨b1, b2, b3⟩ := b
  unfold evV
  dsimp only at hway ⊢
  have HB := Lib.hid (((Below.refl w.heap.size w).alloc (Nat.le_refl _) (.cells #[.int .i64 a1, .int .i64 a2, .int .i64 a3] 35)).alloc (by simp) (.cells #[.int .i64 b1, .int .i64 b2, .int .i64 b3] 35))
  clear hR
  rcases hway with ⟨h1, rfl⟩ | ⟨rfl, h2, rfl⟩ | ⟨rfl, rfl, h3, rfl⟩ | ⟨rfl, rfl, h3, rfl⟩ | ⟨rfl, h2, h3, rfl⟩ | ⟨h1, h2, rfl⟩
  all_goals
    go_enter Tryd.func20, Tryd.ntmps20
    go_wp2_with fail
    go_ret
    exact ⟨rfl, HB.out⟩
set_option maxRecDepth 100000 in
set_option maxHeartbeats 2000000 in
theorem refFd_any (v : Value) (L : List Ev) (kd id : Int) (w : World) (hv : RowE w v L) :
    Calls Tryd.prog 10 #[v, .int .i64 kd, .int .i64 id] w fun e w' => e = .returned (.int .i64 (fdE kd id L 0)) ∧ w' = w := by
  obtain ⟨A, c, rfl, hr⟩ := hv.form
  obtain ⟨n, hn⟩ : ∃ n, L.length = n := ⟨_, rfl⟩
  have hn9 : n ≤ 9223372036854775807 := by
    have h1 := hr.parts.2.1
    have h2 := hr.parts.2.2.1
    unfold maxLen at h2
    omega
  rw [hn] at hr ⊢
  obtain ⟨R, hR⟩ : ∃ R, fdE kd id L 0 = R := ⟨_, rfl⟩
  rw [hR]
  have H := Lib.hid (And.intro hr (And.intro hn hR))
  clear hr hv hn hR
  go_enter Tryd.func10, Tryd.ntmps10
  go_wp2_with fail
  go_loopw [7] (fun iv wr => ∃ i : Nat, iv = .int .i64 i ∧ i ≤ n ∧ wr = w ∧ ∀ t, t < i → ∀ x, L[t]? = some x → keyB kd id x = false) (fun iv _ => n - (intOf iv).toNat)
  case atStart => exact ⟨0, rfl, Nat.zero_le _, rfl, fun t ht => absurd ht (Nat.not_lt_zero t)⟩
  case round =>
    obtain ⟨i, rfl, hi, rfl, hno⟩ := hrel
    by_cases hin : i < n
    · have q0 : (0 : Int) ≤ i := by omega
      have q1 : (i : Int) < n := by omega
      obtain ⟨p, hp⟩ : ∃ p, L[i]? = some p := ⟨_, List.getElem?_eq_getElem (by rw [H.out.2.1]; exact hin)⟩
      obtain ⟨ad, X, rfl, hX, k0, k1, k2⟩ := H.out.1.parts.2.2.2.2 i hin p hp
      obtain ⟨p0, p1, p2⟩ := p
      dsimp only at k1 k2
      have HK := Lib.hid (And.intro hno hp)
      clear hno hp k0
      by_cases h1 : p1 = kd
      · subst h1
        by_cases h2 : p2 = id
        · subst h2
          have hRi : R = i := by rw [← H.out.2.2]; exact fdE_hit HK.out.2 (by unfold keyB; simp) HK.out.1
          subst hRi
          go_wp2_with fail
          go_ret
          exact ⟨rfl, rfl⟩
        · go_wp2_with fail
          refine ⟨⟨i + 1, by go_num, hin, trivial, fun t ht x hx => ?_⟩, by simp [intOf]; omega⟩
          by_cases e : t = i
          · rw [e, HK.out.2] at hx
            rw [← Option.some.inj hx]
            unfold keyB
            simp [h2]
          · exact HK.out.1 t (by omega) x hx
      · go_wp2_with fail
        refine ⟨⟨i + 1, by go_num, hin, trivial, fun t ht x hx => ?_⟩, by simp [intOf]; omega⟩
        by_cases e : t = i
        · rw [e, HK.out.2] at hx
          rw [← Option.some.inj hx]
          unfold keyB
          simp [h1]
        · exact HK.out.1 t (by omega) x hx
    · obtain rfl : n = i := by omega
      have r1 : ¬ (n : Int) < n := by omega
      have hRn : R = -1 := by
        rw [← H.out.2.2]
        refine fdE_no fun x hx => ?_
        obtain ⟨t, ht, e⟩ := List.mem_iff_getElem.1 hx
        exact hno t (by rw [← H.out.2.1]; exact ht) x (by rw [List.getElem?_eq_getElem ht, e])
      subst hRn
      clear hno
      go_wp2_with fail
      go_ret
      exact ⟨rfl, rfl⟩
set_option maxRecDepth 100000 in
set_option maxHeartbeats 4000000 in
theorem refWio_any (v : Value) (L : List Ev) (i : Nat) (w : World) (hv : RowE w v L) (hi : i < L.length) (hl : L.length ≤ 1000000) :
    Calls Tryd.prog 12 #[v, .int .i64 (i : Nat)] w fun e w' => ∃ u, e = .returned u ∧ RowP (fun k => k < w.heap.size) w' u (wioE L i) ∧ Below w.heap.size w w' := by
  obtain ⟨A, c, rfl, hr⟩ := hv.form
  obtain ⟨n, hn⟩ : ∃ n, L.length = n := ⟨_, rfl⟩
  rw [hn] at hr hi hl ⊢
  have hc := hr.parts.2.1
  have hrd := hr.parts.2.2.2.1
  obtain ⟨A1, C1, s1, r1⟩ := cutQ_head A L n c i hn (by omega) hc
  obtain ⟨A2, C2, s2, r2⟩ := cutQ_tail A L n c (i + 1) hn (by omega) hc
  have e2 : ((i + 1 : Nat) : Int) = (i : Int) + 1 := by omega
  rw [e2] at s2
  have y1 : IntKind.i64.wrap ((i : Int) + 1) = (i : Int) + 1 := IntWalk.i64_in _ (by omega)
  have q0 : (0 : Int) ≤ i := by omega
  have q1 : (i : Int) < n := by omega
  obtain ⟨k, hk⟩ : ∃ k, n - (i + 1) = k := ⟨_, rfl⟩
  rw [hk] at s2
  have hl1 : ((L.take i).flatMap evC).length = i * 3 := by rw [evC_len, List.length_take, hn]; congr 1; omega
  have hl2 : ((L.drop (i + 1)).flatMap evC).length = k * 3 := by rw [evC_len, List.length_drop, hn, hk]
  have HR := Lib.hid (And.intro (r1 w hrd) (And.intro (fun W (hb : Below w.heap.size w W) => r2 W (hrd.below hb)) (And.intro hl1 (And.intro hl2 hn))))
  clear hr hv hc hrd r1 r2 e2 hl1 hl2 hn
  go_enter Tryd.func12, Tryd.ntmps12
  go_upto_region 2 with (fail)
  go_region_held3 (fun _ => True) (exact trivial) (first
    | (refine step_appK (by rfl) (.tmp 6) (.tmp 9) _ (by rfl) Tryd.underlying29 infoEd rfl (by omega) w.heap.size (.slice none 0 0) 0 [] (by rfl) (World.ownsRow_nil _ _ _ _) A1 i C1 ((L.take i).flatMap evC) (by rfl) HR.out.2.2.1 HR.out.1 (one_ev _) (by unfold maxLen; omega) (by omega) (Nat.le_refl _) ?_
       intro v1 W1 ho1 hg1 _
       obtain ⟨B1, c1, rfl, _⟩ := own_anyk ho1
       have hb1 : Below w.heap.size w W1 := ⟨hg1.os, hg1.tape, hg1.output, hg1.size, fun j hj => hg1.block j hj (by simp [Value.ownBlock])⟩
       have H1 := Lib.hid (And.intro ho1 hb1)
       clear ho1 hg1 hb1)
    | (refine step_appK (by rfl) (.tmp 10) (.tmp 14) _ (by rfl) Tryd.underlying29 infoEd rfl (by omega) w.heap.size (.slice B1 (0 + i) c1) (0 + i) ([] ++ (L.take i).flatMap evC) (by rfl) H1.out.1 A2 k C2 ((L.drop (i + 1)).flatMap evC) (by rfl) HR.out.2.2.2.1 (HR.out.2.1 _ H1.out.2) (one_ev _) (by unfold maxLen; omega) (by omega) H1.out.2.size ?_
       intro v2 W2 ho2 hg2 _
       have H2 := Lib.hid (And.intro ho2 hg2)
       clear ho2 hg2))
  go_wp2_with fail
  go_ret
  refine ⟨_, rfl, RowP.owned (base := w.heap.size) (e := 35) (n := 0 + i + k) ?_ ?_, Below.grown H1.out.2 H2.out.2 H1.out.2.size (fun b hb => (H1.out.1.lt b hb).1)⟩
  · have := wioE_len (L := L) (j := i) (by rw [HR.out.2.2.2.2]; exact hi)
    rw [HR.out.2.2.2.2] at this
    omega
  · have e : (wioE L i).flatMap evC = [] ++ (L.take i).flatMap evC ++ (L.drop (i + 1)).flatMap evC := by
      unfold wioE
      rw [List.flatMap_append, List.nil_append]
    rw [e]
    exact H2.out.1
end Go.Proofs.YtkihfafkglkjnaaDoor

/- Contracts: Order, Depths. -/
import Derived.Test.YtkfnbapnkmlopaaDoorGrCk
import Derived.Test.YtkfnbapnkmlopaaDoorGrLi
import Derived.StillTailTactics
namespace Go.Proofs.YtkfnbapnkmlopaaDoor
open Go.RowKit

/-- How far the depths are: behind i places of the order, and j of those that the next one leads to. -/
structure Dpx (M : Wt) (n : Nat) (D : List Nat) (i j : Nat) (O : List Nat) : Prop where
  len : O.length = n
  ub : ∀ x v, O[x]? = some v → v ≤ dpT M n x
  lb : ∀ y ∈ D.take i, ∀ x v, (y, x) ∈ M → O[x]? = some v → dpT M n y + 1 ≤ v
  kid : ∀ a, D[i]? = some a → ∀ x ∈ (eM M a).take j, ∀ v, O[x]? = some v → dpT M n a + 1 ≤ v
theorem Dpx.init (M : Wt) (n : Nat) (D : List Nat) : Dpx M n D 0 0 (List.replicate n 0) where
  len := by simp
  ub := fun x v h => by
    rw [List.getElem?_replicate] at h
    split at h
    · rw [← Option.some.inj h]; exact Nat.zero_le _
    · cases h
  lb := fun y hy => by simp at hy
  kid := fun a _ x hx => by simp at hx
theorem Dpx.at_ {M : Wt} {n : Nat} {D : List Nat} {i j : Nat} {O : List Nat} (h : Dpx M n D i j O) (hM : Okw n M) (hc : ¬ Cyc (eM M)) (hor : Orw M n D) {a b : Nat} (ha : D[i]? = some a) (hb : O[a]? = some b) : b = dpT M n a := by
  refine Nat.le_antisymm (h.ub a b hb) (dpT_ub hM hc (hor.lt a (List.mem_of_getElem? ha)) fun y hy => ?_)
  exact h.lb y (hor.pre i a ha y hy) a b hy hb
theorem Dpx.step {M : Wt} {n : Nat} {D : List Nat} {i j : Nat} {O : List Nat} (h : Dpx M n D i j O) (hM : Okw n M) (hc : ¬ Cyc (eM M)) (hor : Orw M n D) {a b t u : Nat} (ha : D[i]? = some a) (ht : (eM M a)[j]? = some t) (hu : O[t]? = some u) (hb : O[a]? = some b) : Dpx M n D i (j + 1) (O.set t (max u (b + 1))) := by
  have e := h.at_ hM hc hor ha hb
  have hat : (a, t) ∈ M := eM_mem.1 (List.mem_of_getElem? ht)
  have htl : t < O.length := (List.getElem?_eq_some_iff.1 hu).1
  have hlt := dpT_lt hM hc hat
  have grow : ∀ x v, (O.set t (max u (b + 1)))[x]? = some v → ∃ v', O[x]? = some v' ∧ v' ≤ v := fun x v hv => by
    by_cases ex : t = x
    · subst ex
      rw [List.getElem?_set_self htl] at hv
      exact ⟨u, hu, by rw [← Option.some.inj hv]; omega⟩
    · rw [List.getElem?_set_ne ex] at hv
      exact ⟨v, hv, Nat.le_refl _⟩
  refine ⟨by rw [List.length_set]; exact h.len, fun x v hv => ?_, fun y hy x v hyx hv => ?_, fun a' ha' x hx v hv => ?_⟩
  · by_cases ex : t = x
    · subst ex
      rw [List.getElem?_set_self htl] at hv
      have := h.ub t u hu
      rw [← Option.some.inj hv]
      omega
    · rw [List.getElem?_set_ne ex] at hv
      exact h.ub x v hv
  · obtain ⟨v', hv', hle⟩ := grow x v hv
    exact Nat.le_trans (h.lb y hy x v' hyx hv') hle
  · rw [ha] at ha'
    injection ha' with ha'
    subst ha'
    obtain ⟨hj, et⟩ := List.getElem?_eq_some_iff.1 ht
    rw [List.take_succ_eq_append_getElem hj, et] at hx
    rcases List.mem_append.1 hx with hx | hx
    · obtain ⟨v', hv', hle⟩ := grow x v hv
      exact Nat.le_trans (h.kid a ha x hx v' hv') hle
    · rw [List.mem_singleton.1 hx, List.getElem?_set_self htl] at hv
      rw [← Option.some.inj hv]
      omega
theorem Dpx.next {M : Wt} {n : Nat} {D : List Nat} {i : Nat} {O : List Nat} {a : Nat} (ha : D[i]? = some a) (h : Dpx M n D i (eM M a).length O) : Dpx M n D (i + 1) 0 O where
  len := h.len
  ub := h.ub
  lb := fun y hy x v hyx hv => by
    obtain ⟨hi, e⟩ := List.getElem?_eq_some_iff.1 ha
    rw [List.take_succ_eq_append_getElem hi, e] at hy
    rcases List.mem_append.1 hy with hy | hy
    · exact h.lb y hy x v hyx hv
    · rw [List.mem_singleton.1 hy] at hyx ⊢
      exact h.kid a ha x (by rw [List.take_length]; exact eM_mem.2 hyx) v hv
  kid := fun a _ x hx => by simp at hx
theorem Dpx.done {M : Wt} {n : Nat} {D : List Nat} {O : List Nat} (hM : Okw n M) (hc : ¬ Cyc (eM M)) (hor : Orw M n D) (hl : D.length = n) (h : Dpx M n D n 0 O) : O = (List.range n).map (dpT M n) := by
  have hall : ∀ y, y < n → y ∈ D := fun y hy => by
    refine Classical.byContradiction fun hn => ?_
    have h2 := List.Nodup.length_le_of_subset (l₁ := y :: D) (l₂ := List.range n) (List.nodup_cons.2 ⟨hn, hor.nd⟩) (fun z hz => by
      rcases List.mem_cons.1 hz with rfl | hz
      · exact List.mem_range.2 hy
      · exact List.mem_range.2 (hor.lt z hz))
    rw [List.length_cons, List.length_range] at h2
    omega
  apply List.ext_getElem
  · rw [h.len]; simp
  · intro x h1 h2
    rw [List.getElem_map, List.getElem_range]
    have hx : x < n := by rw [← h.len]; exact h1
    refine Nat.le_antisymm (h.ub x _ (List.getElem?_eq_getElem h1)) (dpT_ub hM hc hx fun y hy => ?_)
    exact h.lb y (by rw [List.take_of_length_le (by omega)]; exact hall y (hM _ hy).1) x _ hy (List.getElem?_eq_getElem h1)
set_option maxRecDepth 100000 in
set_option maxHeartbeats 2000000 in
theorem pg_or (n : Int) (v : Value) (L : List (Int × Int)) (w : World) (hn : I64 n) (hv : RowW w v L) : Calls Tryd.prog 38 #[.int .i64 n, v] w (AnsL w (orA n L)) := by
  have HC := Lib.hid (pg_ck n v L w hn hv)
  unfold AnsL
  by_cases hck : ckW n L = 0
  · obtain ⟨k, rfl, hk, hlen, hM, hL⟩ := ckW_ok hck
    have hcst : L = cst (ntW L) := hL
    have hml : (ntW L).length ≤ 1048576 := by unfold ntW; rw [List.length_map]; exact hlen
    have hRo := fun W (hb : Below w.heap.size w W) => lineUp_any k v (ntW L) W hk hM hml (by rw [← hcst]; exact hv.below hb)
    unfold LuE at hRo
    rw [hck, errE_zero] at HC
    have HRo := Lib.hid hRo
    clear hRo hml
    cases hlp : lpT (ntW L) k with
    | some x =>
      rw [orA_loop hck (by rw [Int.toNat_natCast, hlp]; simp)]
      dsimp only
      rw [errE_pos (by decide)]
      unfold errK
      have HX := Lib.hid hlp
      clear hv hck hM hL hcst hlp
      go_enter Tryd.func38, Tryd.ntmps38
      go_wp2_with fail
      with_reducible refine HC.out.mono ?_
      rintro e w1 ⟨rfl, hb1⟩
      have HB := Lib.hid hb1
      clear hb1
      go_wp2_with fail
      with_reducible refine (HRo.out _ HB.out).mono ?_
      rintro e w2 ⟨D, A, c, rfl, hrow, hb2, hno, hyes⟩
      have hdl := hyes (by rw [HX.out]; simp)
      obtain ⟨d, hd⟩ : ∃ d, D.length = d := ⟨_, rfl⟩
      rw [hd] at hdl
      rw [hd]
      have HB2 := Lib.hid (HB.out.trans (hb2.mono HB.out.size))
      have hdi : (d : Int) < k := by omega
      clear hrow hb2 hno hyes hd
      go_wp2_with fail
      go_ret2
      exact ⟨none, 0, rfl, RowN.none _, HB2.out⟩
    | none =>
      rw [orA_ok hck (by rw [Int.toNat_natCast]; exact hlp), Int.toNat_natCast]
      dsimp only
      rw [errE_zero]
      have HX := Lib.hid hlp
      obtain ⟨ZO, hZO⟩ : ∃ Z, ordT (ntW L) k = Z := ⟨_, rfl⟩
      rw [hZO] at HRo ⊢
      clear hv hck hM hL hcst hlp hZO
      go_enter Tryd.func38, Tryd.ntmps38
      go_wp2_with fail
      with_reducible refine HC.out.mono ?_
      rintro e w1 ⟨rfl, hb1⟩
      have HB := Lib.hid hb1
      clear hb1
      go_wp2_with fail
      with_reducible refine (HRo.out _ HB.out).mono ?_
      rintro e w2 ⟨D, A, c, rfl, hrow, hb2, hno, hyes⟩
      obtain ⟨hD, hdl⟩ := hno HX.out
      subst hD
      rw [hdl] at hrow
      rw [hdl]
      have HB2 := Lib.hid (And.intro (HB.out.trans (hb2.mono HB.out.size)) (And.intro hrow hdl))
      have hdi : ¬ (k : Int) < k := by omega
      clear hrow hb2 hno hyes hdl
      go_wp2_with fail
      go_ret2
      refine ⟨A, c, ?_, ?_, HB2.out.1⟩
      · rw [HB2.out.2.2]; rfl
      · rw [HB2.out.2.2]; exact HB2.out.2.1
  · rw [orA_bad hck]
    obtain ⟨q, hq⟩ : ∃ q, ckW n L = q := ⟨_, rfl⟩
    rw [hq] at HC hck ⊢
    dsimp only
    rw [errE_pos hck] at HC ⊢
    unfold errK at HC ⊢
    clear hv hq hck
    go_enter Tryd.func38, Tryd.ntmps38
    go_wp2_with fail
    with_reducible refine HC.out.mono ?_
    rintro e w1 ⟨rfl, hb1⟩
    have HB := Lib.hid hb1
    clear hb1
    go_wp2_with fail
    go_ret2
    exact ⟨none, 0, rfl, RowN.none _, HB.out⟩
end Go.Proofs.YtkfnbapnkmlopaaDoor

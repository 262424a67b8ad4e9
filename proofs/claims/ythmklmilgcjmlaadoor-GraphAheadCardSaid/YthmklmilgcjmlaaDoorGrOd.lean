/- Contracts: Order, Depths. -/
import Derived.Test.YthmklmilgcjmlaaDoorGrCk
import Derived.Test.YthmklmilgcjmlaaDoorGrLi
import Derived.StillTailTactics
namespace Go.Proofs.YthmklmilgcjmlaaDoor
open Go.RowKit

/-- How far the depths are: behind i places of the order, and j of those that the next one leads to. -/
structure Dpx (M : Wt) (n : Nat) (D : List Nat) (i j : Nat) (O : List Nat) : Prop where
  len : O.length = n
  ub : ∀ x v, O[x]? = some v → v ≤ dpT M n x
  lb : ∀ y ∈ D.take i, ∀ x v, (y, x) ∈ M → O[x]? = some v → dpT M n y + 1 ≤ v
  kid : ∀ a, D[i]? = some a → ∀ x ∈ (eM M a).take j, ∀ v, O[x]? = some v → dpT M n a + 1 ≤ v
theorem Dpx.init (M : Wt) (n : Nat) (D : List Nat) : Dpx M n D 0 0 (List.replicate n 0) where
  len := by simp
  ub := fun x v h => by
    rw [List.getElem?_replicate] at h
    split at h
    · rw [← Option.some.inj h]; exact Nat.zero_le _
    · cases h
  lb := fun y hy => by simp at hy
  kid := fun a _ x hx => by simp at hx
theorem Dpx.at_ {M : Wt} {n : Nat} {D : List Nat} {i j : Nat} {O : List Nat} (h : Dpx M n D i j O) (hM : Okw n M) (hc : ¬ Cyc (eM M)) (hor : Orw M n D) {a b : Nat} (ha : D[i]? = some a) (hb : O[a]? = some b) : b = dpT M n a := by
  refine Nat.le_antisymm (h.ub a b hb) (dpT_ub hM hc (hor.lt a (List.mem_of_getElem? ha)) fun y hy => ?_)
  exact h.lb y (hor.pre i a ha y hy) a b hy hb
theorem Dpx.step {M : Wt} {n : Nat} {D : List Nat} {i j : Nat} {O : List Nat} (h : Dpx M n D i j O) (hM : Okw n M) (hc : ¬ Cyc (eM M)) (hor : Orw M n D) {a b t u : Nat} (ha : D[i]? = some a) (ht : (eM M a)[j]? = some t) (hu : O[t]? = some u) (hb : O[a]? = some b) : Dpx M n D i (j + 1) (O.set t (max u (b + 1))) := by
  have e := h.at_ hM hc hor ha hb
  have hat : (a, t) ∈ M := eM_mem.1 (List.mem_of_getElem? ht)
  have htl : t < O.length := (List.getElem?_eq_some_iff.1 hu).1
  have hlt := dpT_lt hM hc hat
  have grow : ∀ x v, (O.set t (max u (b + 1)))[x]? = some v → ∃ v', O[x]? = some v' ∧ v' ≤ v := fun x v hv => by
    by_cases ex : t = x
    · subst ex
      rw [List.getElem?_set_self htl] at hv
      exact ⟨u, hu, by rw [← Option.some.inj hv]; omega⟩
    · rw [List.getElem?_set_ne ex] at hv
      exact ⟨v, hv, Nat.le_refl _⟩
  refine ⟨by rw [List.length_set]; exact h.len, fun x v hv => ?_, fun y hy x v hyx hv => ?_, fun a' ha' x hx v hv => ?_⟩
  · by_cases ex : t = x
    · subst ex
      rw [List.getElem?_set_self htl] at hv
      have := h.ub t u hu
      rw [← Option.some.inj hv]
      omega
    · rw [List.getElem?_set_ne ex] at hv
      exact h.ub x v hv
  · obtain ⟨v', hv', hle⟩ := grow x v hv
    exact Nat.le_trans (h.lb y hy x v' hyx hv') hle
  · rw [ha] at ha'
    injection ha' with ha'
    subst ha'
    obtain ⟨hj, et⟩ := List.getElem?_eq_some_iff.1 ht
    rw [List.take_succ_eq_append_getElem hj, et] at hx
    rcases List.mem_append.1 hx with hx | hx
    · obtain ⟨v', hv', hle⟩ := grow x v hv
      exact Nat.le_trans (h.kid a ha x hx v' hv') hle
    · rw [List.mem_singleton.1 hx, List.getElem?_set_self htl] at hv
      rw [← Option.some.inj hv]
      omega
theorem Dpx.next {M : Wt} {n : Nat} {D : List Nat} {i : Nat} {O : List Nat} {a : Nat} (ha : D[i]? = some a) (h : Dpx M n D i (eM M a).length O) : Dpx M n D (i + 1) 0 O where
  len := h.len
  ub := h.ub
  lb := fun y hy x v hyx hv => by
    obtain ⟨hi, e⟩ := List.getElem?_eq_some_iff.1 ha
    rw [List.take_succ_eq_append_getElem hi, e] at hy
    rcases List.mem_append.1 hy with hy | hy
    · exact h.lb y hy x v hyx hv
    · rw [List.mem_singleton.1 hy] at hyx ⊢
      exact h.kid a ha x (by rw [List.take_length]; exact eM_mem.2 hyx) v hv
  kid := fun a _ x hx => by simp at hx
theorem Dpx.done {M : Wt} {n : Nat} {D : List Nat} {O : List Nat} (hM : Okw n M) (hc : ¬ Cyc (eM M)) (hor : Orw M n D) (hl : D.length = n) (h : Dpx M n D n 0 O) : O = (List.range n).map (dpT M n) := by
  have hall : ∀ y, y < n → y ∈ D := fun y hy => by
    refine Classical.byContradiction fun hn => ?_
    have h2 := List.Nodup.length_le_of_subset (l₁ := y :: D) (l₂ := List.range n) (List.nodup_cons.2 ⟨hn, hor.nd⟩) (fun z hz => by
      rcases List.mem_cons.1 hz with rfl | hz
      · exact List.mem_range.2 hy
      · exact List.mem_range.2 (hor.lt z hz))
    rw [List.length_cons, List.length_range] at h2
    omega
  apply List.ext_getElem
  · rw [h.len]; simp
  · intro x h1 h2
    rw [List.getElem_map, List.getElem_range]
    have hx : x < n := by rw [← h.len]; exact h1
    refine Nat.le_antisymm (h.ub x _ (List.getElem?_eq_getElem h1)) (dpT_ub hM hc hx fun y hy => ?_)
    exact h.lb y (by rw [List.take_of_length_le (by omega)]; exact hall y (hM _ hy).1) x _ hy (List.getElem?_eq_getElem h1)
set_option maxRecDepth 100000 in
set_option maxHeartbeats 2000000 in
theorem pg_or (n : Int) (v : Value) (L : List (Int × Int)) (w : World) (hn : I64 n) (hv : RowW w v L) : Calls Tryd.prog 11 #[.int .i64 n, v] w (AnsL w (orA n L)) := by
  have HC := Lib.hid (pg_ck n v L w hn hv)
  unfold AnsL
  by_cases hck : ckW n L = 0
  · obtain ⟨k, rfl, hk, hlen, hM, hL⟩ := ckW_ok hck
    have hcst : L = cst (ntW L) := hL
    have hml : (ntW L).length ≤ 1048576 := by unfold ntW; rw [List.length_map]; exact hlen
    have hRo := fun W (hb : Below w.heap.size w W) => lineUp_any k v (ntW L) W hk hM hml (by rw [← hcst]; exact hv.below hb)
    unfold LuE at hRo
    rw [hck, errE_zero] at HC
    have HRo := Lib.hid hRo
    clear hRo hml
    cases hlp : lpT (ntW L) k with
    | some x =>
      rw [orA_loop hck (by rw [Int.toNat_natCast, hlp]; simp)]
      dsimp only
      rw [errE_pos (by decide)]
      unfold errK
      have HX := Lib.hid hlp
      clear hv hck hM hL hcst hlp
      go_enter Tryd.func11, Tryd.ntmps11
      go_wp2_with fail
      with_reducible refine HC.out.mono ?_
      rintro e w1 ⟨rfl, hb1⟩
      have HB := Lib.hid hb1
      clear hb1
      go_wp2_with fail
      with_reducible refine (HRo.out _ HB.out).mono ?_
      rintro e w2 ⟨D, A, c, rfl, hrow, hb2, hno, hyes⟩
      have hdl := hyes (by rw [HX.out]; simp)
      obtain ⟨d, hd⟩ : ∃ d, D.length = d := ⟨_, rfl⟩
      rw [hd] at hdl
      rw [hd]
      have HB2 := Lib.hid (HB.out.trans (hb2.mono HB.out.size))
      have hdi : (d : Int) < k := by omega
      clear hrow hb2 hno hyes hd
      go_wp2_with fail
      go_ret2
      exact ⟨none, 0, rfl, RowN.none _, HB2.out⟩
    | none =>
      rw [orA_ok hck (by rw [Int.toNat_natCast]; exact hlp), Int.toNat_natCast]
      dsimp only
      rw [errE_zero]
      have HX := Lib.hid hlp
      obtain ⟨ZO, hZO⟩ : ∃ Z, ordT (ntW L) k = Z := ⟨_, rfl⟩
      rw [hZO] at HRo ⊢
      clear hv hck hM hL hcst hlp hZO
      go_enter Tryd.func11, Tryd.ntmps11
      go_wp2_with fail
      with_reducible refine HC.out.mono ?_
      rintro e w1 ⟨rfl, hb1⟩
      have HB := Lib.hid hb1
      clear hb1
      go_wp2_with fail
      with_reducible refine (HRo.out _ HB.out).mono ?_
      rintro e w2 ⟨D, A, c, rfl, hrow, hb2, hno, hyes⟩
      obtain ⟨hD, hdl⟩ := hno HX.out
      subst hD
      rw [hdl] at hrow
      rw [hdl]
      have HB2 := Lib.hid (And.intro (HB.out.trans (hb2.mono HB.out.size)) (And.intro hrow hdl))
      have hdi : ¬ (k : Int) < k := by omega
      clear hrow hb2 hno hyes hdl
      go_wp2_with fail
      go_ret2
      refine ⟨A, c, ?_, ?_, HB2.out.1⟩
      · rw [HB2.out.2.2]; rfl
      · rw [HB2.out.2.2]; exact HB2.out.2.1
  · rw [orA_bad hck]
    obtain ⟨q, hq⟩ : ∃ q, ckW n L = q := ⟨_, rfl⟩
    rw [hq] at HC hck ⊢
    dsimp only
    rw [errE_pos hck] at HC ⊢
    unfold errK at HC ⊢
    clear hv hq hck
    go_enter Tryd.func11, Tryd.ntmps11
    go_wp2_with fail
    with_reducible refine HC.out.mono ?_
    rintro e w1 ⟨rfl, hb1⟩
    have HB := Lib.hid hb1
    clear hb1
    go_wp2_with fail
    go_ret2
    exact ⟨none, 0, rfl, RowN.none _, HB.out⟩
set_option maxRecDepth 100000 in
set_option maxHeartbeats 4000000 in
theorem pg_dp (n : Int) (v : Value) (L : List (Int × Int)) (w : World) (hn : I64 n) (hv : RowW w v L) : Calls Tryd.prog 12 #[.int .i64 n, v] w (AnsL w (dpA n L)) := by
  have hOr := pg_or n v L w hn hv
  unfold AnsL at hOr ⊢
  by_cases hck : ckW n L = 0
  · obtain ⟨k, rfl, hk, hlen, hM, hL⟩ := ckW_ok hck
    have hcst : L = cst (ntW L) := hL
    have hml : (ntW L).length ≤ 1048576 := by unfold ntW; rw [List.length_map]; exact hlen
    cases hlp : lpT (ntW L) k with
    | some x =>
      rw [orA_loop hck (by rw [Int.toNat_natCast, hlp]; simp)] at hOr
      rw [dpA_loop hck (by rw [Int.toNat_natCast, hlp]; simp)]
      dsimp only at hOr ⊢
      rw [errE_pos (by decide)] at hOr ⊢
      unfold errK at hOr ⊢
      have HOr := Lib.hid hOr
      clear hv hck hM hL hcst hlp hOr hml
      go_enter Tryd.func12, Tryd.ntmps12
      go_wp2_with fail
      with_reducible refine HOr.out.mono ?_
      rintro e w1 ⟨A, c, rfl, hrow, hb1⟩
      have HB := Lib.hid hb1
      clear hb1 hrow
      go_wp2_with fail
      go_ret2
      exact ⟨none, 0, rfl, RowN.none _, HB.out⟩
    | none =>
      have hcy := (lpT_none hM).1 hlp
      obtain ⟨ho1, ho2⟩ := ordK_ok hM hcy k (Nat.le_refl _)
      rw [orA_ok hck (by rw [Int.toNat_natCast]; exact hlp), Int.toNat_natCast] at hOr
      rw [dpA_ok hck (by rw [Int.toNat_natCast]; exact hlp), Int.toNat_natCast]
      dsimp only at hOr ⊢
      rw [errE_zero] at hOr ⊢
      obtain ⟨D, hD⟩ : ∃ D, ordT (ntW L) k = D := ⟨_, rfl⟩
      have hDo : Orw (ntW L) k D := by rw [← hD]; exact ho1
      have hDl : D.length = k := by rw [← hD]; exact ho2
      rw [hD, hDl] at hOr
      have HOr := Lib.hid hOr
      have HLe := Lib.hid (fun W (hb : Below w.heap.size w W) => show Calls Tryd.prog 23 #[.int .i64 (k : Nat), v, .int .i64 0, .int .i64 1] W fun r w' => ∃ g Z, r = .returned (.slice (some ⟨g, 0, none⟩) k k) ∧ NxO w' W.heap.size g (eM (ntW L)) k Z ∧ Below W.heap.size W w' from leads_any k v (ntW L) (ntW L) 0 1 W hk hM hml (by rw [← hcst]; exact hv.below hb) (.inl ⟨rfl, rfl, rfl⟩))
      obtain ⟨M, hMe⟩ : ∃ M, ntW L = M := ⟨_, rfl⟩
      rw [hMe] at hM hml hcy hDo HLe ⊢
      have HM := Lib.hid (And.intro hM (And.intro hcy (And.intro hDo (And.intro hDl hml))))
      have q0 : (0 : Int) ≤ k := by omega
      clear hv hck hM hL hcst hlp hOr hml ho1 ho2 hcy hDo hDl hD hMe hlen
      go_enter Tryd.func12, Tryd.ntmps12
      go_wp2_with fail
      with_reducible refine HOr.out.mono ?_
      rintro e w1 ⟨A, c, rfl, hrow, hb1⟩
      have HB := Lib.hid (And.intro hb1 hrow)
      clear hb1 hrow
      go_wp2_with fail
      with_reducible refine (HLe.out _ HB.out.1).mono ?_
      rintro e V0 ⟨g, Z, rfl, hZ, hb0⟩
      obtain ⟨V1, hmk, hI1, hb1⟩ := IntB.make V0 k hk
      obtain ⟨bt, hbt⟩ : ∃ x, V0.heap.size = x := ⟨_, rfl⟩
      rw [hbt] at hmk hI1
      have H0 := Lib.hid (And.intro hZ (And.intro (HB.out.1.trans (hb0.mono HB.out.1.size)) (And.intro hI1 (And.intro hb1 (And.intro hbt (HB.out.2.below hb0))))))
      clear hZ hb0 hI1 hb1
      go_wp2_with fail
      clear hmk
      go_loopw [30] (fun kv wr => ∃ (i : Nat) (O : List Nat), kv = .int .i64 i ∧ i ≤ k ∧ Below V0.heap.size V0 wr ∧ IntB bt O wr ∧ Dpx M k D i 0 O) (fun kv _ => k - (intOf kv).toNat)
      case atStart => exact ⟨0, _, rfl, Nat.zero_le _, H0.out.2.2.2.1, H0.out.2.2.1, Dpx.init M k D⟩
      case round =>
        obtain ⟨i, O0, rfl, hi, hb, hF, hL⟩ := hrel
        by_cases hik : i < k
        · have s0 : (0 : Int) ≤ i := by omega
          have s1 : (i : Int) < k := by omega
          obtain ⟨ad, a, rfl, ha, ca⟩ := (H0.out.2.2.2.2.2.below hb).at9.2.2.2 i hik
          have hak : a < k := HM.out.2.2.1.lt a (List.mem_of_getElem? ha)
          obtain ⟨vz, hvz⟩ := H0.out.1.get hak
          have cz := (H0.out.1.below hb).load hvz
          obtain ⟨AE, cE, hve, hre⟩ := (H0.out.1.rowN hvz).form
          obtain ⟨q, hq⟩ : ∃ q, (eM M a).length = q := ⟨_, rfl⟩
          have hq9 : q ≤ 1048576 := by rw [← hq]; have := eM_len M a; have := HM.out.2.2.2.2; omega
          rw [hq] at hve hre
          subst hve
          have HA := Lib.hid (And.intro hb (And.intro hF (And.intro hL (And.intro ha (And.intro hre hq)))))
          have a0 : (0 : Int) ≤ a := by omega
          have a1 : (a : Int) < k := by omega
          clear hb hF hL ha hvz hre hq
          go_wp2_with fail
          go_loopw [39] (fun jv wr2 => ∃ (j : Nat) (O : List Nat), jv = .int .i64 j ∧ j ≤ q ∧ Below V0.heap.size V0 wr2 ∧ IntB bt O wr2 ∧ Dpx M k D i j O) (fun jv _ => q - (intOf jv).toNat)
          case atStart => exact ⟨0, O0, rfl, Nat.zero_le _, HA.out.1, HA.out.2.1, HA.out.2.2.1⟩
          case round =>
            obtain ⟨j, O, rfl, hj, hb, hF, hL⟩ := hrel
            by_cases hjq : j < q
            · obtain ⟨ae, t, rfl, ht, ct⟩ := (HA.out.2.2.2.2.1.below hb).at9.2.2.2 j hjq
              have htk : t < k := (HM.out.1 _ (eM_mem.1 (List.mem_of_getElem? ht))).2
              obtain ⟨u, hu⟩ : ∃ u, O[t]? = some u := ⟨_, List.getElem?_eq_getElem (by rw [hL.len]; exact htk)⟩
              obtain ⟨b, hb'⟩ : ∃ b, O[a]? = some b := ⟨_, List.getElem?_eq_getElem (by rw [hL.len]; exact hak)⟩
              have c1 := hF.load hb'
              have c2 := hF.load hu
              have fz := hF.frz t
              have hb9 : b ≤ 4096 := Nat.le_trans (hL.ub _ _ hb') (Nat.le_trans (dpT_le HM.out.1 HM.out.2.1 hak) hk)
              have hst := hL.step HM.out.1 HM.out.2.1 HM.out.2.2.1 HA.out.2.2.2.1 ht hu hb'
              have hF2 := hF.set t (max u (b + 1))
              have hb2 := hb.setCell (p := ⟨bt, t, none⟩) (by show _ ≤ bt; rw [hbt]; exact Nat.le_refl _) (.int .i64 ((max u (b + 1) : Nat) : Int))
              have hmx : (if (u : Int) < (b : Int) + 1 then (b : Int) + 1 else (u : Int)) = ((max u (b + 1) : Nat) : Int) := by split <;> omega
              have HP := Lib.hid (And.intro hst (And.intro hF2 (And.intro hb2 hmx)))
              have y0 : IntKind.i64.wrap ((b : Int) + 1) = (b : Int) + 1 := IntWalk.i64_in _ (by omega)
              have t0 : (0 : Int) ≤ t := by omega
              have t1 : (t : Int) < k := by omega
              have j0 : (0 : Int) ≤ j := by omega
              have j1 : (j : Int) < q := by omega
              clear hb hF hL hst hF2 hb2 hmx ht hb' hu
              go_wp2_with fail
              go_still_tail 13, (by kernel_rfl)
              change wpList _ _ _ _ _ wr.drew
              have fd : wr.drew.frozen? ⟨bt, t, none⟩ = false := fz
              have cd : wr.drew.cell? ⟨bt, t, none⟩ = some (.int .i64 u) := c2
              clear fz c1 c2 ct
              go_wp2_with fail
              rw [HP.out.2.2.2]
              exact ⟨⟨j + 1, _, by go_num, hjq, HP.out.2.2.1.trans (below_dq _ 1), HP.out.2.1, HP.out.1⟩, by simp [intOf]; omega⟩
            · obtain rfl : q = j := by omega
              have hL2 : Dpx M k D (i + 1) 0 O := Dpx.next HA.out.2.2.2.1 (by rw [HA.out.2.2.2.2.2]; exact hL)
              have HP := Lib.hid (And.intro hb (And.intro hF hL2))
              have j1 : ¬ (q : Int) < q := by omega
              clear hb hF hL hL2
              go_wp2_with fail
              exact ⟨⟨i + 1, O, by go_num, hik, HP.out.1, HP.out.2.1, HP.out.2.2⟩, by simp [intOf]; omega⟩
        · obtain rfl : k = i := by omega
          have hfin := hL.done HM.out.1 HM.out.2.1 HM.out.2.2.1 HM.out.2.2.2.1
          have HF := Lib.hid (And.intro (hF.row hL.len (by unfold maxLen; omega)) (And.intro (H0.out.2.1.trans (hb.mono H0.out.2.1.size)) hfin))
          have s1 : ¬ (k : Int) < k := by omega
          clear hb hF hL hfin
          go_wp2_with fail
          go_ret2
          refine ⟨some ⟨bt, 0, none⟩, k, ?_, ?_, HF.out.2.1⟩
          · rfl
          · rw [← HF.out.2.2]; exact HF.out.1
  · rw [orA_bad hck] at hOr
    rw [dpA_bad hck]
    obtain ⟨q, hq⟩ : ∃ q, ckW n L = q := ⟨_, rfl⟩
    rw [hq] at hOr hck ⊢
    dsimp only at hOr ⊢
    rw [errE_pos hck] at hOr ⊢
    unfold errK at hOr ⊢
    have HOr := Lib.hid hOr
    clear hv hq hck hOr
    go_enter Tryd.func12, Tryd.ntmps12
    go_wp2_with fail
    with_reducible refine HOr.out.mono ?_
    rintro e w1 ⟨A, c, rfl, hrow, hb1⟩
    have HB := Lib.hid hb1
    clear hb1 hrow
    go_wp2_with fail
    go_ret2
    exact ⟨none, 0, rfl, RowN.none _, HB.out⟩
end Go.Proofs.YthmklmilgcjmlaaDoor

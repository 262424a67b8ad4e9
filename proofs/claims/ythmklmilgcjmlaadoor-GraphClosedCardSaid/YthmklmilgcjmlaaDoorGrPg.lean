/- Contract: Loop; the package's contracts together. -/
import Derived.Test.YthmklmilgcjmlaaDoorGrRg
namespace Go.Proofs.YthmklmilgcjmlaaDoor
open Go.RowKit

def gdM (R : List Nat) (p : Nat × Nat) : Prop := R[p.1]? = R[p.2]?
/-- The least begin of those ways that can be gone back. -/
structure LsP (R : List Nat) (ps : List (Nat × Nat)) (o : Option Nat) : Prop where
  no : o = none → ∀ p ∈ ps, ¬ gdM R p
  yes : ∀ l, o = some l → (∃ p ∈ ps, gdM R p ∧ p.1 = l) ∧ ∀ p ∈ ps, gdM R p → l ≤ p.1
theorem LsP.nil (R : List Nat) : LsP R [] none := ⟨fun _ p hp => (by cases hp), fun l h => (by cases h)⟩
theorem LsP.bad {R : List Nat} {M : Wt} {i : Nat} {o : Option Nat} {p : Nat × Nat} (h : LsP R (M.take i) o) (hp : M[i]? = some p) (hb : ¬ gdM R p) : LsP R (M.take (i + 1)) o := by
  obtain ⟨hi, e⟩ := List.getElem?_eq_some_iff.1 hp
  rw [List.take_succ_eq_append_getElem hi, e]
  refine ⟨fun ho q hq => ?_, fun l ho => ?_⟩
  · rcases List.mem_append.1 hq with hq | hq
    · exact h.no ho q hq
    · rw [List.mem_singleton.1 hq]; exact hb
  · obtain ⟨⟨q, hq, h1, h2⟩, h3⟩ := h.yes l ho
    refine ⟨⟨q, List.mem_append.2 (.inl hq), h1, h2⟩, fun r hr hg => ?_⟩
    rcases List.mem_append.1 hr with hr | hr
    · exact h3 r hr hg
    · rw [List.mem_singleton.1 hr] at hg; exact absurd hg hb
theorem LsP.take {R : List Nat} {M : Wt} {i : Nat} {o : Option Nat} {p : Nat × Nat} (h : LsP R (M.take i) o) (hp : M[i]? = some p) (hb : gdM R p) (hl : ∀ l, o = some l → p.1 < l) : LsP R (M.take (i + 1)) (some p.1) := by
  obtain ⟨hi, e⟩ := List.getElem?_eq_some_iff.1 hp
  rw [List.take_succ_eq_append_getElem hi, e]
  refine ⟨fun ho => by (cases ho), fun l ho => ?_⟩
  injection ho with ho
  subst ho
  refine ⟨⟨p, List.mem_append.2 (.inr (List.mem_singleton.2 rfl)), hb, rfl⟩, fun r hr hg => ?_⟩
  rcases List.mem_append.1 hr with hr | hr
  · cases o with
    | none => exact absurd hg (h.no rfl r hr)
    | some l =>
      have h1 := (h.yes l rfl).2 r hr hg
      have h2 := hl l rfl
      omega
  · rw [List.mem_singleton.1 hr]; exact Nat.le_refl _
theorem LsP.keep {R : List Nat} {M : Wt} {i l : Nat} {p : Nat × Nat} (h : LsP R (M.take i) (some l)) (hp : M[i]? = some p) (hl : l ≤ p.1) : LsP R (M.take (i + 1)) (some l) := by
  obtain ⟨hi, e⟩ := List.getElem?_eq_some_iff.1 hp
  rw [List.take_succ_eq_append_getElem hi, e]
  refine ⟨fun ho => by (cases ho), fun l' ho => ?_⟩
  injection ho with ho
  subst ho
  obtain ⟨⟨q, hq, h1, h2⟩, h3⟩ := h.yes l rfl
  refine ⟨⟨q, List.mem_append.2 (.inl hq), h1, h2⟩, fun r hr hg => ?_⟩
  rcases List.mem_append.1 hr with hr | hr
  · exact h3 r hr hg
  · rw [List.mem_singleton.1 hr]; exact hl
theorem LsP.fin {M : Wt} {n : Nat} (hM : Okw n M) {R : List Nat} (hR : ∀ a b, a < n → b < n → (R[a]? = R[b]? ↔ ME (eM M) a b)) {o : Option Nat} (h : LsP R M o) : lpT M n = o := by
  have hgood : ∀ y, Wy (eM M) y y → ∃ p ∈ M, gdM R p ∧ p.1 = y := fun y hy => by
    obtain ⟨j, hj, hw⟩ := hy.head
    have hm := eM_mem.1 hj
    refine ⟨(y, j), hm, ?_, rfl⟩
    refine (hR y j (hM _ hm).1 (hM _ hm).2).2 ?_
    rcases hw with rfl | hw
    · exact .inl rfl
    · exact .inr ⟨.one hj, hw⟩
  cases o with
  | none =>
    refine (lpT_none hM).2 ?_
    rintro ⟨y, hy⟩
    obtain ⟨p, hp, hg, _⟩ := hgood y hy
    exact h.no rfl p hp hg
  | some l =>
    obtain ⟨⟨p, hp, hg, e⟩, h3⟩ := h.yes l rfl
    subst e
    have hpn := hM p hp
    refine lpT_of hpn.1 ?_ fun y hy hw => ?_
    · have hme := (hR p.1 p.2 hpn.1 hpn.2).1 hg
      have hj : p.2 ∈ eM M p.1 := eM_mem.2 hp
      rcases hme with e | ⟨_, h2⟩
      · rw [← e] at hj
        exact .one hj
      · exact .more hj h2
    · obtain ⟨q, hq, hg2, e⟩ := hgood y hw
      have := h3 q hq hg2
      omega
set_option maxRecDepth 100000 in
set_option maxHeartbeats 4000000 in
theorem pg_lp (n : Int) (v : Value) (L : List (Int × Int)) (w : World) (hn : I64 n) (hv : RowW w v L) : Calls Tryd.prog 10 #[.int .i64 n, v] w fun e w' => e = .returned (.tuple #[.int .i64 (lpA n L).1, .bool (lpA n L).2.1, errE (lpA n L).2.2]) ∧ Below w.heap.size w w' := by
  have HC := Lib.hid (pg_ck n v L w hn hv)
  by_cases hck : ckW n L = 0
  · obtain ⟨k, rfl, hk, hlen, hM, hL⟩ := ckW_ok hck
    have hcst : L = cst (ntW L) := hL
    have hml : (ntW L).length ≤ 1048576 := by unfold ntW; rw [List.length_map]; exact hlen
    rw [hck, errE_zero] at HC
    have hans : lpA (k : Int) L = (match lpT (ntW L) k with | some x => ((x : Int), true, 0) | none => (0, false, 0)) := by
      unfold lpA
      rw [if_pos hck, Int.toNat_natCast]
      rfl
    rw [hans]
    have HRi := Lib.hid (fun W (hb : Below w.heap.size w W) => rings_any k v (ntW L) W hk hM hml (by rw [← hcst]; exact hv.below hb))
    obtain ⟨A, c, hve, hr⟩ := hv.form
    obtain ⟨m, hm⟩ : ∃ m, L.length = m := ⟨_, rfl⟩
    rw [hm] at hve hr
    have hm9 : m ≤ 1048576 := by omega
    subst hve
    rw [hcst] at hr
    have hMl : (ntW L).length = m := by unfold ntW; rw [List.length_map]; exact hm
    obtain ⟨M, hMe⟩ : ∃ M, ntW L = M := ⟨_, rfl⟩
    rw [hMe] at hM hr HRi hMl ⊢
    obtain ⟨OT, hOT⟩ : ∃ o, lpT M k = o := ⟨_, rfl⟩
    rw [hOT]
    have HOT := Lib.hid hOT
    have HM := Lib.hid (And.intro hM (And.intro hr hMl))
    have q0 : (0 : Int) ≤ k := by omega
    clear hv hck hM hL hcst hml hans hr hMl hMe hm hlen hn hOT
    go_enter Tryd.func10, Tryd.ntmps10
    go_wp2_with fail
    with_reducible refine HC.out.mono ?_
    rintro e w1 ⟨rfl, hb1⟩
    have HB := Lib.hid hb1
    clear hb1
    go_wp2_with fail
    with_reducible refine (HRi.out _ HB.out).mono ?_
    rintro e w2 ⟨R, br, rfl, hI, hRl, hb2, hfin⟩
    have H2 := Lib.hid (And.intro hI (And.intro hRl (And.intro (HB.out.trans (hb2.mono HB.out.size)) hfin)))
    clear hI hRl hb2 hfin
    go_wp2_with fail
    go_loopw [8, 9, 25] (fun lv sv kv wr => ∃ (i : Nat) (o : Option Nat), lv = .int .i64 (o.getD 0 : Nat) ∧ sv = .bool o.isSome ∧ kv = .int .i64 i ∧ i ≤ m ∧ Below w2.heap.size w2 wr ∧ LsP R (M.take i) o) (fun _ _ kv _ => m - (intOf kv).toNat)
    case atStart => exact ⟨0, none, rfl, rfl, rfl, Nat.zero_le _, Below.refl _ _, by rw [List.take_zero]; exact LsP.nil R⟩
    case round =>
      obtain ⟨i, o, rfl, rfl, rfl, hi, hb, hls⟩ := hrel
      by_cases him : i < m
      · have s0 : (0 : Int) ≤ i := by omega
        have s1 : (i : Int) < m := by omega
        have hil : i < M.length := by rw [HM.out.2.2]; exact him
        obtain ⟨p, hp⟩ : ∃ p, M[i]? = some p := ⟨_, List.getElem?_eq_getElem hil⟩
        have hpm := HM.out.1 p (List.mem_of_getElem? hp)
        have hbw0 : Below w.heap.size w wr := H2.out.2.2.1.trans (hb.mono H2.out.2.2.1.size)
        obtain ⟨ad, X, rfl, hX, k0, k1⟩ := (HM.out.2.1.below hbw0).parts.2.2.2 i him _ (cst_get hp)
        dsimp only at k0 k1
        obtain ⟨W1, hW1⟩ : ∃ x, wr.alloc (.cells #[.int .i64 (p.1 : Nat), .int .i64 (p.2 : Nat)] 40) = x := ⟨_, rfl⟩
        have hbW : Below wr.heap.size wr W1 := by rw [← hW1]; exact (Below.refl _ _).alloc (Nat.le_refl _) _
        obtain ⟨gw, hgw⟩ : ∃ x, wr.heap.size = x := ⟨_, rfl⟩
        have hWb : W1.heap[gw]? = some (.cells #[.int .i64 (p.1 : Nat), .int .i64 (p.2 : Nat)] 40 (0, 0)) := by
          rw [← hW1, ← hgw]
          exact (MapKept.heap_alloc wr _).1
        have c0 := cell9_blk hWb 0 (v := .int .i64 (p.1 : Nat)) rfl
        have c1 := cell9_blk hWb 1 (v := .int .i64 (p.2 : Nat)) rfl
        have hI1 := (H2.out.1.below hb).below hbW
        obtain ⟨x1, hx1⟩ : ∃ x, R[p.1]? = some x := ⟨_, List.getElem?_eq_getElem (by rw [H2.out.2.1]; exact hpm.1)⟩
        obtain ⟨x2, hx2⟩ : ∃ x, R[p.2]? = some x := ⟨_, List.getElem?_eq_getElem (by rw [H2.out.2.1]; exact hpm.2)⟩
        have d1 := hI1.load hx1
        have d2 := hI1.load hx2
        have hgd : gdM R p ↔ x1 = x2 := by
          unfold gdM
          rw [hx1, hx2]
          exact ⟨fun h => Option.some.inj h, fun h => by rw [h]⟩
        have HS := Lib.hid (And.intro hls (And.intro hp (And.intro hgd (hb.trans (hbW.mono hb.size)))))
        have hpm1 := hpm.1
        have hpm2 := hpm.2
        obtain ⟨a, ha⟩ : ∃ y, p.1 = y := ⟨_, rfl⟩
        obtain ⟨b, hb'⟩ : ∃ y, p.2 = y := ⟨_, rfl⟩
        rw [ha] at k0 c0 hpm1 d1
        rw [hb'] at k1 c1 hpm2 d2
        rw [ha, hb'] at hW1
        have HA := Lib.hid (And.intro ha hb')
        have a0 : (0 : Int) ≤ a := by omega
        have a1 : (a : Int) < k := by omega
        have b0 : (0 : Int) ≤ b := by omega
        have b1 : (b : Int) < k := by omega
        clear hb hls hp hpm hbW hWb hI1 hx1 hx2 hgd hil hbw0 ha hb'
        by_cases hx : x1 = x2
        · have hg := HS.out.2.2.1.2 hx
          have HG := Lib.hid hg
          subst hx
          clear hg
          cases o with
          | none =>
            have hnew := HS.out.1.take HS.out.2.1 HG.out (fun l h => by cases h)
            rw [HA.out.1] at hnew
            have HN := Lib.hid hnew
            clear hnew
            go_wp2_with fail
            go_quiet (fail)
            go_wp2_with fail
            exact ⟨⟨i + 1, some a, rfl, rfl, by go_num, him, HS.out.2.2.2.trans (below_dq _ _), HN.out⟩, by simp [intOf]; omega⟩
          | some l =>
            by_cases hal : a < l
            · have hal' : (a : Int) < l := by omega
              have hnew := HS.out.1.take HS.out.2.1 HG.out (fun l' h => by injection h with h; rw [← h, HA.out.1]; exact hal)
              rw [HA.out.1] at hnew
              have HN := Lib.hid hnew
              clear hnew
              go_wp2_with fail
              go_quiet (fail)
              go_wp2_with fail
              exact ⟨⟨i + 1, some a, rfl, rfl, by go_num, him, HS.out.2.2.2.trans (below_dq _ _), HN.out⟩, by simp [intOf]; omega⟩
            · have hal' : ¬ (a : Int) < l := by omega
              have hnew := HS.out.1.keep HS.out.2.1 (by rw [HA.out.1]; omega)
              have HN := Lib.hid hnew
              clear hnew
              go_wp2_with fail
              go_quiet (fail)
              go_wp2_with fail
              exact ⟨⟨i + 1, some l, rfl, rfl, by go_num, him, HS.out.2.2.2.trans (below_dq _ _), HN.out⟩, by simp [intOf]; omega⟩
        · have hnew := HS.out.1.bad HS.out.2.1 (fun h => hx (HS.out.2.2.1.1 h))
          have HN := Lib.hid hnew
          have hxi : ¬ ((x1 : Int) = x2) := by omega
          have hxb : ((x1 : Int) == (x2 : Int)) = false := beq_eq_false_iff_ne.2 hxi
          obtain ⟨is, his⟩ : ∃ y, o.isSome = y := ⟨_, rfl⟩
          obtain ⟨le, hle⟩ : ∃ y, o.getD 0 = y := ⟨_, rfl⟩
          rw [his, hle]
          have HO := Lib.hid (And.intro his hle)
          clear hnew hx his hle
          go_wp2_with fail
          go_quiet (fail)
          go_wp2_with fail
          exact ⟨⟨i + 1, o, by rw [HO.out.2], by rw [HO.out.1], by go_num, him, HS.out.2.2.2.trans (below_dq _ _), HN.out⟩, by simp [intOf]; omega⟩
      · obtain rfl : m = i := by omega
        have hal : M.take m = M := List.take_of_length_le (by rw [HM.out.2.2]; exact Nat.le_refl _)
        rw [hal] at hls
        have hlp := hls.fin HM.out.1 H2.out.2.2.2
        have hoe : OT = o := HOT.out.symm.trans hlp
        have HF := Lib.hid (H2.out.2.2.1.trans (hb.mono H2.out.2.2.1.size))
        have s1 : ¬ (m : Int) < m := by omega
        clear hb hls hal hlp
        subst hoe
        cases OT with
        | none =>
          go_wp2_with fail
          go_ret3
          first
          | exact ⟨rfl, HF.out⟩
          | (refine ⟨?_, HF.out⟩
             rw [errE_zero]
             rfl)
        | some l =>
          go_wp2_with fail
          go_ret3
          first
          | exact ⟨rfl, HF.out⟩
          | (refine ⟨?_, HF.out⟩
             rw [errE_zero]
             rfl)
  · rw [lpA_bad hck]
    obtain ⟨q, hq⟩ : ∃ q, ckW n L = q := ⟨_, rfl⟩
    rw [hq] at HC hck ⊢
    dsimp only
    rw [errE_pos hck] at HC ⊢
    unfold errK at HC ⊢
    clear hv hq hck hn
    go_enter Tryd.func10, Tryd.ntmps10
    go_wp2_with fail
    with_reducible refine HC.out.mono ?_
    rintro e w1 ⟨rfl, hb1⟩
    have HB := Lib.hid hb1
    clear hb1
    go_wp2_with fail
    go_ret3
    exact ⟨rfl, HB.out⟩
theorem pgG : PgG := ⟨pg_ck, pg_lp, pg_or, pg_dp, pg_rc⟩
end Go.Proofs.YthmklmilgcjmlaaDoor

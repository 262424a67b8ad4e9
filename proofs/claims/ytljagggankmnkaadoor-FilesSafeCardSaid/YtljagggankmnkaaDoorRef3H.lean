/- The reference's lists (layer 3): Crash. -/
import Derived.Test.YtljagggankmnkaaDoorRef3G
import Derived.Test.YtljagggankmnkaaDoorRef3F
namespace Go.Proofs.YtljagggankmnkaaDoor
open Go.RowKit Go.Maps

theorem RdS.four {w : World} {ad X : Addr} {T : List (Stp Bs)} {i : Nat} (h : RdS w (some ad) T) (hi : i < T.length) (hX : ad.add (i * 4) = X) : w.cell? X = some (.int .i64 T[i].k) ∧ w.cell? { block := X.block, off := X.off + 1 } = some (.string (str T[i].nm)) ∧ w.cell? { block := X.block, off := X.off + 2 } = some (.string (str T[i].to)) ∧ w.cell? { block := X.block, off := X.off + 3 } = some (.string (str T[i].b)) := by
  obtain ⟨ad', e, hc⟩ := h (by rw [scat_len]; omega)
  injection e with e
  subst e
  subst hX
  have hj : ∀ j u, j < 4 → (stepCells T[i])[j]? = some u → w.cell? (ad.add (i * 4 + j)) = some u := fun j u hj hu => hc _ u (by rw [flatk_get stepCells 4 (fun _ => rfl) T i hi j hj]; exact hu)
  refine ⟨hj 0 _ (by omega) rfl, ?_, ?_, ?_⟩
  · have := hj 1 _ (by omega) rfl; rw [← add_add'] at this; exact this
  · have := hj 2 _ (by omega) rfl; rw [← add_add'] at this; exact this
  · have := hj 3 _ (by omega) rfl; rw [← add_add'] at this; exact this
theorem RdS.some_ {w : World} {A : Option Addr} {T : List (Stp Bs)} (h : RdS w A T) (hi : 0 < T.length) : ∃ ad, A = some ad := by
  obtain ⟨ad, e, _⟩ := h (by rw [scat_len]; omega)
  exact ⟨ad, e⟩
theorem str_cut {l : Bs} {m : Nat} (hm : (str l).size = m) (q : Nat) : (str l).extract 0 (min q m) = str (l.take q) := by
  have hl : l.length = m := hm
  apply ByteArray.ext
  simp only [ByteArray.data_extract, str, List.extract_toArray, List.extract_eq_take_drop, List.drop_zero, Nat.sub_zero]
  rw [← hl, ← List.take_eq_take_min]
section
variable (A1 : Option Addr) (n1 c1 : Nat) (A2 : Option Addr) (n2 c2 : Nat) (A3 : Option Addr) (n3 c3 : Nat) (w : World)
set_option maxHeartbeats 1000000 in
set_option maxRecDepth 100000 in
theorem crashRef_bad (k q : Int) (h : k < 0 ∨ (n3 : Int) < k ∨ q < 0) :
    Calls Tryd.prog 26 #[.agg #[.slice A1 n1 c1, .slice A2 n2 c2, .slice A3 n3 c3], .int .i64 k, .int .i64 q] w fun e w' => e = .returned (.tuple #[.agg #[.slice A1 n1 c1, .slice A2 n2 c2, .slice A3 n3 c3], .int .i64 1]) ∧ Below w.heap.size w w' := by
  have g0 := heap_alloc2_old w (.cells #[.slice A1 n1 c1, .slice A2 n2 c2, .slice A3 n3 c3] 28) (.cells #[.slice none 0 0, .slice none 0 0, .slice none 0 0] 28)
  have g2 := heap_alloc2_new w (.cells #[.slice A1 n1 c1, .slice A2 n2 c2, .slice A3 n3 c3] 28) (.cells #[.slice none 0 0, .slice none 0 0, .slice none 0 0] 28)
  have a0 := cell_blk g0 0 (v := .slice A1 n1 c1) rfl
  have a1 := cell_blk g0 1 (v := .slice A2 n2 c2) rfl
  have a2 := cell_blk g0 2 (v := .slice A3 n3 c3) rfl
  have r0 := cell_blk g2 0 (v := .slice none 0 0) rfl
  have r1 := cell_blk g2 1 (v := .slice none 0 0) rfl
  have r2 := cell_blk g2 2 (v := .slice none 0 0) rfl
  have f0 := frz_blk g2 0
  have f1 := frz_blk g2 1
  have f2 := frz_blk g2 2
  clear g0 g2
  rcases (show k < 0 ∨ (¬ k < 0 ∧ (n3 : Int) < k) ∨ (¬ k < 0 ∧ ¬ ((n3 : Int) < k) ∧ q < 0) by omega) with h1 | ⟨h1, h2⟩ | ⟨h1, h2, h3⟩
  all_goals
    clear h
    go_enter Tryd.func26, Tryd.ntmps26
    go_wp2_with fail
    (try simp only [Exit.inBlock, Exit.then])
    refine bodyPost_ret (results_cell2 rfl _ _ (w.heap.size + 1) _ #[.slice A1 n1 c1, .slice A2 n2 c2, .slice A3 n3 c3] (0, 0) _ rfl (heap_alloc2_new _ _ _) Tryd.underlying28 rfl (by kernel_rfl)) rfl ⟨rfl, ((Below.refl w.heap.size w).alloc (Nat.le_refl _) _).alloc (by rw [World.size_alloc]; omega) _⟩
set_option maxHeartbeats 4000000 in
set_option maxRecDepth 100000 in
theorem crashRef_ok (k q : Nat) (no su : List (Bs × Bs)) (st : List (Stp Bs)) (hist : Hist su st no) (hn2 : su.length = n2) (hn3 : st.length = n3) (hk : k ≤ n3) (hl3 : n3 ≤ 4096) (hq : (q : Int) ≤ 9223372036854775807) (hr2 : RdF w A2 su) (hr3 : RdS w A3 st) :
    Calls Tryd.prog 26 #[.agg #[.slice A1 n1 c1, .slice A2 n2 c2, .slice A3 n3 c3], .int .i64 k, .int .i64 q] w fun e w' => ∃ Al cl, e = .returned (.tuple #[.agg #[.slice Al (crashF su st k q).length cl, .slice Al (crashF su st k q).length cl, .slice none 0 0], .int .i64 0]) ∧ Below w.heap.size w w' ∧ RdF w' Al (crashF su st k q) ∧ ∀ a, Al = some a → (w.heap.size ≤ a.block ∨ (A2 = some a ∧ crashF su st k q = su)) := by
  obtain ⟨w0, hw0⟩ : ∃ w0, (w.alloc (.cells #[.slice A1 n1 c1, .slice A2 n2 c2, .slice A3 n3 c3] 28)).alloc (.cells #[.slice none 0 0, .slice none 0 0, .slice none 0 0] 28) = w0 := ⟨_, rfl⟩
  have g0 := heap_alloc2_old w (.cells #[.slice A1 n1 c1, .slice A2 n2 c2, .slice A3 n3 c3] 28) (.cells #[.slice none 0 0, .slice none 0 0, .slice none 0 0] 28)
  have g2 := heap_alloc2_new w (.cells #[.slice A1 n1 c1, .slice A2 n2 c2, .slice A3 n3 c3] 28) (.cells #[.slice none 0 0, .slice none 0 0, .slice none 0 0] 28)
  have hbl := ((Below.refl w.heap.size w).alloc (Nat.le_refl _) (.cells #[.slice A1 n1 c1, .slice A2 n2 c2, .slice A3 n3 c3] 28)).alloc (by rw [World.size_alloc]; omega) (.cells #[.slice none 0 0, .slice none 0 0, .slice none 0 0] 28)
  have a1 := cell_blk g0 1 (v := .slice A2 n2 c2) rfl
  have a2 := cell_blk g0 2 (v := .slice A3 n3 c3) rfl
  have hsz : w0.heap.size = w.heap.size + 2 := by rw [← hw0]; simp
  rw [hw0] at g0 g2 hbl
  have HW := Lib.hid (And.intro hbl (And.intro (hr2.below hbl) (And.intro (hr3.below hbl) hsz)))
  have HR2 := Lib.hid hr2
  have HN := Lib.hid (And.intro hn2 (And.intro hn3 hist))
  have H0 := Lib.hid hw0
  have HBL := Lib.hid (fun (W : World) (h : Below w0.heap.size w0 W) => (show W.heap[w.heap.size]? = some (.cells #[.slice A1 n1 c1, .slice A2 n2 c2, .slice A3 n3 c3] 28) ∧ W.heap[w.heap.size + 1]? = some (.cells #[.slice none 0 0, .slice none 0 0, .slice none 0 0] 28) from
    ⟨(h.block _ (by omega)).trans g0, (h.block _ (by omega)).trans g2⟩))
  clear g0 g2 hbl hsz hr2 hr3 hn2 hn3 hist hw0
  have p0 : ¬ ((k : Int) < 0) := by omega
  have p1 : ¬ ((n3 : Int) < k) := by omega
  have p2 : ¬ ((q : Int) < 0) := by omega
  go_enter Tryd.func26, Tryd.ntmps26
  go_wp2_with fail
  go_loopw [8, 9] (fun l v wr => ∃ (i : Nat) (Al : Option Addr) (cl : Nat), v = .int .i64 i ∧ i ≤ k ∧ l = .slice Al (plays [] su (st.take i)).length cl ∧ Below w0.heap.size w0 wr ∧ RdF wr Al (plays [] su (st.take i)) ∧ ∀ a, Al = some a → (w0.heap.size ≤ a.block ∨ (A2 = some a ∧ plays [] su (st.take i) = su))) (fun _ v _ => k - (intOf v).toNat)
  case atStart => exact ⟨0, A2, c2, rfl, Nat.zero_le _, by rw [show plays [] su (st.take 0) = su from rfl, HN.out.1], by rw [H0.out]; exact Below.refl _ _, by rw [H0.out]; exact HW.out.2.1, fun a e => .inr ⟨e, rfl⟩⟩
  case round =>
    obtain ⟨i, Al, cl, rfl, hi, rfl, hb, hr, hA⟩ := hrel
    obtain ⟨g0, g2⟩ := HBL.out _ hb
    have HG := Lib.hid (And.intro g0 g2)
    have b2 := cell_blk g0 2 (v := .slice A3 n3 c3) rfl
    have HK := Lib.hid (And.intro hb (And.intro hr hA))
    clear hb hr hA g0 g2 a1 a2
    rcases Nat.lt_or_ge i k with hlt | hge
    · have q0 : (0 : Int) ≤ i := by omega
      have q1 : (i : Int) < k := by omega
      have q2 : (i : Int) < n3 := by omega
      have hil : i < st.length := by rw [HN.out.2.1]; omega
      obtain ⟨ad, rfl⟩ := HW.out.2.2.1.some_ (Nat.lt_of_le_of_lt (Nat.zero_le _) hil)
      obtain ⟨X, hX⟩ : ∃ X, ad.add (i * 4) = X := ⟨_, rfl⟩
      obtain ⟨k0, k1, k2, k3⟩ := (HW.out.2.2.1.below HK.out.1).four hil hX
      have hst := hist_step HN.out.2.2 i hil
      have hpl := plays_take ([] : Bs) su st i hil
      obtain ⟨σ, hσ⟩ : ∃ σ, st[i] = σ := ⟨_, rfl⟩
      rw [hσ] at k0 k1 k2 k3 hst hpl
      have hle := hist_take HN.out.2.2 i (by omega)
      have HP := Lib.hid (And.intro hst.1 (And.intro hpl hle))
      clear hst hpl hσ hle
      go_wp2_with fail
      refine (doRef_is σ Al _ cl (plays [] su (st.take i)) _ rfl (by have := HP.out.2.2; omega) HK.out.2.1 (fun h => HP.out.1 (by omega))).mono ?_
      rintro e w2 ⟨A', c', rfl, hb2, hr2, ha2⟩
      rw [← HP.out.2.1] at hr2 ⊢
      have HQ := Lib.hid (And.intro (HK.out.1.trans (hb2.mono HK.out.1.size)) (And.intro hr2 (fun a e => Nat.le_trans HK.out.1.size (ha2 a e) : ∀ a, A' = some a → w0.heap.size ≤ a.block)))
      clear hb2 hr2 ha2 k0 k1 k2 k3 b2
      go_wp2_with fail
      exact ⟨⟨i + 1, A', c', by go_num, hlt, rfl, HQ.out.1, HQ.out.2.1, fun a e => .inl (HQ.out.2.2 a e)⟩, by simp [intOf]; omega⟩
    · obtain rfl : i = k := by omega
      have q1 : ¬ ((i : Int) < i) := by omega
      obtain ⟨hg0, hg2⟩ := HG.out
      have r0 := cell_blk hg2 0 (v := .slice none 0 0) rfl
      have r1 := cell_blk hg2 1 (v := .slice none 0 0) rfl
      have r2 := cell_blk hg2 2 (v := .slice none 0 0) rfl
      have f0 := frz_blk hg2 0
      have f1 := frz_blk hg2 1
      have f2 := frz_blk hg2 2
      clear hg0 hg2
      have hne : ∀ x y z, RdF (((wr.setCell ⟨w.heap.size + 1, 0, none⟩ x).setCell ⟨w.heap.size + 1, 1, none⟩ y).setCell ⟨w.heap.size + 1, 2, none⟩ z) Al (plays [] su (st.take i)) := fun x y z hn => by
        refine rd_set3 HK.out.2.1 (fun q e => ?_) hn
        rcases HK.out.2.2 q e with h | ⟨h, h'⟩
        · have := HW.out.2.2.2
          omega
        · rw [h'] at hn
          obtain ⟨ad, e2, hc⟩ := HR2.out hn
          have h0 := World.block_lt_of_cell? w _ (hc 0 _ (List.getElem?_eq_getElem hn))
          rw [block_add] at h0
          rw [h] at e2
          injection e2 with e2
          subst e2
          omega
      have HNE := Lib.hid hne
      clear hne
      by_cases hin : i < n3 ∧ 0 < q
      · obtain ⟨h1, h2⟩ := hin
        have q2 : (i : Int) < n3 := by omega
        have q3 : (0 : Int) < q := by omega
        have q4 : (0 : Int) ≤ i := by omega
        have hil : i < st.length := by rw [HN.out.2.1]; omega
        obtain ⟨ad, rfl⟩ := HW.out.2.2.1.some_ (Nat.lt_of_le_of_lt (Nat.zero_le _) hil)
        obtain ⟨X, hX⟩ : ∃ X, ad.add (i * 4) = X := ⟨_, rfl⟩
        obtain ⟨k0, k1, k2, k3⟩ := (HW.out.2.2.1.below HK.out.1).four hil hX
        have hle := hist_take HN.out.2.2 i (by omega)
        have hget : st[i]? = some st[i] := List.getElem?_eq_getElem hil
        obtain ⟨σ, hσ⟩ : ∃ σ, st[i] = σ := ⟨_, rfl⟩
        rw [hσ] at k0 k1 k2 k3 hget
        clear hσ
        by_cases hz : σ.k = 0
        · have hcr := crashF_part (su := su) hget h2 hz
          have hz0 : ((σ.k : Nat) : Int) = 0 := by omega
          rw [hz0] at k0
          have HCR := Lib.hid (And.intro hcr hle)
          have HZ := Lib.hid hz
          clear hcr hle hget hz hz0
          obtain ⟨m, hm⟩ : ∃ m, (str σ.b).size = m := ⟨_, rfl⟩
          have hcut : (str σ.b).extract 0 (min (q : Int) (m : Int)).toNat = str (σ.b.take q) := by
            rw [show (min (q : Int) (m : Int)).toNat = min q m by omega]
            exact str_cut hm q
          have HM := Lib.hid (And.intro hm hcut)
          clear hcut
          rcases Nat.le_total q m with hqm | hqm
          case' inl =>
            have q5 : (q : Int) ≤ m := by omega
          case' inr =>
            have q5 : (m : Int) ≤ q := by omega
          all_goals
            go_wp2_with fail
            rw [HM.out.2]
            refine (doRef_z 0 0 rfl σ.nm σ.to (σ.b.take q) Al _ cl (plays [] su (st.take i)) _ rfl (by have := HCR.out.2; omega) (Rd.alloc HK.out.2.1 _) (fun h => by cases h)).mono ?_
            rintro e w2 ⟨A', c', rfl, hb2, hr2, ha2⟩
            rw [show actF [] (plays [] su (st.take i)) ⟨0, σ.nm, σ.to, σ.b.take q⟩ = crashF su st i q from HCR.out.1.symm] at hr2 ⊢
            have hbw : Below w0.heap.size w0 w2 := (HK.out.1.alloc HK.out.1.size _).trans (hb2.mono (by rw [World.size_alloc]; have := HK.out.1.size; omega))
            obtain ⟨hg0, hg2⟩ := HBL.out _ hbw
            have HQ := Lib.hid (And.intro hbw (And.intro hr2 (And.intro hg2 (fun a e => Nat.le_trans (Nat.le_trans HK.out.1.size (by rw [World.size_alloc]; omega)) (ha2 a e) : ∀ a, A' = some a → w0.heap.size ≤ a.block))))
            clear r0 r1 r2 f0 f1 f2 k0 k1 k2 k3 b2
            have r0 := cell_blk hg2 0 (v := .slice none 0 0) rfl
            have r1 := cell_blk hg2 1 (v := .slice none 0 0) rfl
            have r2 := cell_blk hg2 2 (v := .slice none 0 0) rfl
            have f0 := frz_blk hg2 0
            have f1 := frz_blk hg2 1
            have f2 := frz_blk hg2 2
            clear hg0 hg2 hb2 hr2 ha2 hbw
            go_wp2_with fail
            (try simp only [Exit.inBlock, Exit.then])
            refine bodyPost_ret (results_cell2 rfl _ _ (w.heap.size + 1) _ #[.slice A' (crashF su st i q).length c', .slice A' (crashF su st i q).length c', .slice none 0 0] (0, 0) _ rfl (set3 HQ.out.2.2.1) Tryd.underlying28 rfl (by kernel_rfl)) rfl ?_
            exact ⟨A', c', rfl, below_set3 (HW.out.1.trans (HQ.out.1.mono HW.out.1.size)) (Nat.le_succ _), rd_set3 HQ.out.2.1 (fun q e => by have := HQ.out.2.2.2 q e; have := HW.out.2.2.2; omega), fun a e => .inl (Nat.le_trans HW.out.1.size (HQ.out.2.2.2 a e))⟩
        · have hcr := crashF_plain (su := su) (q := q) (st := st) (k := i) (fun s hs => by rw [hget] at hs; injection hs with hs; subst hs; exact fun h => hz h.2)
          have q5 : ¬ ((σ.k : Int) = 0) := by omega
          have HCR := Lib.hid hcr
          clear hcr hget hle hz
          go_wp2_with fail
          (try simp only [Exit.inBlock, Exit.then])
          refine bodyPost_ret (results_cell2 rfl _ _ (w.heap.size + 1) _ #[.slice Al (plays [] su (st.take i)).length cl, .slice Al (plays [] su (st.take i)).length cl, .slice none 0 0] (0, 0) _ rfl (set3 HG.out.2) Tryd.underlying28 rfl (by kernel_rfl)) rfl ?_
          rw [HCR.out]
          exact ⟨Al, ⟨cl, rfl⟩, below_set3 (HW.out.1.trans (HK.out.1.mono HW.out.1.size)) (Nat.le_succ _), HNE.out _ _ _, fun a e => (HK.out.2.2 a e).imp (fun h => Nat.le_trans HW.out.1.size h) (fun h => h)⟩
      · rcases (show ¬ i < n3 ∨ (i < n3 ∧ ¬ 0 < q) by omega) with h1 | ⟨h1, h2⟩
        case' inl =>
          have q2 : ¬ ((i : Int) < n3) := by omega
          have hcr := crashF_plain (su := su) (q := q) (st := st) (k := i) (fun s hs => by have := (List.getElem?_eq_some_iff.1 hs).1; have := HN.out.2.1; omega)
        case' inr =>
          have q2 : (i : Int) < n3 := by omega
          have q3 : ¬ ((0 : Int) < q) := by omega
          have hcr := crashF_plain (su := su) (q := q) (st := st) (k := i) (fun s hs => fun h => h2 h.1)
        all_goals
          have HCR := Lib.hid hcr
          clear hcr
          go_wp2_with fail
          (try simp only [Exit.inBlock, Exit.then])
          refine bodyPost_ret (results_cell2 rfl _ _ (w.heap.size + 1) _ #[.slice Al (plays [] su (st.take i)).length cl, .slice Al (plays [] su (st.take i)).length cl, .slice none 0 0] (0, 0) _ rfl (set3 HG.out.2) Tryd.underlying28 rfl (by kernel_rfl)) rfl ?_
          rw [HCR.out]
          exact ⟨Al, ⟨cl, rfl⟩, below_set3 (HW.out.1.trans (HK.out.1.mono HW.out.1.size)) (Nat.le_succ _), HNE.out _ _ _, fun a e => (HK.out.2.2 a e).imp (fun h => Nat.le_trans HW.out.1.size h) (fun h => h)⟩
end
end Go.Proofs.YtljagggankmnkaaDoor

/- Law BlockGets: its walk. -/
import Derived.Test.YtbeehedppofpnaaDoorL9Sure
import Derived.Test.YtbeehedppofpnaaDoorBkGet
import Derived.Test.YtbeehedppofpnaaDoorBkGv
import Derived.Test.YtbeehedppofpnaaDoorBkH
namespace Go.Proofs.YtbeehedppofpnaaDoor
open Go.RowKit

theorem rowB_one {W : World} {g : Nat} {b : MB} {u : Value} {e : TypeId} {fr : Nat × Nat} (h : W.heap[g]? = some (.cells #[.int .i64 b.1, .string (str b.2.1), u] e fr)) (hr : RowF W u b.2.2) : RowB W (.slice (some ⟨g, 0, none⟩) 1 1) [b] :=
  ⟨some ⟨g, 0, none⟩, 1, [(b, u)], rfl, rfl, Nat.le_refl _, by unfold maxLen; simp, Rd.block h, fun p hp => by rw [List.mem_singleton.1 hp]; exact hr⟩
set_option maxHeartbeats 4000000 in
set_option maxRecDepth 100000 in
theorem gets_walk (b : MB) (u : Value) (nm : ByteArray) (w : World) (hm : Mx w) (hg : ErrT w) (hr : RowF w u b.2.2) (hn : nm.size ≤ maxLen) :
    Calls Tryd.prog 3 #[.agg #[.int .i64 b.1, .string (str b.2.1), u], .string nm] w fun e w' => e = .returned (.bool true) ∧ Below w.heap.size w w' := by
  obtain ⟨nt, rfl⟩ : ∃ l, nm = str l := ⟨nm.data.toList, (str_of nm).symm⟩
  have hnl : nt.length ≤ 9223372036854775807 := hn
  obtain ⟨AF, cF, rfl, hr0⟩ := hr.form
  obtain ⟨m, hmm⟩ : ∃ m, b.2.2.length = m := ⟨_, rfl⟩
  have HMM := Lib.hid hmm
  rw [hmm] at hr0 ⊢
  clear hr
  have hr := hr0
  clear hr0
  obtain ⟨u, hu⟩ : ∃ u, Value.slice AF m cF = u := ⟨_, rfl⟩
  rw [hu] at hr ⊢
  have hbox := (Below.refl w.heap.size w).alloc (Nat.le_refl _) (.cells #[.int .i64 b.1, .string (str b.2.1), u] 24)
  have hbl := (MapKept.heap_alloc w (.cells #[.int .i64 b.1, .string (str b.2.1), u] 24)).1
  obtain ⟨w1, hw1⟩ : ∃ x, w.alloc (.cells #[.int .i64 b.1, .string (str b.2.1), u] 24) = x := ⟨_, rfl⟩
  rw [hw1] at hbox hbl
  have HS : Hid (∀ W, Below w1.heap.size w1 W → W.heap[w.heap.size]? = some (.cells #[.int .i64 b.1, .string (str b.2.1), u] 24 (0, 0)) ∧ RowF W u b.2.2 ∧ Below w.heap.size w W ∧ Mx W ∧ ErrT W ∧ RowB (W.alloc (.cells #[.int .i64 b.1, .string (str b.2.1), u] 24)) (.slice (some ⟨W.heap.size, 0, none⟩) 1 1) [b]) := by
    intro W hW
    have h1 := hbox.trans (hW.mono hbox.size)
    have hal := (Below.refl W.heap.size W).alloc (Nat.le_refl _) (.cells #[.int .i64 b.1, .string (str b.2.1), u] 24)
    exact ⟨(hW.block _ (blk9_lt hbl)).trans hbl, hr.below h1, h1, hm.below h1, hg.below h1, rowB_one (MapKept.heap_alloc W _).1 ((hr.below h1).below hal)⟩
  have HSu := Lib.hid (fun W h1 h2 => sure_any9 W h1 h2)
  have H1 := Lib.hid (HS.out w1 (Below.refl _ _))
  have HL := Lib.hid (large_any _ [b] _ (by simp) H1.out.2.2.2.2.2)
  have HGt := Lib.hid (fun W v L hL hv => get_any b.1 (str b.2.1) v L nt W hL hv)
  have HFn := Lib.hid (fun W (hW : RowF W u b.2.2) hl => refFind_any b.1 (str b.2.1) u b.2.2 nt W hl hW)
  have HNm := Lib.hid (fun W hl => name_any nt W hl)
  have HRn := Lib.hid (fun W hl => refName_any nt W hl)
  have HGv := Lib.hid (fun W v (hv : RowB W v [b]) hf => give_any v [b] W (by simp) hf hv)
  obtain ⟨n, hnn⟩ : ∃ n, nt.length = n := ⟨_, rfl⟩
  have hsz : (str nt).size = n := hnn
  rw [hnn] at hnl
  have HN := Lib.hid hnn
  generalize nameT nt = B at *
  have H0 := Lib.hid (And.intro hbox hm)
  obtain ⟨S, hS⟩ : ∃ S, str b.2.1 = S := ⟨_, rfl⟩
  obtain ⟨M, hM⟩ : ∃ M, str nt = M := ⟨_, rfl⟩
  have HSb := Lib.hid hS
  rw [hS] at HS H1 HL HGt HFn hw1 ⊢
  rw [hM] at HGt HFn HNm HRn hsz ⊢
  clear hbox hbl hm hg hr hn hS hM hnn hmm
  have q0 := cell9_blk H1.out.1 0 (v := .int .i64 b.1) rfl
  have q1 := cell9_blk H1.out.1 1 (v := .string S) rfl
  have q2 := cell9_blk H1.out.1 2 (v := u) rfl
  go_enter Tryd.func3, Tryd.ntmps3
  go_wp2_with fail
  with_reducible refine HL.out.mono ?_
  rintro e w2 ⟨Bl, rfl, hb, hsm⟩
  have hb2 : Below w1.heap.size w1 w2 := ((Below.refl _ w1).alloc (Nat.le_refl _) _).trans (hb.mono (by rw [World.size_alloc]; exact Nat.le_succ _))
  have H2 := Lib.hid (HS.out w2 hb2)
  have HB2 := Lib.hid (And.intro hb2 hsm)
  clear hb hb2 hsm q0 q1 q2
  cases Bl
  case' false =>
    by_cases hn2 : 2000 < n
    case' pos =>
      have d : (2000 : Int) < n := by omega
    case' neg =>
      have d : ¬ (2000 : Int) < n := by omega
  case neg =>
    have hn6 : n ≤ 2000 := by omega
    have q0 := cell9_blk H2.out.1 0 (v := .int .i64 b.1) rfl
    have q1 := cell9_blk H2.out.1 1 (v := .string S) rfl
    have q2 := cell9_blk H2.out.1 2 (v := u) rfl
    have hsm := HB2.out.2 rfl
    have hbf : b.2.2.length ≤ 80 := (hsm.2 b (by simp)).1
    have HBF := Lib.hid hbf
    clear hn2 hsm hnl hbf
    go_wp2_with fail
    with_reducible refine (HGv.out _ _ H2.out.2.2.2.2.2 (fun b' hb' => by rw [List.mem_singleton.1 hb']; have := HBF.out; omega)).mono ?_
    rintro e w3 ⟨v', rfl, hrow, hb⟩
    have hb3 : Below w1.heap.size w1 w3 := HB2.out.1.trans ((((Below.refl _ w2).alloc (Nat.le_refl _) _).trans (hb.mono (by rw [World.size_alloc]; exact Nat.le_succ _))).mono HB2.out.1.size)
    obtain ⟨A, c, rfl, hrow'⟩ := hrow.form
    obtain ⟨ad, X, u', rfl, hX, k0, k1, k2, hrf⟩ := hrow'.parts.2.2.2 0 (by simp) b rfl
    have e1 : (ad.add (0 * 3)) = ad := by cases ad; simp [Addr.add]
    rw [e1] at hX
    subst hX
    rw [HSb.out] at k1
    have HB3 := Lib.hid (And.intro hb3 hrf)
    have H3 := Lib.hid (HS.out w3 hb3)
    have HG3 := Lib.hid (HGt.out w3 u' b.2.2 (by have := HBF.out; omega) hrf)
    clear hb hb3 hrow hrow' hrf e1
    go_wp2_with fail
    with_reducible refine HG3.out.mono ?_
    rintro e w4 ⟨hb4, hres⟩
    have hb4' : Below w1.heap.size w1 w4 := HB3.out.1.trans (hb4.mono HB3.out.1.size)
    have H4 := Lib.hid (HS.out w4 hb4')
    have HB4 := Lib.hid hb4'
    have HF4 := Lib.hid (HFn.out w4 H4.out.2.1 (by have := HBF.out; omega))
    have r0 := cell9_blk H4.out.1 0 (v := .int .i64 b.1) rfl
    have r1 := cell9_blk H4.out.1 1 (v := .string S) rfl
    have r2 := cell9_blk H4.out.1 2 (v := u) rfl
    clear hb4 hb4' k0 k1 k2 q0 q1 q2
    rcases hres with ⟨k, f, hkf, hfd, rfl⟩ | ⟨hfd, rfl⟩
    · subst hu
      rw [hfd] at HF4
      have hkl : k < m := by rw [← HMM.out]; exact (List.getElem?_eq_some_iff.1 hkf).1
      have HKF := Lib.hid hkf
      have p0 : (0 : Int) ≤ k := by omega
      have p1 : (k : Int) < m := by omega
      obtain ⟨V, hV⟩ : ∃ V, str f.2.2 = V := ⟨_, rfl⟩
      have HV := Lib.hid hV
      rw [hV]
      have tV : (V.toList == V.toList) = true := beq_self_eq_true _
      have hm8 : m ≤ 80 := by rw [← HMM.out]; exact HBF.out
      clear hkf hfd hV
      go_wp2_with fail
      with_reducible refine HF4.out.mono ?_
      rintro e w5 ⟨rfl, hb5⟩
      have hb5' : Below w1.heap.size w1 w5 := HB4.out.trans (hb5.mono HB4.out.size)
      have H5 := Lib.hid (HS.out w5 hb5')
      obtain ⟨ad2, X2, eA, hX2, f0, f1, f2⟩ := H5.out.2.1.parts.2.2.2 k hkl f HKF.out
      subst eA
      rw [HV.out] at f2
      have r2 := cell9_blk H5.out.1 2 (v := .slice (some ad2) m cF) rfl
      clear hb5 hb5' r0 r1 f0 f1
      go_wp2_with fail
      with_reducible refine (HNm.out w5 (by have := HN.out; omega)).mono ?_
      rintro e w' ⟨rfl, rfl⟩
      go_wp2_with fail
      with_reducible refine (HRn.out _ (by have := HN.out; omega)).mono ?_
      rintro e w6 ⟨rfl, hb6⟩
      have HB6 := Lib.hid (hb6)
      clear hb6
      cases B
      all_goals
        go_wp2_with fail
        with_reducible refine (HSu.out _ (H5.out.2.2.2.1.below HB6.out) (H5.out.2.2.2.2.1.below HB6.out)).mono ?_
        rintro e w7 ⟨rfl, hb7⟩
        have HB7 := Lib.hid (hb7)
        clear hb7
        go_wp2_with fail
        go_ret
        exact ret_true9 ((H5.out.2.2.1.trans (HB6.out.mono H5.out.2.2.1.size)).trans (HB7.out.mono (H5.out.2.2.1.trans (HB6.out.mono H5.out.2.2.1.size)).size))
    · rw [hfd] at HF4
      clear hfd
      go_wp2_with fail
      with_reducible refine HF4.out.mono ?_
      rintro e w5 ⟨rfl, hb5⟩
      have hb5' : Below w1.heap.size w1 w5 := HB4.out.trans (hb5.mono HB4.out.size)
      have H5 := Lib.hid (HS.out w5 hb5')
      clear hb5 hb5' r0 r1 r2
      go_wp2_with fail
      with_reducible refine (HNm.out w5 (by have := HN.out; omega)).mono ?_
      rintro e w' ⟨rfl, rfl⟩
      go_wp2_with fail
      with_reducible refine (HRn.out _ (by have := HN.out; omega)).mono ?_
      rintro e w6 ⟨rfl, hb6⟩
      have HB6 := Lib.hid (hb6)
      clear hb6
      cases B
      all_goals
        go_wp2_with fail
        with_reducible refine (HSu.out _ (H5.out.2.2.2.1.below HB6.out) (H5.out.2.2.2.2.1.below HB6.out)).mono ?_
        rintro e w7 ⟨rfl, hb7⟩
        have HB7 := Lib.hid (hb7)
        clear hb7
        go_wp2_with fail
        go_ret
        exact ret_true9 ((H5.out.2.2.1.trans (HB6.out.mono H5.out.2.2.1.size)).trans (HB7.out.mono (H5.out.2.2.1.trans (HB6.out.mono H5.out.2.2.1.size)).size))
  all_goals
    go_wp2_with fail
    with_reducible refine (HSu.out _ H2.out.2.2.2.1 H2.out.2.2.2.2.1).mono ?_
    rintro e w7 ⟨rfl, hb7⟩
    have HB7 := Lib.hid (hb7)
    clear hb7
    go_wp2_with fail
    go_ret
    exact ret_true9 (H2.out.2.2.1.trans (HB7.out.mono H2.out.2.2.1.size))
end Go.Proofs.YtbeehedppofpnaaDoor

/- Law GraphReaches: its walk. -/
import Derived.Test.YthmklmilgcjmlaaDoorGrNu
namespace Go.Proofs.YthmklmilgcjmlaaDoor
open Go.RowKit

set_option maxHeartbeats 4000000 in
set_option maxRecDepth 100000 in
theorem reaches_walk (hP : PgG) (n f : Int) (v : Value) (L : List (Int × Int)) (w : World) (hE : ErrT w) (hn : I64 n) (hf : I64 f) (hv : RowW w v L) :
    Calls Tryd.prog 4 #[.int .i64 n, v, .int .i64 f] w fun e w' => e = .returned (.bool true) ∧ Below w.heap.size w w' := by
  obtain ⟨A, c, rfl, hr⟩ := hv.form
  obtain ⟨m, hm⟩ : ∃ m, L.length = m := ⟨_, rfl⟩
  rw [hm] at hr ⊢
  have HS := Lib.hid (fun W => sure_any hP W)
  have H1 := Lib.hid (And.intro hE (And.intro hr (And.intro hn (And.intro hf hm))))
  have HH := Lib.hid (huge_any n A m c w)
  have HRc := Lib.hid (hP.rc n (.slice A m c) L f w hn hf hr)
  clear hv hr hE hP hm
  cases hb : hugeB n m
  case true =>
    rw [hb] at HH
    clear hb
    go_enter Tryd.func4, Tryd.ntmps4
    go_wp2_with fail
    with_reducible refine HH.out.mono ?_
    rintro e w1 ⟨rfl, rfl⟩
    go_wp2_with fail
    with_reducible refine (HS.out _).mono ?_
    rintro e w9 ⟨rfl, hb⟩
    have HB9 := Lib.hid hb
    clear hb
    go_wp2_with fail
    go_ret
    exact ret_true9 HB9.out
  case false =>
    rw [hb] at HH
    clear hb
    by_cases hck : ckW n L = 0
    · by_cases hfo : f < 0 ∨ n ≤ f
      · have HC := Lib.hid (fun W (hb : Below w.heap.size w W) => refCk_any n (.slice A m c) L W hn (H1.out.2.1.below hb))
        rw [hck] at HC
        rw [rcA_out hck hfo] at HRc
        go_enter Tryd.func4, Tryd.ntmps4
        go_wp2_with fail
        with_reducible refine HH.out.mono ?_
        rintro e w1 ⟨rfl, rfl⟩
        go_wp2_with fail
        with_reducible refine HRc.out.mono ?_
        rintro e w2 ⟨A2, c2, rfl, hr2, hb2⟩
        have HB2 := Lib.hid hb2
        have HR2 := Lib.hid hr2
        clear hr2 hb2
        go_wp2_with fail
        with_reducible refine (HC.out _ HB2.out).mono ?_
        rintro e w3 ⟨rfl, rfl⟩
        have HN := Lib.hid (num_any 5 w3 (H1.out.1.below HB2.out))
        by_cases hf0 : f < 0
        case' pos => clear hfo
        case' neg =>
          have hfn : n ≤ f := by omega
          clear hfo
        all_goals
          go_wp2_with fail
          with_reducible refine HN.out.mono ?_
          rintro e w4 ⟨rfl, hb4⟩
          have HB4 := Lib.hid (HB2.out.trans (hb4.mono HB2.out.size))
          clear hb4
          go_wp2_with fail
          with_reducible refine (HS.out _).mono ?_
          rintro e w9 ⟨rfl, hb⟩
          have HB9 := Lib.hid (HB4.out.trans (hb.mono HB4.out.size))
          clear hb
          go_wp2_with fail
          go_ret
          exact ret_true9 HB9.out
      · obtain ⟨k, rfl, hk, hlen, hM, hL⟩ := ckW_ok hck
        obtain ⟨j, rfl⟩ : ∃ j : Nat, f = j := ⟨f.toNat, by omega⟩
        have hjk : j < k := by omega
        have HC := Lib.hid (fun W (hb : Below w.heap.size w W) => refCk_any (k : Nat) (.slice A m c) L W hn (H1.out.2.1.below hb))
        rw [hck] at HC
        rw [rcA_ok hck hfo] at HRc
        simp only [Int.toNat_natCast] at HRc
        obtain ⟨M, hMe⟩ : ∃ M, ntW L = M := ⟨_, rfl⟩
        rw [hMe] at hM hL HRc
        have hcst : L = cst M := hL
        have HD := Lib.hid (fun W (hb : Below w.heap.size w W) => refRc_any k (.slice A m c) M j W hk hM hjk (by rw [← hcst]; exact H1.out.2.1.below hb))
        have hnf : ¬ (j : Int) < 0 := by omega
        have hnn : ¬ (j : Int) ≥ k := by omega
        clear hM hL hcst hMe hfo hck
        go_enter Tryd.func4, Tryd.ntmps4
        go_wp2_with fail
        with_reducible refine HH.out.mono ?_
        rintro e w1 ⟨rfl, rfl⟩
        go_wp2_with fail
        with_reducible refine HRc.out.mono ?_
        rintro e w2 ⟨A2, c2, rfl, hr2, hb2⟩
        obtain ⟨q, hq⟩ : ∃ q, (rcT M k j).length = q := ⟨_, rfl⟩
        dsimp only at hr2 ⊢
        rw [hq] at hr2 ⊢
        rw [errE_zero]
        have HB2 := Lib.hid hb2
        have HR2 := Lib.hid hr2
        clear hr2 hb2 hq
        go_wp2_with fail
        with_reducible refine (HC.out _ HB2.out).mono ?_
        rintro e w3 ⟨rfl, rfl⟩
        go_wp2_with fail
        with_reducible refine (HD.out _ HB2.out).mono ?_
        rintro e w4 ⟨o, rfl, hr4, hb4⟩
        have HI := Lib.hid (ints_any _ _ _ _ w4 (HR2.out.below hb4) hr4)
        have HB4 := Lib.hid (HB2.out.trans (hb4.mono HB2.out.size))
        clear hr4 hb4
        go_wp2_with fail
        with_reducible refine HI.out.mono ?_
        rintro e w5 ⟨rfl, hb5⟩
        simp only [decide_true]
        have HB5 := Lib.hid (HB4.out.trans (hb5.mono HB4.out.size))
        clear hb5
        go_wp2_with fail
        with_reducible refine (HS.out _).mono ?_
        rintro e w9 ⟨rfl, hb⟩
        have HB9 := Lib.hid (HB5.out.trans (hb.mono HB5.out.size))
        clear hb
        go_wp2_with fail
        go_ret
        exact ret_true9 HB9.out
    · have HC := Lib.hid (fun W (hb : Below w.heap.size w W) => refCk_any n (.slice A m c) L W hn (H1.out.2.1.below hb))
      rw [rcA_bad hck] at HRc
      obtain ⟨q, hq⟩ : ∃ q, ckW n L = q := ⟨_, rfl⟩
      rw [hq] at HC HRc hck
      have d : ¬ ((q : Int) = 0) := by omega
      clear hq hck
      go_enter Tryd.func4, Tryd.ntmps4
      go_wp2_with fail
      with_reducible refine HH.out.mono ?_
      rintro e w1 ⟨rfl, rfl⟩
      go_wp2_with fail
      with_reducible refine HRc.out.mono ?_
      rintro e w2 ⟨A2, c2, rfl, hr2, hb2⟩
      have HB2 := Lib.hid hb2
      have HR2 := Lib.hid hr2
      clear hr2 hb2
      go_wp2_with fail
      with_reducible refine (HC.out _ HB2.out).mono ?_
      rintro e w3 ⟨rfl, rfl⟩
      have HN := Lib.hid (num_any q w3 (H1.out.1.below HB2.out))
      go_wp2_with fail
      with_reducible refine HN.out.mono ?_
      rintro e w4 ⟨rfl, hb4⟩
      have HB4 := Lib.hid (HB2.out.trans (hb4.mono HB2.out.size))
      clear hb4
      go_wp2_with fail
      with_reducible refine (HS.out _).mono ?_
      rintro e w9 ⟨rfl, hb⟩
      have HB9 := Lib.hid (HB4.out.trans (hb.mono HB4.out.size))
      clear hb
      go_wp2_with fail
      go_ret
      exact ret_true9 HB9.out
end Go.Proofs.YthmklmilgcjmlaaDoor

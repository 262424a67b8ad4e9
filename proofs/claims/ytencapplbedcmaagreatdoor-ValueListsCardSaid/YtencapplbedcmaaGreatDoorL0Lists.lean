/- ValueLists' walk. -/
import Derived.Test.YtencapplbedcmaaGreatDoorVaTx
import Derived.Test.YtencapplbedcmaaGreatDoorVaR2
namespace Go.Proofs.YtencapplbedcmaaGreatDoor
open Go.RowKit

set_option maxHeartbeats 4000000 in
set_option maxRecDepth 100000 in
theorem valueLists_any (s : ByteArray) (A : Option Addr) (c : Nat) (L : List Tx) (w : World) (hg : ErrT w) (he : EsV w) (hs : s.size ≤ maxLen) (hr : RdS w A L) (hc : L.length ≤ c) (hcm : c ≤ maxLen) (hk : ∀ x ∈ L, x.length ≤ maxLen) :
    Calls Tryz.prog 4 #[.string s, .slice A L.length c] w fun e w' => e = .returned (.bool true) ∧ Below w.heap.size w w' := by
  obtain ⟨q, hq⟩ : ∃ q, s.size = q := ⟨_, rfl⟩
  obtain ⟨n, hn⟩ : ∃ n, L.length = n := ⟨_, rfl⟩
  rw [hn] at hc ⊢
  have hq63 : q ≤ 9223372036854775807 := by rw [← hq]; exact hs
  have hn63 : n ≤ 9223372036854775807 := Nat.le_trans hc hcm
  have HSu := Lib.hid (fun W h => sure_any W h)
  have HEs : Hid (∀ W, Below w.heap.size w W → ErrT W ∧ EsV W) := fun W hb => ⟨hg.below hb, he.below hb⟩
  have HR := Lib.hid (And.intro hr (And.intro hn (And.intro hk hc)))
  by_cases hbig : 500 < q ∨ 100 < n
  · have HSe := Lib.hid (HSu.out w (HEs.out w (Below.refl _ _)).2)
    clear hg he hr hc hcm hk hn hs
    by_cases h5 : 500 < q
    case' pos => have d1 : (500 : Int) < q := by omega
    case' neg =>
      have d1 : ¬ (500 : Int) < q := by omega
      have d2 : (100 : Int) < n := by omega
    all_goals
      clear hbig h5
      go_enter Tryz.func4, Tryz.ntmps4
      go_wp2_with fail
      with_reducible refine HSe.out.mono ?_
      rintro e w2 ⟨rfl, hb⟩
      have HB := Lib.hid hb
      clear hb
      go_wp2_with fail
      go_ret
      exact ret_trueV HB.out
  · have hq5 : q ≤ 500 := by omega
    have hn1 : n ≤ 100 := by omega
    obtain ⟨l, hl⟩ : ∃ l : Tx, l = s.data.toList := ⟨_, rfl⟩
    have hsl : s = str l := by rw [hl]; exact (str_of s).symm
    have hln : l.length ≤ 500 := by rw [hl, ← Lib.size_eq, hq]; exact hq5
    have HQ := Lib.hid (And.intro hsl hln)
    have d1 : ¬ (500 : Int) < q := by omega
    have d2 : ¬ (100 : Int) < n := by omega
    clear hg he hr hc hcm hk hn hs hbig hl hsl hln
    go_enter Tryz.func4, Tryz.ntmps4
    go_wp2_with fail
    go_loopw [5] (fun v W => ∃ i : Nat, v = .int .i64 i ∧ i ≤ n ∧ Below w.heap.size w W ∧ ∀ x ∈ L.take i, x.length ≤ 200) (fun v _ => n - (intOf v).toNat)
    case atStart => exact ⟨0, rfl, Nat.zero_le _, Below.refl _ _, fun x hx => by simp at hx⟩
    case round =>
      obtain ⟨i, rfl, hi, hb, hsm⟩ := hrel
      have HB := Lib.hid (And.intro hb hsm)
      clear hb hsm
      rcases Nat.lt_or_ge i n with hlt | hge
      · have q1 : (i : Int) < n := by omega
        have hil : i < (L.map txC).length := by rw [List.length_map, HR.out.2.1]; exact hlt
        have hiL : i < L.length := by rw [HR.out.2.1]; exact hlt
        obtain ⟨ad, rfl, k0⟩ := (Rd.below HR.out.1 HB.out.1).at_ hil
        have hx : (L.map txC)[i] = .string (str L[i]) := by rw [List.getElem_map]; rfl
        rw [hx] at k0
        have hss : (str L[i]).size = L[i].length := str_size _
        have hlm := HR.out.2.2.1 L[i] (List.getElem_mem _)
        have HT : Hid (L[i].length ≤ 200 → ∀ x ∈ L.take (i + 1), x.length ≤ 200) := fun h x hx => by
          rw [List.take_succ_eq_append_getElem hiL] at hx
          rcases List.mem_append.1 hx with h1 | h1
          · exact HB.out.2 x h1
          · rw [List.mem_singleton.1 h1]; exact h
        generalize str L[i] = S at *
        generalize L[i].length = m at *
        have hm63 : m ≤ 9223372036854775807 := hlm
        clear hx hil hiL hlm
        by_cases h2 : 200 < m
        · have d3 : (200 : Int) < m := by omega
          clear h2
          go_wp2_with fail
          with_reducible refine (HSu.out _ (HEs.out _ HB.out.1).2).mono ?_
          rintro e w2 ⟨rfl, hb⟩
          have HB2 := Lib.hid (HB.out.1.trans (hb.mono HB.out.1.size))
          clear hb
          go_wp2_with fail
          go_ret
          exact ret_trueV HB2.out
        · have d3 : ¬ (200 : Int) < m := by omega
          have HT2 := Lib.hid (HT.out (by omega))
          clear h2 HT
          go_wp2_with fail
          exact ⟨⟨i + 1, by go_num, hlt, HB.out.1, HT2.out⟩, by simp [intOf]; omega⟩
      · obtain rfl : i = n := by omega
        have q1 : ¬ ((i : Int) < i) := by omega
        have hall : ∀ x ∈ L, x.length ≤ 200 := by
          have := HB.out.2
          rwa [List.take_of_length_le (by rw [HR.out.2.1]; exact Nat.le_refl _)] at this
        have hjl : (joinC L).length ≤ 1000000 := by
          have h1 := join_le 200 L hall
          rw [HR.out.2.1] at h1
          have : i * (200 + 1) ≤ 100 * 201 := Nat.mul_le_mul hn1 (Nat.le_refl _)
          omega
        have HL := Lib.hid (fun W => list_any l W (by have := HQ.out.2; omega))
        have HRl := Lib.hid (fun W => refList_any l W (by have := HQ.out.2; omega))
        have HJ := Lib.hid (fun W (h : RdS W A L) => joined_any A i c L W HR.out.2.1 (by omega) HR.out.2.2.2 (fun x hx => by have := hall x hx; omega) hjl h)
        have HRj := Lib.hid (fun W (h : RdS W A L) => refJoined_any A i c L W HR.out.2.1 (by omega) (fun x hx => by have := hall x hx; omega) h)
        rw [← HQ.out.1] at HL HRl
        unfold LsE at HL
        unfold RlE at HRl
        unfold JoE at HJ
        unfold RjE at HRj
        have hlen := ls_len l
        generalize (listT l).1 = L1 at *
        generalize (listT l).2 = k1 at *
        generalize (joinedT L).1 = J1 at *
        generalize (joinedT L).2 = k2 at *
        generalize str J1 = SJ at *
        have HN1 := Lib.hid (fun W h => num_E k1 W h)
        have HN2 := Lib.hid (fun W h => num_E k2 W h)
        generalize errE k1 = E1 at *
        generalize errE k2 = E2 at *
        clear hall hjl hge hi hq5
        go_wp2_with fail
        with_reducible refine (HL.out _).mono ?_
        rintro e w2 ⟨v2, rfl, hrow, hb⟩
        have HB2 := Lib.hid (HB.out.1.trans (hb.mono HB.out.1.size))
        have HR2 := Lib.hid hrow
        clear hb hrow
        go_wp2_with fail
        with_reducible refine (HRl.out _).mono ?_
        rintro e w3 ⟨v3, rfl, hrow, hb⟩
        have HB3 := Lib.hid (HB2.out.trans (hb.mono HB2.out.size))
        have HR3 := Lib.hid (And.intro (HR2.out.below hb) hrow)
        clear hb hrow
        go_wp2_with fail
        have hrd3 : RdS w3 A L := Rd.below HR.out.1 HB3.out
        with_reducible refine (HJ.out _ hrd3).mono ?_
        rintro e w4 ⟨rfl, hb⟩
        have HB4 := Lib.hid (HB3.out.trans (hb.mono HB3.out.size))
        have HR4 := Lib.hid (And.intro (HR3.out.1.below hb) (HR3.out.2.below hb))
        clear hb
        go_wp2_with fail
        have hrd4 : RdS w4 A L := Rd.below HR.out.1 HB4.out
        with_reducible refine (HRj.out _ hrd4).mono ?_
        rintro e w5 ⟨rfl, hb⟩
        have HB5 := Lib.hid (HB4.out.trans (hb.mono HB4.out.size))
        obtain ⟨A1, c1, rfl, _, _, hr1⟩ := HR4.out.1.below hb
        obtain ⟨A2, c2, rfl, _, _, hr2⟩ := HR4.out.2.below hb
        have HTx := Lib.hid (texts_any A1 A2 c1 c2 L1.length L1 w5 rfl (by omega) hr1 hr2)
        clear hb hr1 hr2
        go_wp2_with fail
        with_reducible refine HTx.out.mono ?_
        rintro e w6 ⟨rfl, hb⟩
        have HB6 := Lib.hid (HB5.out.trans (hb.mono HB5.out.size))
        clear hb
        go_wp2_with fail
        with_reducible refine (HN1.out _ (HEs.out _ HB6.out).1).mono ?_
        rintro e w7 ⟨rfl, hb⟩
        have HB7 := Lib.hid (HB6.out.trans (hb.mono HB6.out.size))
        clear hb
        go_wp2_with fail
        with_reducible refine (HN2.out _ (HEs.out _ HB7.out).1).mono ?_
        rintro e w8 ⟨rfl, hb⟩
        have HB8 := Lib.hid (HB7.out.trans (hb.mono HB7.out.size))
        clear hb
        go_wp2_with fail
        with_reducible refine (HSu.out _ (HEs.out _ HB8.out).2).mono ?_
        rintro e w9 ⟨rfl, hb⟩
        have HB9 := Lib.hid (HB8.out.trans (hb.mono HB8.out.size))
        clear hb
        go_wp2_with fail
        go_ret
        exact ret_trueV HB9.out
end Go.Proofs.YtencapplbedcmaaGreatDoor

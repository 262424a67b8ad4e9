/- GpTk, GpLk, GpTn, in one text. -/
import Derived.Test.YtkfnbapnkmlopaaDoorGpNm
import Derived.Test.YtkfnbapnkmlopaaDoorGpLw
import Derived.Laws.EntriesVeiled
import Derived.Test.YtkfnbapnkmlopaaDoorGrCk
/- Contracts: take, of groups and of items. -/
namespace Go.Proofs.YtkfnbapnkmlopaaDoor
open Go.RowKit Go.Maps

theorem tw_take {L : List Tx} {i : Nat} {s : Tx} (h : L[i]? = some s) : 0 ≤ ixI (L.take i) s ↔ twB L i = true := by
  have hd : L.getD i [] = s := by rw [List.getD_eq_getElem?_getD, h]; rfl
  unfold twB
  rw [hd, decide_eq_true_iff]
  constructor
  · intro h0 e
    obtain ⟨k, hk⟩ : ∃ k : Nat, ixI (L.take i) s = k := ⟨(ixI (L.take i) s).toNat, by omega⟩
    have hlt := ixI_lt hk
    rw [List.length_take] at hlt
    have h1 := (ixI_at hk).1
    rw [List.getElem?_take, if_pos (by omega)] at h1
    exact (ixI_at e).2 k (by omega) h1
  · intro hne
    refine ixI_mem.2 (Classical.byContradiction fun hno => hne ?_)
    refine ixI_hit h fun j hj hjs => hno ?_
    exact List.mem_of_getElem? (i := j) (by rw [List.getElem?_take, if_pos hj]; exact hjs)
/-- What take answers. -/
def TkE (L : List Tx) (w : World) (e : Ending) (w' : World) : Prop := Below w.heap.size w w' ∧ match fiN L.length (twB L) with
  | some i => e = .returned (.tuple #[.map none, .int .i64 (i : Nat), errE 7])
  | none => ∃ b, e = .returned (.tuple #[.map (some b), .int .i64 0, .nilIface]) ∧ w.heap.size ≤ b ∧ NamB w' b L
set_option maxRecDepth 100000 in
theorem nameG_any (S : ByteArray) (v1 v2 : Value) (w : World) : Calls Tryd.prog 32 #[.agg #[.string S, v1, v2]] w fun e w' => e = .returned (.string S) ∧ Below w.heap.size w w' := by
  have HB := Lib.hid ((Below.refl w.heap.size w).alloc (Nat.le_refl _) (.cells #[.string S, v1, v2] 45))
  go_enter Tryd.func32, Tryd.ntmps32
  go_wp2_with fail
  go_ret
  exact ⟨rfl, HB.out⟩
theorem entNmG : Ent1 32 := enters_of Tryd.func32 (by kernel_rfl) rfl
set_option maxRecDepth 100000 in
set_option maxHeartbeats 4000000 in
theorem takeG_any (v : Value) (g : List Grp) (w : World) (hv : RowG w v g) (hl : g.length ≤ 1024) (hS : ∀ a ∈ g, SmN a.1) :
    Calls Tryd.prog 31 #[v, .func (.func 32) #[] #[]] w (TkE (gN g) w) := by
  obtain ⟨A, c, rfl, hr⟩ := hv.form
  obtain ⟨n, hn⟩ : ∃ n, g.length = n := ⟨_, rfl⟩
  rw [hn] at hr hl ⊢
  have hLn : (gN g).length = n := by rw [gN_len, hn]
  have hmm := @run_makeMap Tryd.prog
  have hb0 := (Below.refl w.heap.size w).alloc (Nat.le_refl _) (.map #[] 0)
  have hN0 := NamB.made w
  obtain ⟨b, hb⟩ : ∃ b, w.heap.size = b := ⟨_, rfl⟩
  obtain ⟨w1, hw1⟩ : ∃ y, w.alloc (.map #[] 0) = y := ⟨_, rfl⟩
  rw [hb, hw1] at hN0
  rw [hw1] at hb0
  have HR := Lib.hid (And.intro hr (And.intro hn (And.intro hS (And.intro hLn hb))))
  have H0 := Lib.hid (And.intro hN0 hb0)
  have eg := entNmG
  unfold Ent1 at eg
  clear hr hv hn hS hLn hN0 hb0
  go_enter Tryd.func31, Tryd.ntmps31
  go_wp2_with fail
  clear hmm hw1 hb
  go_loopw [16] (fun iv wr => ∃ i : Nat, iv = .int .i64 i ∧ i ≤ n ∧ NamB wr b ((gN g).take i) ∧ Below w.heap.size w wr ∧ ∀ j, j < i → twB (gN g) j = false) (fun iv _ => n - (intOf iv).toNat)
  case atStart => exact ⟨0, rfl, Nat.zero_le _, H0.out.1, H0.out.2, fun j hj => absurd hj (Nat.not_lt_zero j)⟩
  case round =>
    obtain ⟨i, rfl, hi, hN, hb, hno⟩ := hrel
    by_cases hin : i < n
    · have q0 : (0 : Int) ≤ i := by omega
      have q1 : (i : Int) < n := by omega
      obtain ⟨a, ha⟩ : ∃ a, g[i]? = some a := ⟨_, List.getElem?_eq_getElem (by rw [HR.out.2.1]; exact hin)⟩
      obtain ⟨ad, X, Am, cm, Ag, cg, rfl, hX, k0, k1, k2, _, _⟩ := (HR.out.1.below hb).parts.2.2.2 i hin a ha
      have hat := gN_at ha
      have hsm := HR.out.2.2.1 a (List.mem_of_getElem? ha)
      obtain ⟨s, hs⟩ : ∃ s, a.1 = s := ⟨_, rfl⟩
      rw [hs] at hat hsm k0
      have htw := tw_take hat
      obtain ⟨M, hM⟩ : ∃ M, (gN g).take i = M := ⟨_, rfl⟩
      have hMl : M.length = i := by rw [← hM, List.length_take, HR.out.2.2.2.1]; omega
      have hMs : (gN g).take (i + 1) = M ++ [s] := by
        obtain ⟨h1, h2⟩ := List.getElem?_eq_some_iff.1 hat
        rw [List.take_succ_eq_append_getElem h1, h2, hM]
      rw [hM] at hN htw
      obtain ⟨S, hSe⟩ : ∃ S, str s = S := ⟨_, rfl⟩
      rw [hSe] at k0
      obtain ⟨W1, hW1⟩ : ∃ x, wr.alloc (.cells #[.string S, .slice Am a.2.1.length cm, .slice Ag a.2.2.length cg] 45) = x := ⟨_, rfl⟩
      have hbW : Below wr.heap.size wr W1 := by rw [← hW1]; exact (Below.refl _ _).alloc (Nat.le_refl _) _
      obtain ⟨gw, hgw⟩ : ∃ x, wr.heap.size = x := ⟨_, rfl⟩
      have hWb : W1.heap[gw]? = some (.cells #[.string S, .slice Am a.2.1.length cm, .slice Ag a.2.2.length cg] 45 (0, 0)) := by
        rw [← hW1, ← hgw]
        exact (MapKept.heap_alloc wr _).1
      have c0 := cell9_blk hWb 0 (v := .string S) rfl
      have c1 := cell9_blk hWb 1 (v := .slice Am a.2.1.length cm) rfl
      have c2 := cell9_blk hWb 2 (v := .slice Ag a.2.2.length cg) rfl
      have HNm := Lib.hid (nameG_any S (.slice Am a.2.1.length cm) (.slice Ag a.2.2.length cg) W1)
      have HK := Lib.hid (And.intro hN (And.intro hb (And.intro hno (And.intro hsm (And.intro htw (And.intro hMl (And.intro hMs (And.intro hSe hbW))))))))
      clear hN hb hno hat hsm htw hMl hMs hSe hbW hWb hM hs ha
      go_wp2_with fail
      with_reducible refine HNm.out.mono ?_
      rintro e w2 ⟨rfl, hb2⟩
      have hN2 := (HK.out.1.below HK.out.2.2.2.2.2.2.2.2).below hb2
      have hlk := hN2.look HK.out.2.2.2.1
      rw [HK.out.2.2.2.2.2.2.2.1] at hlk
      have hbw2 : Below w.heap.size w w2 := HK.out.2.1.trans ((HK.out.2.2.2.2.2.2.2.2.trans (hb2.mono HK.out.2.2.2.2.2.2.2.2.size)).mono HK.out.2.1.size)
      have H2 := Lib.hid (And.intro hN2 hbw2)
      clear hN2 hbw2 hb2 hgw hW1
      by_cases h0 : 0 ≤ ixI M s
      · rw [if_pos h0, decide_eq_true h0] at hlk
        have htwt := HK.out.2.2.2.2.1.1 h0
        have hfi := fiN_hit (n := (gN g).length) (by rw [HR.out.2.2.2.1]; exact hin) htwt HK.out.2.2.1
        obtain ⟨t, ht⟩ : ∃ t, ixI M s = t := ⟨_, rfl⟩
        rw [ht] at hlk
        have HF := Lib.hid hfi
        clear hfi htwt h0 ht
        go_wp2_with fail
        go_ret3
        refine ⟨H2.out.2, ?_⟩
        rw [HF.out]
        rfl
      · rw [if_neg h0, decide_eq_false h0] at hlk
        have htwf : twB (gN g) i = false := by
          cases hh : twB (gN g) i with
          | false => rfl
          | true => exact absurd (HK.out.2.2.2.2.1.2 hh) h0
        have HF := Lib.hid (And.intro htwf h0)
        clear htwf h0
        go_wp2_with
            (at_mapUpdate
             refine wpList_nput (by rfl) (.tmp 33) (.tmp 34) (.tmp 35) (by rfl) b M (by rfl) H2.out.1 (by rw [HK.out.2.2.2.2.2.1]; omega) s HK.out.2.2.2.1 (by have h := HF.out.2; omega) S HK.out.2.2.2.2.2.2.2.1 i HK.out.2.2.2.2.2.1 (by rfl) (by rfl) ?_
             intro w3 hn3 hg3
             have H3 := Lib.hid (And.intro hn3 hg3)
             clear hn3 hg3)
        refine ⟨⟨i + 1, by go_num, hin, ?_, Below.grown H2.out.2 H3.out.2 H2.out.2.size (fun g hg => by injection hg with hg; rw [← hg]; exact Nat.le_of_eq HR.out.2.2.2.2), fun j hj => ?_⟩, by simp [intOf]; omega⟩
        · rw [HK.out.2.2.2.2.2.2.1]
          exact H3.out.1
        · by_cases e : j = i
          · rw [e]; exact HF.out.1
          · exact HK.out.2.2.1 j (by omega)
    · obtain rfl : n = i := by omega
      rw [List.take_of_length_le (by rw [HR.out.2.2.2.1]; exact Nat.le_refl _)] at hN
      have hfi := fiN_no (n := (gN g).length) (p := twB (gN g)) (by rw [HR.out.2.2.2.1]; exact hno)
      have HF := Lib.hid (And.intro hN (And.intro hb hfi))
      clear hN hb hno hfi
      go_wp2_with fail
      go_ret3
      refine ⟨HF.out.2.1, ?_⟩
      rw [HF.out.2.2]
      exact ⟨b, rfl, Nat.le_of_eq HR.out.2.2.2.2, HF.out.1⟩
set_option maxRecDepth 100000 in
theorem nameX_any (S : ByteArray) (v1 : Value) (w : World) : Calls Tryd.prog 34 #[.agg #[.string S, v1]] w fun e w' => e = .returned (.string S) ∧ Below w.heap.size w w' := by
  have HB := Lib.hid ((Below.refl w.heap.size w).alloc (Nat.le_refl _) (.cells #[.string S, v1] 47))
  go_enter Tryd.func34, Tryd.ntmps34
  go_wp2_with fail
  go_ret
  exact ⟨rfl, HB.out⟩
theorem entNmX : Ent1 34 := enters_of Tryd.func34 (by kernel_rfl) rfl
set_option maxRecDepth 100000 in
set_option maxHeartbeats 4000000 in
theorem takeX_any (v : Value) (g : List Itm) (w : World) (hv : RowX w v g) (hl : g.length ≤ 1024) (hS : ∀ a ∈ g, SmN a.1) :
    Calls Tryd.prog 33 #[v, .func (.func 34) #[] #[]] w (TkE (iN g) w) := by
  obtain ⟨A, c, rfl, hr⟩ := hv.form
  obtain ⟨n, hn⟩ : ∃ n, g.length = n := ⟨_, rfl⟩
  rw [hn] at hr hl ⊢
  have hLn : (iN g).length = n := by rw [iN_len, hn]
  have hmm := @run_makeMap Tryd.prog
  have hb0 := (Below.refl w.heap.size w).alloc (Nat.le_refl _) (.map #[] 0)
  have hN0 := NamB.made w
  obtain ⟨b, hb⟩ : ∃ b, w.heap.size = b := ⟨_, rfl⟩
  obtain ⟨w1, hw1⟩ : ∃ y, w.alloc (.map #[] 0) = y := ⟨_, rfl⟩
  rw [hb, hw1] at hN0
  rw [hw1] at hb0
  have HR := Lib.hid (And.intro hr (And.intro hn (And.intro hS (And.intro hLn hb))))
  have H0 := Lib.hid (And.intro hN0 hb0)
  have eg := entNmX
  unfold Ent1 at eg
  clear hr hv hn hS hLn hN0 hb0
  go_enter Tryd.func33, Tryd.ntmps33
  go_wp2_with fail
  clear hmm hw1 hb
  go_loopw [16] (fun iv wr => ∃ i : Nat, iv = .int .i64 i ∧ i ≤ n ∧ NamB wr b ((iN g).take i) ∧ Below w.heap.size w wr ∧ ∀ j, j < i → twB (iN g) j = false) (fun iv _ => n - (intOf iv).toNat)
  case atStart => exact ⟨0, rfl, Nat.zero_le _, H0.out.1, H0.out.2, fun j hj => absurd hj (Nat.not_lt_zero j)⟩
  case round =>
    obtain ⟨i, rfl, hi, hN, hb, hno⟩ := hrel
    by_cases hin : i < n
    · have q0 : (0 : Int) ≤ i := by omega
      have q1 : (i : Int) < n := by omega
      obtain ⟨a, ha⟩ : ∃ a, g[i]? = some a := ⟨_, List.getElem?_eq_getElem (by rw [HR.out.2.1]; exact hin)⟩
      obtain ⟨ad, X, Ag, cg, rfl, hX, k0, k1, _⟩ := (HR.out.1.below hb).parts.2.2.2 i hin a ha
      have hat := iN_at ha
      have hsm := HR.out.2.2.1 a (List.mem_of_getElem? ha)
      obtain ⟨s, hs⟩ : ∃ s, a.1 = s := ⟨_, rfl⟩
      rw [hs] at hat hsm k0
      have htw := tw_take hat
      obtain ⟨M, hM⟩ : ∃ M, (iN g).take i = M := ⟨_, rfl⟩
      have hMl : M.length = i := by rw [← hM, List.length_take, HR.out.2.2.2.1]; omega
      have hMs : (iN g).take (i + 1) = M ++ [s] := by
        obtain ⟨h1, h2⟩ := List.getElem?_eq_some_iff.1 hat
        rw [List.take_succ_eq_append_getElem h1, h2, hM]
      rw [hM] at hN htw
      obtain ⟨S, hSe⟩ : ∃ S, str s = S := ⟨_, rfl⟩
      rw [hSe] at k0
      obtain ⟨W1, hW1⟩ : ∃ x, wr.alloc (.cells #[.string S, .slice Ag a.2.length cg] 47) = x := ⟨_, rfl⟩
      have hbW : Below wr.heap.size wr W1 := by rw [← hW1]; exact (Below.refl _ _).alloc (Nat.le_refl _) _
      obtain ⟨gw, hgw⟩ : ∃ x, wr.heap.size = x := ⟨_, rfl⟩
      have hWb : W1.heap[gw]? = some (.cells #[.string S, .slice Ag a.2.length cg] 47 (0, 0)) := by
        rw [← hW1, ← hgw]
        exact (MapKept.heap_alloc wr _).1
      have c0 := cell9_blk hWb 0 (v := .string S) rfl
      have c1 := cell9_blk hWb 1 (v := .slice Ag a.2.length cg) rfl
      have HNm := Lib.hid (nameX_any S (.slice Ag a.2.length cg) W1)
      have HK := Lib.hid (And.intro hN (And.intro hb (And.intro hno (And.intro hsm (And.intro htw (And.intro hMl (And.intro hMs (And.intro hSe hbW))))))))
      clear hN hb hno hat hsm htw hMl hMs hSe hbW hWb hM hs ha
      go_wp2_with fail
      with_reducible refine HNm.out.mono ?_
      rintro e w2 ⟨rfl, hb2⟩
      have hN2 := (HK.out.1.below HK.out.2.2.2.2.2.2.2.2).below hb2
      have hlk := hN2.look HK.out.2.2.2.1
      rw [HK.out.2.2.2.2.2.2.2.1] at hlk
      have hbw2 : Below w.heap.size w w2 := HK.out.2.1.trans ((HK.out.2.2.2.2.2.2.2.2.trans (hb2.mono HK.out.2.2.2.2.2.2.2.2.size)).mono HK.out.2.1.size)
      have H2 := Lib.hid (And.intro hN2 hbw2)
      clear hN2 hbw2 hb2 hgw hW1
      by_cases h0 : 0 ≤ ixI M s
      · rw [if_pos h0, decide_eq_true h0] at hlk
        have htwt := HK.out.2.2.2.2.1.1 h0
        have hfi := fiN_hit (n := (iN g).length) (by rw [HR.out.2.2.2.1]; exact hin) htwt HK.out.2.2.1
        obtain ⟨t, ht⟩ : ∃ t, ixI M s = t := ⟨_, rfl⟩
        rw [ht] at hlk
        have HF := Lib.hid hfi
        clear hfi htwt h0 ht
        go_wp2_with fail
        go_ret3
        refine ⟨H2.out.2, ?_⟩
        rw [HF.out]
        rfl
      · rw [if_neg h0, decide_eq_false h0] at hlk
        have htwf : twB (iN g) i = false := by
          cases hh : twB (iN g) i with
          | false => rfl
          | true => exact absurd (HK.out.2.2.2.2.1.2 hh) h0
        have HF := Lib.hid (And.intro htwf h0)
        clear htwf h0
        go_wp2_with
            (at_mapUpdate
             refine wpList_nput (by rfl) (.tmp 33) (.tmp 34) (.tmp 35) (by rfl) b M (by rfl) H2.out.1 (by rw [HK.out.2.2.2.2.2.1]; omega) s HK.out.2.2.2.1 (by have h := HF.out.2; omega) S HK.out.2.2.2.2.2.2.2.1 i HK.out.2.2.2.2.2.1 (by rfl) (by rfl) ?_
             intro w3 hn3 hg3
             have H3 := Lib.hid (And.intro hn3 hg3)
             clear hn3 hg3)
        refine ⟨⟨i + 1, by go_num, hin, ?_, Below.grown H2.out.2 H3.out.2 H2.out.2.size (fun g hg => by injection hg with hg; rw [← hg]; exact Nat.le_of_eq HR.out.2.2.2.2), fun j hj => ?_⟩, by simp [intOf]; omega⟩
        · rw [HK.out.2.2.2.2.2.2.1]
          exact H3.out.1
        · by_cases e : j = i
          · rw [e]; exact HF.out.1
          · exact HK.out.2.2.1 j (by omega)
    · obtain rfl : n = i := by omega
      rw [List.take_of_length_le (by rw [HR.out.2.2.2.1]; exact Nat.le_refl _)] at hN
      have hfi := fiN_no (n := (iN g).length) (p := twB (iN g)) (by rw [HR.out.2.2.2.1]; exact hno)
      have HF := Lib.hid (And.intro hN (And.intro hb hfi))
      clear hN hb hno hfi
      go_wp2_with fail
      go_ret3
      refine ⟨HF.out.2.1, ?_⟩
      rw [HF.out.2.2]
      exact ⟨b, rfl, Nat.le_of_eq HR.out.2.2.2.2, HF.out.1⟩
end Go.Proofs.YtkfnbapnkmlopaaDoor
/- Contract: lookAtSizes. -/
namespace Go.Proofs.YtkfnbapnkmlopaaDoor
open Go.RowKit

def lgG (a : Grp) : Bool := decide (4096 < a.2.1.length) || decide (4096 < a.2.2.length)
set_option maxRecDepth 100000 in
theorem longG_any (S : ByteArray) (Am Ag : Option Addr) (lm cm lg cg : Nat) (w : World) : Calls Tryd.prog 27 #[.agg #[.string S, .slice Am lm cm, .slice Ag lg cg]] w fun e w' => e = .returned (.bool (decide (4096 < lm) || decide (4096 < lg))) ∧ Below w.heap.size w w' := by
  have HB := Lib.hid ((Below.refl w.heap.size w).alloc (Nat.le_refl _) (.cells #[.string S, .slice Am lm cm, .slice Ag lg cg] 45))
  by_cases h1 : 4096 < lm
  · have q1 : (4096 : Int) < lm := by omega
    rw [decide_eq_true h1]
    clear h1
    go_enter Tryd.func27, Tryd.ntmps27
    go_wp2_with fail
    go_ret
    exact ⟨rfl, HB.out⟩
  · have q1 : ¬ (4096 : Int) < lm := by omega
    rw [decide_eq_false h1]
    clear h1
    by_cases h2 : 4096 < lg
    · have q2 : (4096 : Int) < lg := by omega
      rw [decide_eq_true h2]
      clear h2
      go_enter Tryd.func27, Tryd.ntmps27
      go_wp2_with fail
      go_ret
      exact ⟨rfl, HB.out⟩
    · have q2 : ¬ (4096 : Int) < lg := by omega
      rw [decide_eq_false h2]
      clear h2
      go_enter Tryd.func27, Tryd.ntmps27
      go_wp2_with fail
      go_ret
      exact ⟨rfl, HB.out⟩
theorem entLgG : Ent1 27 := enters_of Tryd.func27 (by kernel_rfl) rfl
set_option maxRecDepth 100000 in
set_option maxHeartbeats 2000000 in
theorem indexLG (A : Option Addr) (m c : Nat) (L : List Grp) (w : World) (R : Bool) (hR : L.any lgG = R) (hr : RowG w (.slice A m c) L) (hl : m ≤ 1048576) :
    Calls Tryd.prog 46 #[.slice A m c, .func (.func 27) #[] #[]] w fun e w' => ∃ k : Int, e = .returned (.int .i64 k) ∧ (0 ≤ k ↔ R = true) ∧ Below w.heap.size w w' := by
  have eg := entLgG
  unfold Ent1 at eg
  have hml := hr.parts.1
  have hC : ∀ W (a : Grp) (S : ByteArray) (Am Ag : Option Addr) (cm cg : Nat), Calls Tryd.prog 27 #[.agg #[.string S, .slice Am a.2.1.length cm, .slice Ag a.2.2.length cg]] W fun e W' => e = .returned (.bool (lgG a)) ∧ Below W.heap.size W W' := fun W a S Am Ag cm cg =>
    longG_any S Am Ag _ cm _ cg W
  have HR := Lib.hid (And.intro hr (And.intro hml (And.intro hC hR)))
  clear hr hml hC hR
  go_enter Tryd.func46, Tryd.ntmps46
  go_wp2_with fail
  go_loopw [8] (fun i wr => ∃ k : Nat, k ≤ m ∧ i = .int .i64 k ∧ Below w.heap.size w wr ∧ ∀ p ∈ L.take k, lgG p = false) (fun i _ => m - (intOf i).toNat)
  case atStart => exact ⟨0, Nat.zero_le _, rfl, Below.refl _ _, fun p hp => by simp at hp⟩
  case round =>
    obtain ⟨k, hk, rfl, hb, hno⟩ := hrel
    by_cases hlk : k < m
    · have hil : k < L.length := by rw [← HR.out.2.1]; exact hlk
      obtain ⟨a, hp⟩ : ∃ p, L[k]? = some p := ⟨_, List.getElem?_eq_getElem hil⟩
      obtain ⟨ad, X, Am, cm, Ag, cg, rfl, hX, k0, k1, k2, _, _⟩ := (HR.out.1.below hb).parts.2.2.2 k hlk a hp
      have htk : L.take (k + 1) = L.take k ++ [a] := by
        rw [List.take_succ_eq_append_getElem hil]
        rw [List.getElem?_eq_getElem hil] at hp
        rw [Option.some.inj hp]
      have hany : lgG a = true → R = true := fun h => by rw [← HR.out.2.2.2]; exact List.any_eq_true.2 ⟨a, List.mem_of_getElem? hp, h⟩
      have HP := Lib.hid (And.intro htk (And.intro hany (And.intro hb hno)))
      obtain ⟨S, hS⟩ : ∃ S, str a.1 = S := ⟨_, rfl⟩
      rw [hS] at k0
      have HC := Lib.hid (HR.out.2.2.1 wr a S Am Ag cm cg)
      have r0 : (0 : Int) ≤ k := by omega
      have r1 : (k : Int) < m := by omega
      clear htk hany hb hno hp hil hS
      cases hbd : lgG a with
      | true =>
        rw [hbd] at HC
        have HD := Lib.hid (HP.out.2.1 hbd)
        clear hbd
        go_wp2_with fail
        with_reducible refine HC.out.mono ?_
        rintro e w' ⟨rfl, hb2⟩
        have HB2 := Lib.hid (HP.out.2.2.1.trans (hb2.mono HP.out.2.2.1.size))
        clear hb2
        go_wp2_with fail
        go_ret
        exact ⟨k, rfl, ⟨fun _ => HD.out, fun _ => r0⟩, HB2.out⟩
      | false =>
        rw [hbd] at HC
        have HD := Lib.hid hbd
        clear hbd
        go_wp2_with fail
        with_reducible refine HC.out.mono ?_
        rintro e w' ⟨rfl, hb2⟩
        have HB2 := Lib.hid (HP.out.2.2.1.trans (hb2.mono HP.out.2.2.1.size))
        clear hb2
        go_wp2_with fail
        refine ⟨⟨k + 1, hlk, by go_num, HB2.out, fun q hq => ?_⟩, by simp [intOf]; omega⟩
        rw [HP.out.1] at hq
        rcases List.mem_append.1 hq with h5 | h5
        · exact HP.out.2.2.2 q h5
        · rw [List.mem_singleton.1 h5]; exact HD.out
    · obtain rfl : k = m := by omega
      have hall : ¬ R = true := by
        rw [← HR.out.2.2.2, List.any_eq_true]
        rintro ⟨p, hp, h⟩
        have := hno p (by rw [List.take_of_length_le (by rw [← HR.out.2.1]; exact Nat.le_refl _)]; exact hp)
        rw [this] at h
        cases h
      have HB := Lib.hid (And.intro hb hall)
      clear hb hno hall
      have r1 : ¬ (k : Int) < k := by omega
      go_wp2_with fail
      go_ret
      exact ⟨-1, rfl, ⟨fun h => by omega, fun h => absurd h HB.out.2⟩, HB.out.1⟩
set_option maxRecDepth 100000 in
set_option maxHeartbeats 2000000 in
theorem containsLG (A : Option Addr) (m c : Nat) (L : List Grp) (w : World) (hr : RowG w (.slice A m c) L) (hl : m ≤ 1048576) :
    Calls Tryd.prog 29 #[.slice A m c, .func (.func 27) #[] #[]] w fun e w' => e = .returned (.bool (L.any lgG)) ∧ Below w.heap.size w w' := by
  have HX := Lib.hid (indexLG A m c L w _ rfl hr hl)
  obtain ⟨R, hR⟩ : ∃ R, L.any lgG = R := ⟨_, rfl⟩
  rw [hR] at HX ⊢
  clear hr hR
  go_enter Tryd.func29, Tryd.ntmps29
  go_wp2_with fail
  with_reducible refine HX.out.mono ?_
  rintro e w' ⟨k, rfl, hk, hb⟩
  have HB := Lib.hid hb
  clear hb
  cases R with
  | true =>
    have h := hk.2 rfl
    clear hk
    go_wp2_with fail
    go_ret
    exact ⟨rfl, HB.out⟩
  | false =>
    have h : ¬ 0 ≤ k := fun h => by have := hk.1 h; cases this
    clear hk
    go_wp2_with fail
    go_ret
    refine ⟨?_, HB.out⟩
    show Ending.returned (.bool (decide (0 ≤ k))) = _
    rw [decide_eq_false (by omega)]
def lgX (a : Itm) : Bool := decide (4096 < a.2.length)
set_option maxRecDepth 100000 in
theorem longX_any (S : ByteArray) (Ag : Option Addr) (lg cg : Nat) (w : World) : Calls Tryd.prog 28 #[.agg #[.string S, .slice Ag lg cg]] w fun e w' => e = .returned (.bool (decide (4096 < lg))) ∧ Below w.heap.size w w' := by
  have HB := Lib.hid ((Below.refl w.heap.size w).alloc (Nat.le_refl _) (.cells #[.string S, .slice Ag lg cg] 47))
  by_cases h2 : 4096 < lg
  · have q2 : (4096 : Int) < lg := by omega
    rw [decide_eq_true h2]
    clear h2
    go_enter Tryd.func28, Tryd.ntmps28
    go_wp2_with fail
    go_ret
    exact ⟨rfl, HB.out⟩
  · have q2 : ¬ (4096 : Int) < lg := by omega
    rw [decide_eq_false h2]
    clear h2
    go_enter Tryd.func28, Tryd.ntmps28
    go_wp2_with fail
    go_ret
    exact ⟨rfl, HB.out⟩
theorem entLgX : Ent1 28 := enters_of Tryd.func28 (by kernel_rfl) rfl
set_option maxRecDepth 100000 in
set_option maxHeartbeats 2000000 in
theorem indexLX (A : Option Addr) (m c : Nat) (L : List Itm) (w : World) (R : Bool) (hR : L.any lgX = R) (hr : RowX w (.slice A m c) L) (hl : m ≤ 1048576) :
    Calls Tryd.prog 47 #[.slice A m c, .func (.func 28) #[] #[]] w fun e w' => ∃ k : Int, e = .returned (.int .i64 k) ∧ (0 ≤ k ↔ R = true) ∧ Below w.heap.size w w' := by
  have eg := entLgX
  unfold Ent1 at eg
  have hml := hr.parts.1
  have hC : ∀ W (a : Itm) (S : ByteArray) (Ag : Option Addr) (cg : Nat), Calls Tryd.prog 28 #[.agg #[.string S, .slice Ag a.2.length cg]] W fun e W' => e = .returned (.bool (lgX a)) ∧ Below W.heap.size W W' := fun W a S Ag cg =>
    longX_any S Ag _ cg W
  have HR := Lib.hid (And.intro hr (And.intro hml (And.intro hC hR)))
  clear hr hml hC hR
  go_enter Tryd.func47, Tryd.ntmps47
  go_wp2_with fail
  go_loopw [8] (fun i wr => ∃ k : Nat, k ≤ m ∧ i = .int .i64 k ∧ Below w.heap.size w wr ∧ ∀ p ∈ L.take k, lgX p = false) (fun i _ => m - (intOf i).toNat)
  case atStart => exact ⟨0, Nat.zero_le _, rfl, Below.refl _ _, fun p hp => by simp at hp⟩
  case round =>
    obtain ⟨k, hk, rfl, hb, hno⟩ := hrel
    by_cases hlk : k < m
    · have hil : k < L.length := by rw [← HR.out.2.1]; exact hlk
      obtain ⟨a, hp⟩ : ∃ p, L[k]? = some p := ⟨_, List.getElem?_eq_getElem hil⟩
      obtain ⟨ad, X, Ag, cg, rfl, hX, k0, k1, _⟩ := (HR.out.1.below hb).parts.2.2.2 k hlk a hp
      have htk : L.take (k + 1) = L.take k ++ [a] := by
        rw [List.take_succ_eq_append_getElem hil]
        rw [List.getElem?_eq_getElem hil] at hp
        rw [Option.some.inj hp]
      have hany : lgX a = true → R = true := fun h => by rw [← HR.out.2.2.2]; exact List.any_eq_true.2 ⟨a, List.mem_of_getElem? hp, h⟩
      have HP := Lib.hid (And.intro htk (And.intro hany (And.intro hb hno)))
      obtain ⟨S, hS⟩ : ∃ S, str a.1 = S := ⟨_, rfl⟩
      rw [hS] at k0
      have HC := Lib.hid (HR.out.2.2.1 wr a S Ag cg)
      have r0 : (0 : Int) ≤ k := by omega
      have r1 : (k : Int) < m := by omega
      clear htk hany hb hno hp hil hS
      cases hbd : lgX a with
      | true =>
        rw [hbd] at HC
        have HD := Lib.hid (HP.out.2.1 hbd)
        clear hbd
        go_wp2_with fail
        with_reducible refine HC.out.mono ?_
        rintro e w' ⟨rfl, hb2⟩
        have HB2 := Lib.hid (HP.out.2.2.1.trans (hb2.mono HP.out.2.2.1.size))
        clear hb2
        go_wp2_with fail
        go_ret
        exact ⟨k, rfl, ⟨fun _ => HD.out, fun _ => r0⟩, HB2.out⟩
      | false =>
        rw [hbd] at HC
        have HD := Lib.hid hbd
        clear hbd
        go_wp2_with fail
        with_reducible refine HC.out.mono ?_
        rintro e w' ⟨rfl, hb2⟩
        have HB2 := Lib.hid (HP.out.2.2.1.trans (hb2.mono HP.out.2.2.1.size))
        clear hb2
        go_wp2_with fail
        refine ⟨⟨k + 1, hlk, by go_num, HB2.out, fun q hq => ?_⟩, by simp [intOf]; omega⟩
        rw [HP.out.1] at hq
        rcases List.mem_append.1 hq with h5 | h5
        · exact HP.out.2.2.2 q h5
        · rw [List.mem_singleton.1 h5]; exact HD.out
    · obtain rfl : k = m := by omega
      have hall : ¬ R = true := by
        rw [← HR.out.2.2.2, List.any_eq_true]
        rintro ⟨p, hp, h⟩
        have := hno p (by rw [List.take_of_length_le (by rw [← HR.out.2.1]; exact Nat.le_refl _)]; exact hp)
        rw [this] at h
        cases h
      have HB := Lib.hid (And.intro hb hall)
      clear hb hno hall
      have r1 : ¬ (k : Int) < k := by omega
      go_wp2_with fail
      go_ret
      exact ⟨-1, rfl, ⟨fun h => by omega, fun h => absurd h HB.out.2⟩, HB.out.1⟩
set_option maxRecDepth 100000 in
set_option maxHeartbeats 2000000 in
theorem containsLX (A : Option Addr) (m c : Nat) (L : List Itm) (w : World) (hr : RowX w (.slice A m c) L) (hl : m ≤ 1048576) :
    Calls Tryd.prog 30 #[.slice A m c, .func (.func 28) #[] #[]] w fun e w' => e = .returned (.bool (L.any lgX)) ∧ Below w.heap.size w w' := by
  have HX := Lib.hid (indexLX A m c L w _ rfl hr hl)
  obtain ⟨R, hR⟩ : ∃ R, L.any lgX = R := ⟨_, rfl⟩
  rw [hR] at HX ⊢
  clear hr hR
  go_enter Tryd.func30, Tryd.ntmps30
  go_wp2_with fail
  with_reducible refine HX.out.mono ?_
  rintro e w' ⟨k, rfl, hk, hb⟩
  have HB := Lib.hid hb
  clear hb
  cases R with
  | true =>
    have h := hk.2 rfl
    clear hk
    go_wp2_with fail
    go_ret
    exact ⟨rfl, HB.out⟩
  | false =>
    have h : ¬ 0 ≤ k := fun h => by have := hk.1 h; cases this
    clear hk
    go_wp2_with fail
    go_ret
    refine ⟨?_, HB.out⟩
    show Ending.returned (.bool (decide (0 ≤ k))) = _
    rw [decide_eq_false (by omega)]
def whC (a b c d e f o : Value) : Obj := .cells #[a, b, c, d, e, f, o] 60 (0, 0)
theorem fullG_eq (g : List Grp) (x : List Itm) : fullG g x = (decide (1024 < g.length) || decide (1024 < x.length) || g.any lgG || x.any lgX) := rfl
set_option maxRecDepth 100000 in
set_option maxHeartbeats 4000000 in
theorem sizes_any (ps : Nat) (gv xv c d e f o : Value) (g : List Grp) (x : List Itm) (w : World) (h : w.heap[ps]? = some (whC gv xv c d e f o)) (hv : RowG w gv g) (hu : RowX w xv x) :
    Calls Tryd.prog 17 #[.pointer (some ⟨ps, 0, none⟩)] w fun e w' => e = .returned (.tuple #[.int .i64 0, errE (if fullG g x = true then 10 else 0)]) ∧ Below w.heap.size w w' := by
  obtain ⟨A, ca, rfl, hr⟩ := hv.form
  obtain ⟨B, cb, rfl, hs⟩ := hu.form
  have hf := fullG_eq g x
  obtain ⟨n, hn⟩ : ∃ n, g.length = n := ⟨_, rfl⟩
  obtain ⟨m, hm⟩ : ∃ n, x.length = n := ⟨_, rfl⟩
  rw [hn] at hr h hf
  rw [hm] at hs h hf
  unfold whC at h
  have c0 := cell9_blk h 0 (v := .slice A n ca) rfl
  have c1 := cell9_blk h 1 (v := .slice B m cb) rfl
  have hps := blk9_lt h
  have HC1 := Lib.hid (fun hl => containsLG A n ca g w hr hl)
  have HC2 := Lib.hid (fun W (hb : Below w.heap.size w W) hl => containsLX B m cb x W (hs.below hb) hl)
  obtain ⟨F, hF⟩ : ∃ F, fullG g x = F := ⟨_, rfl⟩
  rw [hF] at hf ⊢
  have hm9 : n ≤ 9223372036854775807 ∧ m ≤ 9223372036854775807 := by
    have h1 := hr.parts.2.1
    have h2 := hr.parts.2.2.1
    have h3 := hs.parts.2.1
    have h4 := hs.parts.2.2.1
    unfold maxLen at h2 h4
    omega
  obtain ⟨hn9, hm9⟩ := hm9
  have HH := Lib.hid (And.intro h hps)
  clear hr hs hv hu hn hm hF h
  by_cases h1 : 1024 < n
  · have hFt : F = true := by rw [hf, decide_eq_true h1]; rfl
    subst hFt
    rw [if_pos rfl, errE_pos (by decide)]
    unfold errK
    have q1 : (1024 : Int) < n := by omega
    clear h1 hf hps
    go_enter Tryd.func17, Tryd.ntmps17
    go_wp2_with fail
    go_ret2
    exact ⟨rfl, Below.refl _ _⟩
  · have q1 : ¬ (1024 : Int) < n := by omega
    by_cases h2 : 1024 < m
    · have hFt : F = true := by rw [hf, decide_eq_true h2]; simp
      subst hFt
      rw [if_pos rfl, errE_pos (by decide)]
      unfold errK
      have q2 : (1024 : Int) < m := by omega
      clear h1 h2 hf hps
      go_enter Tryd.func17, Tryd.ntmps17
      go_wp2_with fail
      go_ret2
      exact ⟨rfl, Below.refl _ _⟩
    · have q2 : ¬ (1024 : Int) < m := by omega
      rw [decide_eq_false h1, decide_eq_false h2, Bool.false_or, Bool.false_or] at hf
      have HC1b := Lib.hid (HC1.out (by omega))
      have HC2b := Lib.hid (fun W (hb : Below w.heap.size w W) => HC2.out W hb (by omega))
      cases ha : g.any lgG with
      | true =>
        rw [ha] at hf HC1b
        have hFt : F = true := by rw [hf]; rfl
        subst hFt
        rw [if_pos rfl, errE_pos (by decide)]
        unfold errK
        clear h1 h2 hf hps ha HC1 HC2 HC2b
        go_enter Tryd.func17, Tryd.ntmps17
        go_wp2_with fail
        with_reducible refine HC1b.out.mono ?_
        rintro e w1 ⟨rfl, hb1⟩
        have HB1 := Lib.hid hb1
        clear hb1
        go_wp2_with fail
        go_ret2
        exact ⟨rfl, HB1.out⟩
      | false =>
        rw [ha] at hf HC1b
        rw [Bool.false_or] at hf
        rw [← hf] at HC2b
        clear h1 h2 hf hps ha HC1 HC2
        cases F with
        | true =>
          rw [if_pos rfl, errE_pos (by decide)]
          unfold errK
          go_enter Tryd.func17, Tryd.ntmps17
          go_wp2_with fail
          with_reducible refine HC1b.out.mono ?_
          rintro e w1 ⟨rfl, hb1⟩
          have d1 := cell9_blk ((hb1.block ps HH.out.2).trans HH.out.1) 1 (v := .slice B m cb) rfl
          have HB1 := Lib.hid hb1
          clear hb1
          go_wp2_with fail
          with_reducible refine (HC2b.out _ HB1.out).mono ?_
          rintro e w2 ⟨rfl, hb2⟩
          have HB2 := Lib.hid (HB1.out.trans (hb2.mono HB1.out.size))
          clear hb2
          go_wp2_with fail
          go_ret2
          exact ⟨rfl, HB2.out⟩
        | false =>
          rw [if_neg (by decide), errE_zero]
          go_enter Tryd.func17, Tryd.ntmps17
          go_wp2_with fail
          with_reducible refine HC1b.out.mono ?_
          rintro e w1 ⟨rfl, hb1⟩
          have d1 := cell9_blk ((hb1.block ps HH.out.2).trans HH.out.1) 1 (v := .slice B m cb) rfl
          have HB1 := Lib.hid hb1
          clear hb1
          go_wp2_with fail
          with_reducible refine (HC2b.out _ HB1.out).mono ?_
          rintro e w2 ⟨rfl, hb2⟩
          have HB2 := Lib.hid (HB1.out.trans (hb2.mono HB1.out.size))
          clear hb2
          go_wp2_with fail
          go_ret2
          exact ⟨rfl, HB2.out⟩
end Go.Proofs.YtkfnbapnkmlopaaDoor
/- Contract: takeNames. -/
namespace Go.Proofs.YtkfnbapnkmlopaaDoor
open Go.RowKit

theorem grown_setW {w w' : World} {ps k : Nat} {v : Value} (h : w.grownBy w' (some ps)) : w.grownBy (w'.setCell ⟨ps, k, none⟩ v) (some ps) := by
  have hb := (Below.refl 0 w').setCell (p := ⟨ps, k, none⟩) (Nat.zero_le _) v
  exact ⟨hb.os.trans h.os, hb.tape.trans h.tape, hb.output.trans h.output, Nat.le_trans h.size hb.size, fun i hi hne => (Below.heap_setCell w' _ _ i (fun e => hne (by rw [e]))).trans (h.block i hi hne)⟩
theorem grown_ofBW {w w' : World} (h : Below w.heap.size w w') (row : Option Nat) : w.grownBy w' row := ⟨h.os, h.tape, h.output, h.size, fun k hk _ => h.block k hk⟩
/-- What takeNames answers. -/
def TnE (ps : Nat) (gv xv e f o : Value) (g : List Grp) (x : List Itm) (w : World) (en : Ending) (w' : World) : Prop := w.grownBy w' (some ps) ∧ match fiN g.length (twB (gN g)) with
  | some i => en = .returned (.tuple #[.int .i64 (i : Nat), errE 7])
  | none => match fiN x.length (twB (iN x)) with
    | some i => en = .returned (.tuple #[.int .i64 ((g.length + i : Nat) : Int), errE 7])
    | none => en = .returned (.tuple #[.int .i64 0, .nilIface]) ∧ ∃ b1 b2, w'.heap[ps]? = some (whC gv xv (.map (some b1)) (.map (some b2)) e f o) ∧ NamB w' b1 (gN g) ∧ NamB w' b2 (iN x)
set_option maxRecDepth 100000 in
set_option maxHeartbeats 4000000 in
theorem tnames_any (ps : Nat) (gv xv c d e f o : Value) (g : List Grp) (x : List Itm) (w : World) (h : w.heap[ps]? = some (whC gv xv c d e f o)) (hv : RowG w gv g) (hu : RowX w xv x) (hl1 : g.length ≤ 1024) (hl2 : x.length ≤ 1024) (hS : SmG g x) :
    Calls Tryd.prog 18 #[.pointer (some ⟨ps, 0, none⟩)] w (TnE ps gv xv e f o g x w) := by
  have ht1 := takeG_any gv g w hv hl1 (fun a ha => (hS.1 a ha).1)
  have ht2 := fun W (hb : Below w.heap.size w W) => takeX_any xv x W (hu.below hb) hl2 (fun a ha => (hS.2 a ha).1)
  unfold TkE at ht1 ht2
  rw [gN_len] at ht1
  simp only [iN_len] at ht2
  unfold TnE
  obtain ⟨A, ca, rfl, hr⟩ := hv.form
  obtain ⟨B, cb, rfl, hs⟩ := hu.form
  obtain ⟨n, hn⟩ : ∃ n, g.length = n := ⟨_, rfl⟩
  obtain ⟨m, hm⟩ : ∃ n, x.length = n := ⟨_, rfl⟩
  rw [hn] at h ht1 hl1 ⊢
  rw [hm] at h ht2 hl2 ⊢
  unfold whC at h
  have c0 := cell9_blk h 0 (v := .slice A n ca) rfl
  have hps := blk9_lt h
  have HH := Lib.hid (And.intro h hps)
  clear hr hs hv hu h hS
  cases h1 : fiN n (twB (gN g)) with
  | some i =>
    rw [h1] at ht1
    have HT1 := Lib.hid ht1
    clear ht1 ht2 h1 hn hm hps
    unfold errE errK at HT1 ⊢
    go_enter Tryd.func18, Tryd.ntmps18
    go_wp2_with fail
    with_reducible refine HT1.out.mono ?_
    rintro en w1 ⟨hb1, he1⟩
    subst he1
    have HB1 := Lib.hid hb1
    clear hb1
    go_wp2_with fail
    go_ret2
    exact ⟨grown_ofBW HB1.out _, rfl⟩
  | none =>
    rw [h1] at ht1
    have HT1 := Lib.hid ht1
    cases h2 : fiN m (twB (iN x)) with
    | some i =>
      have hi := (fiN_some h2).1
      rw [h2] at ht2
      have HT2 := Lib.hid ht2
      obtain ⟨r, hr⟩ : ∃ r, n + i = r := ⟨_, rfl⟩
      dsimp only
      rw [hr]
      have y2 : IntKind.i64.wrap ((n : Int) + i) = (r : Int) := by
        have e : (n : Int) + i = (r : Int) := by omega
        rw [e]
        exact IntWalk.i64_in _ (by omega)
      clear ht1 ht2 h1 h2 hn hm hps hr hi
      unfold errE errK at HT2 ⊢
      go_enter Tryd.func18, Tryd.ntmps18
      go_wp2_with fail
      with_reducible refine HT1.out.mono ?_
      rintro en w1 ⟨hb1, he1⟩
      obtain ⟨b1, rfl, _, hn1⟩ := he1
      have hw1 := (hb1.block ps HH.out.2).trans HH.out.1
      have d1 := cell9_blk hw1 1 (v := .slice B m cb) rfl
      have HB1 := Lib.hid (And.intro hb1 hw1)
      clear hb1 hn1 hw1
      go_wp2_with fail
      with_reducible refine (HT2.out _ HB1.out.1).mono ?_
      rintro en w2 ⟨hb2, he2⟩
      subst he2
      have hw2 := (hb2.block ps (blk9_lt HB1.out.2)).trans HB1.out.2
      have d0 := cell9_blk hw2 0 (v := .slice A n ca) rfl
      have HB2 := Lib.hid (HB1.out.1.trans (hb2.mono HB1.out.1.size))
      clear hb2 hw2
      go_wp2_with fail
      go_ret2
      exact ⟨grown_ofBW HB2.out _, rfl⟩
    | none =>
      rw [h2] at ht2
      have HT2 := Lib.hid ht2
      clear ht1 ht2 h1 h2 hn hm hps
      go_enter Tryd.func18, Tryd.ntmps18
      go_wp2_with fail
      with_reducible refine HT1.out.mono ?_
      rintro en w1 ⟨hb1, he1⟩
      obtain ⟨b1, rfl, _, hn1⟩ := he1
      have hw1 := (hb1.block ps HH.out.2).trans HH.out.1
      have d1 := cell9_blk hw1 1 (v := .slice B m cb) rfl
      have HB1 := Lib.hid (And.intro hb1 (And.intro hw1 hn1))
      clear hb1 hw1 hn1
      go_wp2_with fail
      with_reducible refine (HT2.out _ HB1.out.1).mono ?_
      rintro en w2 ⟨hb2, he2⟩
      obtain ⟨b2, rfl, _, hn2⟩ := he2
      have hw2 := (hb2.block ps (blk9_lt HB1.out.2.1)).trans HB1.out.2.1
      have d2 := cell9_blk hw2 2 (v := c) rfl
      have d3 := cell9_blk hw2 3 (v := d) rfl
      have f2 := frz9_blk hw2 2
      have f3 := frz9_blk hw2 3
      have HB2 := Lib.hid (And.intro (HB1.out.1.trans (hb2.mono HB1.out.1.size)) (And.intro hw2 (And.intro (HB1.out.2.2.below hb2) hn2)))
      clear hb2 hw2 hn2
      go_wp2_with fail
      go_ret2
      have hne1 : b1 ≠ ps := fun e => by
        obtain ⟨_, _, ⟨_, _, h1, _⟩, _⟩ := HB2.out.2.2.1
        rw [e, HB2.out.2.1] at h1
        cases h1
      have hne2 : b2 ≠ ps := fun e => by
        obtain ⟨_, _, ⟨_, _, h1, _⟩, _⟩ := HB2.out.2.2.2
        rw [e, HB2.out.2.1] at h1
        cases h1
      refine ⟨grown_setW (grown_setW (grown_ofBW HB2.out.1 _)), rfl, b1, b2, ?_, ?_, ?_⟩
      · exact heap_setCell_same _ ps 3 _ _ _ (heap_setCell_same _ ps 2 _ _ _ HB2.out.2.1)
      · exact HB2.out.2.2.1.block ((Below.heap_setCell _ _ _ _ hne1).trans (Below.heap_setCell _ _ _ _ hne1))
      · exact HB2.out.2.2.2.block ((Below.heap_setCell _ _ _ _ hne2).trans (Below.heap_setCell _ _ _ _ hne2))
end Go.Proofs.YtkfnbapnkmlopaaDoor

/- Contract: value's Joined. -/
import Derived.Test.YtencapplbedcmaaGreatDoorVaFn
namespace Go.Proofs.YtencapplbedcmaaGreatDoor
open Go.RowKit

set_option maxRecDepth 100000 in
theorem trim_any (l : Tx) (w : World) (hl : l.length ≤ 1000000) : Calls Tryz.prog 29 #[.string (str l)] w fun e w' => e = .returned (.string (str (trw l))) ∧ Below w.heap.size w w' := by
  have HT := Lib.hid (fun W cs hc => libTrim_any l cs W hc hl)
  generalize str l = S at *
  go_enter Tryz.func29, Tryz.ntmps29
  go_wp2_with fail
  refine (HT.out _ _ rfl).mono ?_
  rintro e w' ⟨rfl, hb⟩
  have HB := Lib.hid hb
  clear hb
  go_wp2_with fail
  go_ret
  exact ⟨rfl, HB.out⟩
theorem ret_boolB {a b : Bool} {w w' : World} (h : a = b) (hb : Below w.heap.size w w') : Ending.returned (.bool a) = .returned (.bool b) ∧ Below w.heap.size w w' := ⟨by rw [h], hb⟩
set_option maxRecDepth 100000 in
theorem joined1_any (x : Tx) (w : World) (hx : x.length ≤ 1000000) : Calls Tryz.prog 34 #[.string (str x)] w fun e w' => e = .returned (.bool (badPart x)) ∧ Below w.heap.size w w' := by
  have HC := Lib.hid (fun W => has1_any x 44 _ rfl W)
  have HT := Lib.hid (fun W => trim_any x W hx)
  have HB : Hid (badPart x = (x.isEmpty || x.contains 44 || decide (trw x ≠ x))) := rfl
  generalize badPart x = B at *
  rcases x with _ | ⟨c, x⟩
  · have t0 : str ([] : Tx) = { data := #[] } := rfl
    have HB' : Hid (true = B) := HB.out.symm
    rw [t0]
    clear HC HT HB hx t0
    go_enter Tryz.func34, Tryz.ntmps34
    go_wp2_with fail
    go_ret
    exact ret_boolB HB'.out (Below.refl _ _)
  · have t1 : (str (c :: x)).toList.isEmpty = false := by rw [str_toList]; rfl
    have hem : (c :: x).isEmpty = false := rfl
    rw [hem, Bool.false_or] at HB
    generalize c :: x = y at *
    cases hc : y.contains 44
    · rw [hc] at HC HB
      rw [Bool.false_or] at HB
      have e1 : ((str (trw y)).toList == (str y).toList) = decide (trw y = y) := by
        rw [str_toList, str_toList, Bool.eq_iff_iff]
        simp
      have HB' : Hid (∀ b, decide (trw y = y) = b → (!b) = B) := fun b hb => by rw [HB.out, ← hb]; simp
      generalize str (trw y) = T at *
      generalize str y = S at *
      obtain ⟨b, hb⟩ : ∃ b, decide (trw y = y) = b := ⟨_, rfl⟩
      have HB2 := Lib.hid (HB'.out b hb)
      rw [hb] at e1
      clear HB HB' hb hem hc hx
      have e2 : (T.toList == S.toList) = b := e1
      cases b
      · go_enter Tryz.func34, Tryz.ntmps34
        go_wp2_with fail
        refine (HC.out _).mono ?_
        rintro e w' ⟨rfl, rfl⟩
        go_wp2_with fail
        refine (HT.out _).mono ?_
        rintro e w' ⟨rfl, hb⟩
        have HBb := Lib.hid hb
        clear hb
        go_wp2_with fail
        go_ret
        exact ret_boolB HB2.out HBb.out
      · go_enter Tryz.func34, Tryz.ntmps34
        go_wp2_with fail
        refine (HC.out _).mono ?_
        rintro e w' ⟨rfl, rfl⟩
        go_wp2_with fail
        refine (HT.out _).mono ?_
        rintro e w' ⟨rfl, hb⟩
        have HBb := Lib.hid hb
        clear hb
        go_wp2_with fail
        go_ret
        exact ret_boolB HB2.out HBb.out
    · rw [hc] at HC HB
      have HB' : Hid (true = B) := by rw [HB.out]; rfl
      generalize str y = S at *
      clear HB HT hem hc hx
      go_enter Tryz.func34, Tryz.ntmps34
      go_wp2_with fail
      refine (HC.out _).mono ?_
      rintro e w' ⟨rfl, rfl⟩
      go_wp2_with fail
      go_ret
      exact ret_boolB HB'.out (Below.refl _ _)
/-- How Joined ends. -/
def JoE (R : Tx × Nat) (w : World) (e : Ending) (w' : World) : Prop := e = .returned (.tuple #[.string (str R.1), errE R.2]) ∧ Below w.heap.size w w'
theorem joE_of {R : Tx × Nat} {w w' : World} {t : Tx} {S : ByteArray} {ev : Value} {k : Nat} (hR : (t, k) = R) (hs : str t = S) (he : errE k = ev) (hb : Below w.heap.size w w') : JoE R w (.returned (.tuple #[.string S, ev])) w' := by
  subst hR
  subst hs
  subst he
  exact ⟨rfl, hb⟩
theorem entJoined : EntV 34 := enters_of Tryz.func34 (by kernel_rfl) rfl
set_option maxHeartbeats 1000000 in
set_option maxRecDepth 100000 in
theorem joined_any (A : Option Addr) (n c : Nat) (L : List Tx) (w : World) (hn : L.length = n) (hl : n ≤ 1000000) (hc : n ≤ c) (hx : ∀ x ∈ L, x.length ≤ 1000000) (hj : (joinC L).length ≤ 1000000) (hr : RdS w A L) :
    Calls Tryz.prog 18 #[.slice A n c] w (JoE (joinedT L) w) := by
  obtain ⟨R, hR⟩ : ∃ R, joinedT L = R := ⟨_, rfl⟩
  rw [hR]
  have t0 : str ([] : Tx) = { data := #[] } := rfl
  have HT0 := Lib.hid t0
  by_cases h0 : L = []
  · have hn0 : n = 0 := by rw [← hn, h0]; rfl
    subst hn0
    have HR : Hid (([], 13) = R) := by unfold Hid; rw [← hR, joinedT, if_pos h0]
    clear hn hl hc hx hj hr hR h0 t0
    go_enter Tryz.func18, Tryz.ntmps18
    go_wp2_with fail
    go_ret2
    exact joE_of HR.out HT0.out rfl (Below.refl _ _)
  · have hpos : 0 < n := by rw [← hn]; exact List.length_pos_iff.2 h0
    have d1 : (0 : Int) < n := by omega
    have d2 : ((n : Int) == 0) = false := beq_eq_false_iff_ne.2 (by omega)
    have d3 : ¬ ((n : Int) = 0) := by omega
    have HF := Lib.hid (containsSf A n c L hn 34 #[] w entJoined (fun i => badPart (L.getD i [])) (fun _ W => Below w.heap.size w W) (fun W => Below w.heap.size w W) hl (Below.refl _ _) (fun _ _ h => h) (fun W h => Rd.below hr h) (fun k x W hk hW => by
      have hgd : L.getD k [] = x := by rw [List.getD_eq_getElem?_getD, hk]; rfl
      rw [hgd]
      refine (joined1_any x W (hx x (List.mem_of_getElem? hk))).mono ?_
      rintro e W' ⟨rfl, hb⟩
      have := hW.trans (hb.mono hW.size)
      exact ⟨rfl, this, fun _ => this⟩))
    have e1 : (List.range n).any (fun i => badPart (L.getD i [])) = L.any badPart := by rw [← hn]; exact range_any L badPart
    rw [e1] at HF
    have HCt := Lib.hid (fun W (hb : Below w.heap.size w W) => count_any A n c L W hn hl hx (Rd.below hr hb))
    have HJ := Lib.hid (fun W (hb : Below w.heap.size w W) => join_any A n c L _ W rfl h0 hn (Rd.below hr hb) hc hj hl)
    have HRR : Hid (∀ b, L.any badPart = b → (if b = true then ([], 3) else if cntT L ≠ 0 then ([], cntT L) else (joinC L, 0)) = R) := fun b hb => by
      rw [← hR, joinedT, if_neg h0, hb]
      cases b
      · have hno : L.any List.isEmpty = false := by
          rw [List.any_eq_false] at hb ⊢
          intro p hp he
          refine hb p hp ?_
          unfold badPart
          rw [he]
          rfl
        have : chkT L = cntT L := by rw [chkT, hno, if_neg (by simp)]; rfl
        rw [this]
      · rfl
    obtain ⟨Z, hZ⟩ : ∃ Z, str (joinC L) = Z := ⟨_, rfl⟩
    rw [hZ] at HJ
    have HZ := Lib.hid hZ
    obtain ⟨k, hk⟩ : ∃ k, cntT L = k := ⟨_, rfl⟩
    rw [hk] at HCt HRR
    clear e1 hx hr hn hc hl hpos hj hR h0 t0 hZ hk
    cases hb : L.any badPart <;> rw [hb] at HF <;> (have HR := Lib.hid (HRR.out _ hb); clear hb HRR)
    · rw [if_neg (by simp)] at HR
      go_enter Tryz.func18, Tryz.ntmps18
      go_wp2_with fail
      refine HF.out.mono ?_
      rintro e w1 ⟨rfl, hb⟩
      have HB1 := Lib.hid hb
      clear hb
      go_wp2_with fail
      refine (HCt.out _ HB1.out).mono ?_
      rintro e w2 ⟨rfl, hb⟩
      have HB2 := Lib.hid (HB1.out.trans (hb.mono HB1.out.size))
      clear hb
      by_cases hk0 : k = 0
      · have HR2 : Hid ((joinC L, 0) = R) := by have h1 := HR.out; rw [if_neg (by simpa using hk0)] at h1; exact h1
        rw [hk0, errE_zero]
        clear HR hk0
        go_wp2_with fail
        refine (HJ.out _ HB2.out).mono ?_
        rintro e w3 ⟨rfl, hb⟩
        have HB3 := Lib.hid (HB2.out.trans (hb.mono HB2.out.size))
        clear hb
        go_wp2_with fail
        go_ret2
        exact joE_of HR2.out HZ.out errE_zero HB3.out
      · have HR2 : Hid (([], k) = R) := by have h1 := HR.out; rw [if_pos hk0] at h1; exact h1
        have hE : errE k = errK k := if_neg hk0
        have HE := Lib.hid hE
        rw [hE]
        unfold errK
        clear HR hk0 hE
        go_wp2_with fail
        go_ret2
        exact joE_of HR2.out HT0.out HE.out HB2.out
    · rw [if_pos rfl] at HR
      go_enter Tryz.func18, Tryz.ntmps18
      go_wp2_with fail
      refine HF.out.mono ?_
      rintro e w1 ⟨rfl, hb⟩
      have HB1 := Lib.hid hb
      clear hb
      go_wp2_with fail
      go_ret2
      exact joE_of HR.out HT0.out rfl HB1.out
end Go.Proofs.YtencapplbedcmaaGreatDoor

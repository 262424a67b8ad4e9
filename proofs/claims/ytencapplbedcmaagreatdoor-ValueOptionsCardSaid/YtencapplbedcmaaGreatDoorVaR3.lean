/- Contract: the document's Joined. -/
import Derived.Test.YtencapplbedcmaaGreatDoorVaR1
import Derived.Deep.RegionHeld3
namespace Go.Proofs.YtencapplbedcmaaGreatDoor
open Go.RowKit

theorem join_snoc : ∀ (l : List Tx) (x : Tx), joinC (l ++ [x]) = if l = [] then x else joinC l ++ 44 :: x
  | [], x => rfl
  | [p], x => by simp [joinC]
  | p :: q :: r, x => by
    have ih := join_snoc (q :: r) x
    rw [if_neg (by simp)] at ih ⊢
    rw [List.cons_append, List.cons_append, joinC, ← List.cons_append, ih, joinC]
    simp
theorem join_le (k : Nat) : ∀ l : List Tx, (∀ x ∈ l, x.length ≤ k) → (joinC l).length ≤ l.length * (k + 1)
  | [], _ => by simp [joinC]
  | [p], h => by
    have := h p (by simp)
    simp [joinC]
    omega
  | p :: q :: r, h => by
    have h1 := h p (by simp)
    have h2 := join_le k (q :: r) fun x hx => h x (by simp [hx])
    rw [joinC, List.length_append, List.length_cons, List.length_cons, Nat.add_mul, Nat.one_mul]
    omega
/-- How the document's Joined ends. -/
def RjE (R : Tx × Nat) (w : World) (e : Ending) (w' : World) : Prop := e = .returned (.tuple #[.string (str R.1), .int .i64 (R.2 : Nat)]) ∧ Below w.heap.size w w'
theorem rjE_of {R : Tx × Nat} {w w' : World} {t : Tx} {S : ByteArray} {j : Int} {k : Nat} (hR : (t, k) = R) (hs : str t = S) (he : j = k) (hb : Below w.heap.size w w') : RjE R w (.returned (.tuple #[.string S, .int .i64 j])) w' := by
  subst hR
  subst hs
  subst he
  exact ⟨rfl, hb⟩
theorem below_drew {B : Nat} {w w' : World} (h : Below B w w') : Below B w w'.drew := ⟨h.os, h.tape, h.output, h.size, h.block⟩
set_option maxHeartbeats 2000000 in
set_option maxRecDepth 100000 in
theorem refJoined_any (A : Option Addr) (n c : Nat) (L : List Tx) (w : World) (hn : L.length = n) (hl : n ≤ 1000) (hx : ∀ x ∈ L, x.length ≤ 1000) (hr : RdS w A L) :
    Calls Tryz.prog 19 #[.slice A n c] w (RjE (joinedT L) w) := by
  obtain ⟨R, hR⟩ : ∃ R, joinedT L = R := ⟨_, rfl⟩
  rw [hR]
  have t0 : str ([] : Tx) = { data := #[] } := rfl
  have HT0 := Lib.hid t0
  by_cases h0 : L = []
  · have hn0 : n = 0 := by rw [← hn, h0]; rfl
    subst hn0
    have HR : Hid (([], 13) = R) := by unfold Hid; rw [← hR, joinedT, if_pos h0]
    clear hn hl hx hr hR h0 t0
    go_enter Tryz.func19, Tryz.ntmps19
    go_wp2_with fail
    go_ret2
    exact rjE_of HR.out HT0.out rfl (Below.refl _ _)
  · have hpos : 0 < n := by rw [← hn]; exact List.length_pos_iff.2 h0
    have d1 : (0 : Int) < n := by omega
    have d2 : ((n : Int) == 0) = false := beq_eq_false_iff_ne.2 (by omega)
    have d3 : ¬ ((n : Int) = 0) := by omega
    have HS := Lib.hid (And.intro hn (And.intro hr hx))
    have HRB : Hid ((∃ x ∈ L, badPart x = true) → ([], 3) = R) := by
      rintro ⟨x, hx, hb⟩
      rw [← hR, joinedT, if_neg h0, if_pos (List.any_eq_true.2 ⟨x, hx, hb⟩)]
    have HRG : Hid ((∀ x ∈ L, badPart x = false) → (if chkT L ≠ 0 then ([], chkT L) else (joinC L, 0)) = R) := fun h => by
      have hno : ¬ L.any badPart = true := fun h2 => by
        obtain ⟨x, hx, hb⟩ := List.any_eq_true.1 h2
        rw [h x hx] at hb
        cases hb
      rw [← hR, joinedT, if_neg h0, if_neg hno]
    have HT := Lib.hid (fun x w h => refTrim_any x w h)
    have hjl : ∀ i, (joinC (L.take i)).length ≤ i * 1001 := fun i => by
      have h1 := join_le 1000 (L.take i) fun x h => hx x (List.mem_of_mem_take h)
      have h2 : (L.take i).length ≤ i := by rw [List.length_take]; omega
      have h3 : (L.take i).length * (1000 + 1) ≤ i * 1001 := Nat.mul_le_mul_right _ h2
      omega
    have HJL := Lib.hid hjl
    clear hn hx hr hR h0 t0 hjl hpos
    go_enter Tryz.func19, Tryz.ntmps19
    go_wp2_with fail
    go_loopw [4, 5, 6] (fun s v _ w' => ∃ i : Nat, v = .int .i64 i ∧ i ≤ n ∧ s = .string (str (joinC (L.take i))) ∧ (∀ p ∈ L.take i, badPart p = false) ∧ Below w.heap.size w w') (fun _ v _ _ => n - (intOf v).toNat)
    case atStart => exact ⟨0, rfl, Nat.zero_le _, rfl, (fun p hp => by cases hp), Below.refl _ _⟩
    case round =>
      obtain ⟨i, rfl, hi, rfl, hne, hb⟩ := hrel
      have HB := Lib.hid (And.intro hne hb)
      clear hne hb
      rcases Nat.lt_or_ge i n with hlt | hge
      · have q0 : (0 : Int) ≤ i := by omega
        have q1 : (i : Int) < n := by omega
        have hiL : i < L.length := by rw [HS.out.1]; exact hlt
        have hkL : i < (L.map txC).length := by rw [List.length_map]; exact hiL
        obtain ⟨ad, rfl, c0⟩ := (Rd.below HS.out.2.1 HB.out.2).at_ hkL
        obtain ⟨x, hx⟩ : ∃ x, L[i] = x := ⟨_, rfl⟩
        have hmem : x ∈ L := by rw [← hx]; exact List.getElem_mem hiL
        rw [List.getElem_map, hx] at c0
        have hxl := HS.out.2.2 x hmem
        have HX := Lib.hid (And.intro hxl (And.intro hmem hmem))
        have htk : L.take (i + 1) = L.take i ++ [x] := by rw [List.take_succ_eq_append_getElem hiL, hx]
        have HTk := Lib.hid htk
        have hz := HJL.out i
        obtain ⟨J, hJ⟩ : ∃ J, joinC (L.take i) = J := ⟨_, rfl⟩
        have HJ := Lib.hid hJ
        rw [hJ] at hz ⊢
        have cd : wr.drew.cell? (ad.add i) = some (.string (str x)) := c0
        clear hkL hx hmem htk hJ hiL
        by_cases hx0 : x = []
        · have HR : Hid (([], 3) = R) := HRB.out ⟨x, HX.out.2.2, by rw [hx0]; rfl⟩
          subst hx0
          have t0 : str ([] : Tx) = { data := #[] } := rfl
          change wr.cell? (ad.add i) = some (.string (str [])) at c0
          rw [t0] at c0 cd
          generalize str J = Z at *
          clear t0 hz
          go_wp2_with fail
          go_quiet (fail)
          go_wp2_with fail
          go_ret2
          exact rjE_of HR.out HT0.out rfl (HB.out.2.trans (below_dr _ _))
        · have t1 : (str x).toList.isEmpty = false := by rw [str_toList]; simpa using hx0
          have hsz : (str x).size = x.length := rfl
          have e2 : ((str (trw x)).toList == (str x).toList) = decide (trw x = x) := by
            rw [str_toList, str_toList, Bool.eq_iff_iff]
            simp
          have HTx := Lib.hid (fun W => HT.out x W (by omega))
          change wr.cell? (ad.add i) = some (.string (str x)) at c0
          by_cases htr : trw x = x
          · rw [decide_eq_true htr, htr] at e2
            rw [htr] at HTx
            have HBP : Hid (badPart x = x.contains 44) := by
              unfold Hid badPart
              rw [htr]
              have : x.isEmpty = false := by simpa using hx0
              rw [this]
              simp
            have HXS : Hid (∀ (k : Nat) (hk : k < x.length), ∃ y, x[k] = y ∧ (str x)[k]'(by rw [hsz]; exact hk) = y) := fun k hk => ⟨x[k], rfl, str_at x k hk⟩
            have HXX : Hid (∀ z, str (z ++ x) = str z ++ str x) := fun z => (str_append z x).symm
            obtain ⟨m, hm⟩ : ∃ m, x.length = m := ⟨_, rfl⟩
            have HM := Lib.hid hm
            rw [hm] at hsz hxl
            have hCell : Hid (∀ W, Below w.heap.size w W → W.cell? (ad.add i) = some (.string (str x))) := fun W hW => by
              have hiL : i < L.length := by rw [HS.out.1]; exact hlt
              have hkL : i < (L.map txC).length := by rw [List.length_map]; exact hiL
              obtain ⟨ad', e, c1⟩ := (Rd.below HS.out.2.1 hW).at_ hkL
              injection e with e
              subst e
              have h3 : L[i] = x := by
                have := HTk.out
                rw [List.take_succ_eq_append_getElem hiL] at this
                exact List.cons.inj (List.append_cancel_left this) |>.1
              rw [List.getElem_map, h3] at c1
              exact c1
            have HC0 := Lib.hid cd
            generalize str x = X at *
            clear htr hx0 hm cd
            have hsJ : (str J).size = J.length := rfl
            have HJ2 : Hid (∀ z, str (J ++ z) = str J ++ str z) := fun z => (str_append J z).symm
            obtain ⟨z, hz2⟩ : ∃ z, J.length = z := ⟨_, rfl⟩
            rw [hz2] at hz hsJ
            have hz3 : z ≤ 1001000 := by omega
            obtain ⟨Z, hZ⟩ : ∃ Z, str J = Z := ⟨_, rfl⟩
            rw [hZ] at hsJ ⊢
            have HZ := Lib.hid hZ
            clear hz2 hZ hz
            go_wp2_with fail
            go_region_held3 (fun W => W.cell? (ad.add i) = some (.string X)) (exact HC0.out) (first
              | (go_at_call 32
                 refine (HTx.out _).mono ?_
                 rintro e w' ⟨rfl, rfl⟩))
            go_wp2_with fail
            go_loopw [6] (fun v w' => ∃ k : Nat, v = .int .i64 k ∧ k ≤ m ∧ 44 ∉ x.take k ∧ Below w.heap.size w w') (fun v _ => m - (intOf v).toNat)
            case atStart => exact ⟨0, rfl, Nat.zero_le _, by simp, below_drew HB.out.2⟩
            case round =>
              obtain ⟨k, rfl, hk, hno, hb⟩ := hrel
              have HK := Lib.hid (And.intro hno hb)
              have c1 := hCell.out _ hb
              clear hno hb
              rcases Nat.lt_or_ge k m with hlk | hgk
              · have q3 : (0 : Int) ≤ k := by omega
                have q4 : (k : Int) < m := by omega
                obtain ⟨y, hy1, hy2⟩ := HXS.out k (by rw [HM.out]; exact hlk)
                have HY := Lib.hid hy1
                clear hy1
                by_cases hc : y = 44
                · have HR : Hid (([], 3) = R) := HRB.out ⟨x, HX.out.2.2, by
                    rw [HBP.out, List.contains_iff_mem, ← hc, ← HY.out]
                    exact List.getElem_mem _⟩
                  subst hc
                  go_wp2_with fail
                  go_ret2
                  exact rjE_of HR.out HT0.out rfl HK.out.2
                · have e3 : ((y.toNat : Int) == 44) = false := by
                    rw [beq_eq_false_iff_ne]
                    intro h
                    exact hc (UInt8.toNat_inj.1 (by have : (44 : UInt8).toNat = 44 := rfl; omega))
                  have HC := Lib.hid hc
                  clear hc
                  go_wp2_with fail
                  refine ⟨⟨k + 1, by go_num, hlk, fun h => ?_, HK.out.2⟩, by simp [intOf]; omega⟩
                  rw [List.take_succ_eq_append_getElem (by rw [HM.out]; exact hlk)] at h
                  rcases List.mem_append.1 h with h | h
                  · exact HK.out.1 h
                  · exact HC.out (by rw [← HY.out]; exact (List.mem_singleton.1 h).symm)
              · obtain rfl : k = m := by omega
                have q3 : ¬ ((k : Int) < k) := by omega
                have hgood : badPart x = false := by
                  rw [HBP.out]
                  cases hc : x.contains 44
                  · rfl
                  · exact absurd (by rw [List.take_of_length_le (by rw [HM.out]; exact Nat.le_refl _)]; exact List.contains_iff_mem.1 hc) HK.out.1
                have hne2 : ∀ p ∈ L.take (i + 1), badPart p = false := fun p hp => by
                  rw [HTk.out] at hp
                  rcases List.mem_append.1 hp with hp | hp
                  · exact HB.out.1 p hp
                  · rw [List.mem_singleton.1 hp]; exact hgood
                have HNe := Lib.hid hne2
                clear hgood hne2
                rcases Nat.eq_zero_or_pos i with hi0 | hi0
                · have hJnil : J = [] := by rw [← HJ.out, hi0]; rfl
                  have q5 : ¬ ((0 : Int) < i) := by omega
                  have HI := Lib.hid hi0
                  have HJN := Lib.hid hJnil
                  clear hi0 hJnil
                  go_wp2_with fail
                  refine ⟨⟨i + 1, by go_num, hlt, ?_, HNe.out, HK.out.2⟩, by simp [intOf]; omega⟩
                  rw [HTk.out, join_snoc, if_pos (by rw [HI.out]; rfl)]
                  have h1 := HXX.out []
                  rw [List.nil_append, ← HJN.out, HZ.out] at h1
                  exact congrArg Value.string (by rw [← h1] <;> rfl)
                · have hne0 : L.take i ≠ [] := by
                    intro h
                    have := congrArg List.length h
                    rw [List.length_take, HS.out.1] at this
                    simp only [List.length_nil] at this
                    omega
                  have q5 : (0 : Int) < i := by omega
                  have HN0 := Lib.hid hne0
                  have hs44 : (str [44]).size = 1 := rfl
                  have H44 : Hid (str [44] = { data := #[44] }) := rfl
                  clear hi0 hne0
                  go_wp2_with fail
                  refine ⟨⟨i + 1, by go_num, hlt, ?_, HNe.out, HK.out.2⟩, by simp [intOf]; omega⟩
                  rw [HTk.out, join_snoc, if_neg HN0.out, HJ.out]
                  have h1 := HXX.out (J ++ [44])
                  rw [HJ2.out, HZ.out, H44.out, List.append_assoc] at h1
                  exact congrArg Value.string h1.symm
          · have HR : Hid (([], 3) = R) := HRB.out ⟨x, HX.out.2.2, by unfold badPart; rw [decide_eq_true htr, Bool.or_true]⟩
            rw [decide_eq_false htr] at e2
            generalize str (trw x) = T at *
            generalize str x = X at *
            generalize str J = Z at *
            clear hz htr hx0
            have HC0 := Lib.hid cd
            go_wp2_with fail
            go_region_held3 (fun W => W.cell? (ad.add i) = some (.string X)) (exact HC0.out) (first
              | (go_at_call 32
                 refine (HTx.out _).mono ?_
                 rintro e w' ⟨rfl, rfl⟩))
            go_wp2_with fail
            go_ret2
            exact rjE_of HR.out HT0.out rfl (below_drew HB.out.2)
      · obtain rfl : i = n := by omega
        have q1 : ¬ ((i : Int) < i) := by omega
        have hfull : L.take i = L := List.take_of_length_le (by rw [HS.out.1]; exact Nat.le_refl _)
        have hgood : ∀ p ∈ L, badPart p = false := fun p hp => HB.out.1 p (by rw [hfull]; exact hp)
        rw [hfull]
        have hCk := Lib.hid (refCheck_any A i c L wr HS.out.1 (by omega) (Rd.below HS.out.2.1 HB.out.2))
        have HRk := Lib.hid (HRG.out hgood)
        obtain ⟨k, hk⟩ : ∃ k, chkT L = k := ⟨_, rfl⟩
        unfold CkE at hCk
        rw [hk] at HRk hCk
        obtain ⟨Z, hZ⟩ : ∃ Z, str (joinC L) = Z := ⟨_, rfl⟩
        have HZ := Lib.hid hZ
        rw [hZ]
        clear hfull hgood hk hZ
        go_wp2_with fail
        refine hCk.out.mono ?_
        rintro e w5 ⟨rfl, hb5⟩
        have HB5 := Lib.hid (HB.out.2.trans (hb5.mono HB.out.2.size))
        clear hb5
        by_cases hk0 : k = 0
        · subst hk0
          have HRk0 : Hid ((joinC L, 0) = R) := HRk.out
          clear HRk
          go_wp2_with fail
          go_ret2
          exact rjE_of HRk0.out HZ.out rfl HB5.out
        · have HRk0 : Hid (([], k) = R) := by have h1 := HRk.out; rw [if_pos hk0] at h1; exact h1
          have q6 : ((k : Int) == 0) = false := beq_eq_false_iff_ne.2 (by omega)
          have q7 : ¬ ((k : Int) = 0) := by omega
          clear HRk hk0
          go_wp2_with fail
          go_ret2
          exact rjE_of HRk0.out HT0.out rfl HB5.out
end Go.Proofs.YtencapplbedcmaaGreatDoor

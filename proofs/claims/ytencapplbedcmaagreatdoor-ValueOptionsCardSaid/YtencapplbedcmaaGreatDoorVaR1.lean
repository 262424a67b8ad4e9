/- Contracts: the document's trim, check, List. -/
import Derived.Test.YtencapplbedcmaaGreatDoorVaFn
namespace Go.Proofs.YtencapplbedcmaaGreatDoor
open Go.RowKit

theorem bl2_int (x : UInt8) : (bl2 x = true ∧ ((((x.toNat : Int) == 32) = true) ∨ (((x.toNat : Int) == 32) = false ∧ ((x.toNat : Int) == 9) = true))) ∨ (bl2 x = false ∧ ((x.toNat : Int) == 32) = false ∧ ((x.toNat : Int) == 9) = false) := by
  have h : ∀ k : UInt8, (((x.toNat : Int)) == ((k.toNat : Nat) : Int)) = (x == k) := fun k => by
    rw [Bool.eq_iff_iff]
    simp only [beq_iff_eq]
    exact ⟨fun e => UInt8.toNat_inj.1 (by omega), fun e => by rw [e]⟩
  have h1 : ((x.toNat : Int) == 32) = (x == 32) := h 32
  have h2 : ((x.toNat : Int) == 9) = (x == 9) := h 9
  rw [h1, h2]
  unfold bl2
  cases (x == 32) <;> cases (x == 9) <;> simp
theorem ldw_cases (t l : Tx) (ht : ldw t = ldw l) : (∃ x r, t = x :: r ∧ bl2 x = true ∧ ldw r = ldw l) ∨ (t = [] ∧ ldw l = []) ∨ ∃ x r, t = x :: r ∧ bl2 x = false ∧ ldw l = x :: r := by
  rcases t with _ | ⟨x, r⟩
  · exact .inr (.inl ⟨rfl, ht.symm⟩)
  · cases hb : bl2 x <;> rw [ldw_cons, hb] at ht
    · exact .inr (.inr ⟨x, r, rfl, hb, ht.symm⟩)
    · exact .inl ⟨x, r, rfl, hb, ht⟩
theorem rdw_cases (t l : Tx) (ht : rdw t = rdw l) : (∃ r x, t = r ++ [x] ∧ bl2 x = true ∧ rdw r = rdw l) ∨ (t = [] ∧ rdw l = []) ∨ ∃ r x, t = r ++ [x] ∧ bl2 x = false ∧ rdw l = r ++ [x] := by
  rcases List.eq_nil_or_concat t with rfl | ⟨r, x, rfl⟩
  · exact .inr (.inl ⟨rfl, ht.symm⟩)
  · rw [List.concat_eq_append] at ht ⊢
    cases hb : bl2 x <;> rw [rdw_snoc, hb] at ht
    · exact .inr (.inr ⟨r, x, rfl, hb, ht.symm⟩)
    · exact .inl ⟨r, x, rfl, hb, ht⟩
set_option maxRecDepth 100000 in
theorem refTrim_any (l : Tx) (w : World) (hl : l.length ≤ 4611686018427387904) : Calls Tryz.prog 32 #[.string (str l)] w fun e w' => e = .returned (.string (str (trw l))) ∧ w = w' := by
  have HT : Hid (trw l = rdw (ldw l)) := rfl
  obtain ⟨N, hN⟩ : ∃ N, l.length = N := ⟨_, rfl⟩
  rw [hN] at hl
  have HN := Lib.hid hN
  clear hN
  obtain ⟨Z, hZ⟩ : ∃ Z, trw l = Z := ⟨_, rfl⟩
  rw [hZ] at HT ⊢
  clear hZ
  go_enter Tryz.func32, Tryz.ntmps32
  go_wp2_with fail
  go_loop [0] (fun v => ∃ t : Tx, v = .string (str t) ∧ ldw t = ldw l ∧ t.length ≤ N) (fun v => szOf v)
  case atStart => exact ⟨l, rfl, rfl, by rw [HN.out]; exact Nat.le_refl _⟩
  case round =>
    obtain ⟨t, rfl, ht, hle⟩ := hrel
    rcases ldw_cases t l ht with ⟨x, r, rfl, hb, hr⟩ | hend
    · have HS := Lib.hid hr
      obtain ⟨m, hm⟩ : ∃ m, r.length = m := ⟨_, rfl⟩
      obtain ⟨S, hS, hsz, hx, hc⟩ := cons_facts x r m hm
      have HC := Lib.hid hc
      have hbi := bl2_int x
      rw [List.length_cons, hm] at hle
      have HM := Lib.hid hm
      rw [hS]
      rcases hbi with ⟨_, e1 | ⟨e1, e2⟩⟩ | ⟨e0, _⟩
      rotate_right
      · rw [hb] at e0; cases e0
      all_goals
        clear ht hb hm hr hS hc
        go_wp2_with fail
        go_round
        case rel => exact ⟨r, congrArg Value.string HC.out, HS.out, by rw [HM.out]; omega⟩
        case measure =>
          rw [HC.out]
          show r.length < S.size
          rw [HM.out, hsz]
          omega
    · have HE : Hid (Z = rdw t) := by
        unfold Hid
        rw [HT.out]
        rcases hend with ⟨rfl, h⟩ | ⟨x, r, rfl, _, h⟩ <;> rw [h]
      clear ht
      rcases hend with ⟨rfl, h⟩ | ⟨x, r, rfl, hb, h⟩
      case' inl =>
        have hz : (str []).size = 0 := rfl
        obtain ⟨S, hS⟩ : ∃ S, str [] = S := ⟨_, rfl⟩
        obtain ⟨T, hT⟩ : ∃ T : Tx, T = [] := ⟨_, rfl⟩
        have HS : Hid (S = str T) := by unfold Hid; rw [hT, hS]
        have HL : Hid (T.length ≤ N) := by unfold Hid; rw [hT]; exact Nat.zero_le _
        rw [← hT] at HE
        rw [hS] at hz ⊢
        clear hS h hle hT
        go_wp2_with fail
      case' inr =>
        obtain ⟨m, hm⟩ : ∃ m, r.length = m := ⟨_, rfl⟩
        obtain ⟨S, hS, hsz, hx, hc⟩ := cons_facts x r m hm
        have hbi : ((x.toNat : Int) == 32) = false ∧ ((x.toNat : Int) == 9) = false := by
          rcases bl2_int x with ⟨e0, _⟩ | ⟨_, h⟩
          · rw [hb] at e0; cases e0
          · exact h
        obtain ⟨e1, e2⟩ := hbi
        have HL := Lib.hid hle
        rw [List.length_cons, hm] at hle
        obtain ⟨T, hT⟩ : ∃ T : Tx, T = x :: r := ⟨_, rfl⟩
        have HS : Hid (S = str T) := by unfold Hid; rw [hT, hS]
        rw [← hT] at HE HL
        rw [hS]
        clear hb hm hS hc h hT
        go_wp2_with fail
      all_goals
        go_loop [0] (fun v => ∃ t : Tx, v = .string (str t) ∧ rdw t = rdw T ∧ t.length ≤ N) (fun v => szOf v)
        case atStart => exact ⟨T, congrArg Value.string HS.out, rfl, HL.out⟩
        case round =>
          obtain ⟨t, rfl, ht, hle⟩ := hrel
          rcases rdw_cases t T ht with ⟨r, x, rfl, hb, hr⟩ | ⟨rfl, h⟩ | ⟨r, x, rfl, hb, h⟩
          · have HSS := Lib.hid hr
            obtain ⟨m, hm⟩ : ∃ m, r.length = m := ⟨_, rfl⟩
            obtain ⟨S', hS', hsz', hx', hc'⟩ := snoc_facts r x m hm
            have HC := Lib.hid hc'
            have hbi := bl2_int x
            rw [List.length_append, hm] at hle
            have hle' : m + 1 ≤ N := hle
            have HM := Lib.hid hm
            rw [hS']
            rcases hbi with ⟨_, f1 | ⟨f1, f2⟩⟩ | ⟨e0, _⟩
            rotate_right
            · rw [hb] at e0; cases e0
            all_goals
              clear ht hb hm hr hS' hc' hle
              go_wp2_with fail
              go_round
              case rel => exact ⟨r, congrArg Value.string HC.out, HSS.out, by rw [HM.out]; omega⟩
              case measure =>
                rw [HC.out]
                show r.length < S'.size
                rw [HM.out, hsz']
                omega
          · have HZ : Hid (str [] = str Z) := by unfold Hid; rw [HE.out, h]
            have hz' : (str []).size = 0 := rfl
            obtain ⟨S', hS'⟩ : ∃ S', str [] = S' := ⟨_, rfl⟩
            rw [hS'] at HZ hz' ⊢
            clear hS' ht hle h
            go_wp2_with fail
            go_ret
            exact ⟨ret_str8 HZ.out, rfl⟩
          · have HZ : Hid (str (r ++ [x]) = str Z) := by unfold Hid; rw [HE.out, h]
            obtain ⟨m, hm⟩ : ∃ m, r.length = m := ⟨_, rfl⟩
            obtain ⟨S', hS', hsz', hx', hc'⟩ := snoc_facts r x m hm
            have hbi : ((x.toNat : Int) == 32) = false ∧ ((x.toNat : Int) == 9) = false := by
              rcases bl2_int x with ⟨e0, _⟩ | ⟨_, h⟩
              · rw [hb] at e0; cases e0
              · exact h
            obtain ⟨f1, f2⟩ := hbi
            rw [List.length_append, hm] at hle
            have hle' : m + 1 ≤ N := hle
            rw [hS'] at HZ ⊢
            clear ht hb hm h hS' hc' hle
            go_wp2_with fail
            go_ret
            exact ⟨ret_str8 HZ.out, rfl⟩
theorem below_dr {B : Nat} (w : World) (q : Nat) : Below B w (w.drewN q) := ⟨rfl, rfl, rfl, Nat.le_refl _, fun _ _ => rfl⟩
/-- What check answers, with draws behind it. -/
def CkE (L : List Tx) (w : World) (e : Ending) (w' : World) : Prop := e = .returned (.int .i64 (chkT L : Nat)) ∧ Below w.heap.size w w'
theorem ckE_of {L : List Tx} {w w' : World} {k : Int} {m : Nat} (h : chkT L = m) (hk : k = m) (hb : Below w.heap.size w w') : CkE L w (.returned (.int .i64 k)) w' := by
  subst h
  subst hk
  exact ⟨rfl, hb⟩
set_option maxHeartbeats 1000000 in
set_option maxRecDepth 100000 in
theorem refCheck_any (A : Option Addr) (n c : Nat) (L : List Tx) (w : World) (hn : L.length = n) (hl : n ≤ 1000000) (hr : RdS w A L) :
    Calls Tryz.prog 33 #[.slice A n c] w (CkE L w) := by
  have HS := Lib.hid (And.intro hn hr)
  clear hn hr
  have HG : Hid (∀ k W, k < n → Below w.heap.size w W → ∃ ad x, A = some ad ∧ L[k]? = some x ∧ W.cell? (ad.add k) = some (.string (str x))) := fun k W hk hb => by
    have hk2 : k < L.length := by rw [HS.out.1]; exact hk
    have hkL : k < (L.map txC).length := by rw [List.length_map]; exact hk2
    obtain ⟨ad, e, c0⟩ := (Rd.below HS.out.2 hb).at_ hkL
    exact ⟨ad, L[k], e, List.getElem?_eq_getElem hk2, by rw [c0, List.getElem_map]; rfl⟩
  go_enter Tryz.func33, Tryz.ntmps33
  go_wp2_with fail
  go_loopw [3] (fun v w' => ∃ i : Nat, v = .int .i64 i ∧ i ≤ n ∧ (∀ p ∈ L.take i, p ≠ []) ∧ Below w.heap.size w w') (fun v _ => n - (intOf v).toNat)
  case atStart => exact ⟨0, rfl, Nat.zero_le _, (fun p hp => by cases hp), Below.refl _ _⟩
  case round =>
    obtain ⟨i, rfl, hi, hne, hb⟩ := hrel
    have HB := Lib.hid (And.intro hne hb)
    clear hne hb
    rcases Nat.lt_or_ge i n with hlt | hge
    · have q0 : (0 : Int) ≤ i := by omega
      have q1 : (i : Int) < n := by omega
      obtain ⟨ad, x, rfl, hx, c0⟩ := HG.out i wr hlt HB.out.2
      have HX := Lib.hid hx
      clear hx
      rcases x with _ | ⟨y, x⟩
      · have hck : chkT L = 3 := by
          rw [chkT, if_pos (List.any_eq_true.2 ⟨[], List.mem_of_getElem? HX.out, rfl⟩)]
        have HCk := Lib.hid hck
        have t0 : str ([] : Tx) = { data := #[] } := rfl
        rw [t0] at c0
        clear t0 hck
        go_wp2_with fail
        go_ret
        exact ckE_of HCk.out rfl HB.out.2
      · have t1 : (str (y :: x)).toList.isEmpty = false := by rw [str_toList]; rfl
        generalize str (y :: x) = S at *
        go_wp2_with fail
        refine ⟨⟨i + 1, by go_num, hlt, fun p hp => ?_, HB.out.2⟩, by simp [intOf]; omega⟩
        have hiL : i < L.length := by rw [HS.out.1]; exact hlt
        rw [List.take_succ_eq_append_getElem hiL] at hp
        rcases List.mem_append.1 hp with hp | hp
        · exact HB.out.1 p hp
        · rw [List.mem_singleton.1 hp]
          have h2 := HX.out
          rw [List.getElem?_eq_getElem hiL] at h2
          rw [Option.some.inj h2]
          simp
    · obtain rfl : i = n := by omega
      have q1 : ¬ ((i : Int) < i) := by omega
      have hany : L.any List.isEmpty = false := by
        rw [List.any_eq_false]
        intro p hp he
        refine HB.out.1 p ?_ (List.isEmpty_iff.1 he)
        rw [List.take_of_length_le (by rw [HS.out.1]; exact Nat.le_refl _)]
        exact hp
      have HAny := Lib.hid hany
      have HB1 := Lib.hid HB.out.2
      clear hany HB hge hi
      go_wp2_with fail
      go_loopw [4, 5] (fun v _ w' => ∃ j : Nat, v = .int .i64 j ∧ j ≤ i ∧ dupT (L.take j) = false ∧ Below w.heap.size w w') (fun v _ _ => i - (intOf v).toNat)
      case atStart => exact ⟨0, rfl, Nat.zero_le _, rfl, HB1.out⟩
      case round =>
        obtain ⟨j, rfl, hj, hdu, hb⟩ := hrel
        have HB := Lib.hid (And.intro hdu hb)
        clear hdu hb
        rcases Nat.lt_or_ge j i with hlt | hge
        · have q0 : (0 : Int) ≤ j := by omega
          have q2 : (j : Int) < i := by omega
          obtain ⟨x, hx⟩ : ∃ x, L[j]? = some x := ⟨L[j]'(by rw [HS.out.1]; exact hlt), List.getElem?_eq_getElem _⟩
          have HX := Lib.hid hx
          clear hx
          go_wp2_with fail
          go_loopw [5] (fun v w' => ∃ k : Nat, v = .int .i64 k ∧ k ≤ j ∧ (L.take k).any (· == x) = false ∧ Below w.heap.size w w') (fun v _ => j - (intOf v).toNat)
          case atStart => exact ⟨0, rfl, Nat.zero_le _, rfl, HB.out.2⟩
          case round =>
            obtain ⟨k, rfl, hk, hno, hb⟩ := hrel
            have HC := Lib.hid (And.intro hno hb)
            clear hno hb
            rcases Nat.lt_or_ge k j with hlk | hgk
            · have q3 : (0 : Int) ≤ k := by omega
              have q4 : (k : Int) < j := by omega
              have q5 : (k : Int) < i := by omega
              obtain ⟨ad, x', rfl, hx', c0⟩ := HG.out j wr hlt HC.out.2
              obtain ⟨ad', y, hA, hy, c1⟩ := HG.out k wr (by omega) HC.out.2
              injection hA with hA
              subst hA
              obtain rfl : x' = x := Option.some.inj (hx'.symm.trans HX.out)
              have c0' : wr.drew.cell? (ad.add j) = some (.string (str x')) := c0
              have c1' : wr.drew.cell? (ad.add k) = some (.string (str y)) := c1
              have HY := Lib.hid hy
              have hkL : k < L.length := by rw [HS.out.1]; omega
              have hjL : j < L.length := by rw [HS.out.1]; omega
              have hyk : L[k] = y := by rw [List.getElem?_eq_getElem hkL] at hy; exact Option.some.inj hy
              have hxj : L[j] = x' := by rw [List.getElem?_eq_getElem hjL] at hx'; exact Option.some.inj hx'
              have htk : (L.take (k + 1)).any (· == x') = ((L.take k).any (· == x') || y == x') := by
                rw [List.take_succ_eq_append_getElem hkL, List.any_append, hyk]
                simp
              by_cases he : y = x'
              · subst he
                have e1 : ((str y).toList == (str y).toList) = true := beq_self_eq_true _
                have hck : chkT L = 7 := by
                  rw [chkT, HAny.out, if_neg (by simp), if_pos]
                  refine dup_take (k := j + 1) ?_
                  rw [List.take_succ_eq_append_getElem hjL, dup_snoc, hxj, Bool.or_eq_true]
                  right
                  refine List.any_eq_true.2 ⟨y, ?_, beq_self_eq_true _⟩
                  rw [← hyk]
                  exact List.mem_take_iff_getElem.2 ⟨k, by omega, rfl⟩
                have HCk := Lib.hid hck
                generalize str y = S at *
                clear hck htk hyk hxj hx' hy hkL hjL
                go_wp2_with fail
                go_quiet (fail)
                go_wp2_with fail
                go_ret
                exact ckE_of HCk.out rfl (HC.out.2.trans (below_dr _ _))
              · have e1 : ((str x').toList == (str y).toList) = false := by
                  rw [str_toList, str_toList]
                  exact beq_eq_false_iff_ne.2 (Ne.symm he)
                have HNo : Hid ((L.take (k + 1)).any (· == x') = false) := by
                  unfold Hid
                  rw [htk, HC.out.1, Bool.false_or]
                  exact beq_eq_false_iff_ne.2 he
                generalize str x' = S at *
                generalize str y = T at *
                clear htk hyk hxj hx' hy hkL hjL he
                go_wp2_with fail
                go_quiet (fail)
                go_wp2_with fail
                refine ⟨⟨k + 1, by go_num, hlk, HNo.out, HC.out.2.trans (below_dr _ _)⟩, by simp [intOf]; omega⟩
            · obtain rfl : k = j := by omega
              have q3 : ¬ ((k : Int) < k) := by omega
              go_wp2_with fail
              have hkL : k < L.length := by rw [HS.out.1]; omega
              refine ⟨⟨k + 1, by go_num, hlt, ?_, HC.out.2⟩, by simp [intOf]; omega⟩
              have h2 := HX.out
              rw [List.getElem?_eq_getElem hkL] at h2
              rw [List.take_succ_eq_append_getElem hkL, dup_snoc, HB.out.1, Bool.false_or, Option.some.inj h2]
              exact HC.out.1
        · obtain rfl : j = i := by omega
          have q2 : ¬ ((j : Int) < j) := by omega
          have hdup : dupT L = false := by
            have h1 := HB.out.1
            rwa [List.take_of_length_le (by rw [HS.out.1]; exact Nat.le_refl _)] at h1
          by_cases h4 : 4096 < j
          · have d1 : (4096 : Int) < j := by omega
            have HCk : Hid (chkT L = 2) := by unfold Hid; rw [chkT, HAny.out, if_neg (by simp), hdup, if_neg (by simp), if_pos (by rw [HS.out.1]; exact h4)]
            clear hdup
            go_wp2_with fail
            go_ret
            exact ckE_of HCk.out rfl HB.out.2
          · have d1 : ¬ (4096 : Int) < j := by omega
            have HCk : Hid (chkT L = 0) := by unfold Hid; rw [chkT, HAny.out, if_neg (by simp), hdup, if_neg (by simp), if_neg (by rw [HS.out.1]; exact h4)]
            clear hdup
            go_wp2_with fail
            go_ret
            exact ckE_of HCk.out rfl HB.out.2
end Go.Proofs.YtencapplbedcmaaGreatDoor

/- Contract: the document's Order. -/
import Derived.Test.YthmklmilgcjmlaaDoorGrDp
namespace Go.Proofs.YthmklmilgcjmlaaDoor
open Go.RowKit

/-- Marks at those of a list. -/
def cF (n : Nat) (D : List Nat) : List Bool := (List.range n).map fun j => D.contains j
theorem cF_len (n : Nat) (D : List Nat) : (cF n D).length = n := by unfold cF; simp
theorem cF_get {n j : Nat} (D : List Nat) (h : j < n) : (cF n D)[j]? = some (D.contains j) := by
  unfold cF
  rw [List.getElem?_map, List.getElem?_range h]
  rfl
theorem cF_nil (n : Nat) : cF n [] = List.replicate n false := by
  apply List.ext_getElem?
  intro j
  by_cases h : j < n
  · rw [cF_get _ h, List.getElem?_replicate, if_pos h]
    rfl
  · rw [List.getElem?_eq_none (by rw [cF_len]; omega), List.getElem?_eq_none (by simp; omega)]
theorem cF_set (n : Nat) (D : List Nat) (x : Nat) : (cF n D).set x true = cF n (D ++ [x]) := by
  apply List.ext_getElem?
  intro j
  by_cases h : j < n
  · rw [cF_get _ h, List.getElem?_set, cF_len]
    by_cases e : x = j
    · subst e
      rw [if_pos rfl, if_pos h]
      simp
    · rw [if_neg e, cF_get _ h]
      have e2 : ¬ j = x := fun h => e h.symm
      simp [e2]
  · rw [List.getElem?_eq_none (by rw [List.length_set, cF_len]; omega), List.getElem?_eq_none (by rw [cF_len]; omega)]
def okP (D : List Nat) (x : Nat) (p : Nat × Nat) : Bool := !(p.2 == x) || D.contains p.1
def frK (M : Wt) (D : List Nat) (x i : Nat) : Bool := !(D.contains x) && (M.take i).all (okP D x)
theorem frK_zero (M : Wt) (D : List Nat) (x : Nat) : frK M D x 0 = !(D.contains x) := by unfold frK; simp
theorem frK_step {M : Wt} {D : List Nat} {x i : Nat} {p : Nat × Nat} (hp : M[i]? = some p) : frK M D x (i + 1) = (frK M D x i && okP D x p) := by
  obtain ⟨hi, e⟩ := List.getElem?_eq_some_iff.1 hp
  unfold frK
  rw [List.take_succ_eq_append_getElem hi, e, List.all_append]
  simp [Bool.and_assoc]
theorem frK_all (M : Wt) (D : List Nat) (x : Nat) : frK M D x M.length = frT M D x := by
  unfold frK frT
  rw [List.take_length]
  rfl
theorem nxtT_of {M : Wt} {n : Nat} {D : List Nat} {x : Nat} (hx : x < n) (h : frT M D x = true) (hno : ∀ y, y < x → frT M D y = false) : nxtT M n D = some x := by
  unfold nxtT
  rw [List.find?_range_eq_some]
  refine ⟨h, List.mem_range.2 hx, fun y hy => ?_⟩
  rw [hno y hy]
  rfl
def slN : Value → Nat
  | .slice _ n _ => n
  | _ => 0
set_option maxRecDepth 100000 in
set_option maxHeartbeats 4000000 in
theorem refOr_any (n : Nat) (v : Value) (M : Wt) (w : World) (hn : n ≤ 4096) (hM : Okw n M) (hc : ¬ Cyc (eM M)) (hv : RowW w v (cst M)) :
    Calls Tryd.prog 17 #[.int .i64 (n : Nat), v] w fun e w' => ∃ o, e = .returned o ∧ RowN w' o (ordT M n) ∧ Below w.heap.size w w' := by
  obtain ⟨A, c, rfl, hr⟩ := hv.form
  obtain ⟨m, hm⟩ : ∃ m, M.length = m := ⟨_, rfl⟩
  have hm9 : m ≤ 9223372036854775807 := by
    have h1 := hr.parts.2.1
    have h2 := hr.parts.2.2.1
    unfold maxLen at h2
    rw [cst_len, hm] at h1
    omega
  rw [cst_len, hm] at hr ⊢
  obtain ⟨V1, hmb, hK1, hb1⟩ := BolB.make w n hn
  obtain ⟨bt, hbt⟩ : ∃ x, w.heap.size = x := ⟨_, rfl⟩
  rw [hbt] at hmb hK1
  have hok := fun k hk => ordK_ok hM hc k hk
  have hex := fun (k : Nat) (hk : k < n) => nxtT_ex hM hc (ordK_ok hM hc k (by omega)).1 (by rw [(ordK_ok hM hc k (by omega)).2]; exact hk)
  have H1 := Lib.hid (And.intro hb1 (And.intro hK1 (And.intro hr (And.intro hm (And.intro hM (And.intro hbt (And.intro hok hex)))))))
  have q0 : (0 : Int) ≤ n := by omega
  clear hb1 hK1 hr hv hM hm hbt hc hok hex
  go_enter Tryd.func17, Tryd.ntmps17
  go_wp2_with fail
  clear hmb
  go_loopw [6] (fun o wr => ∃ (k : Nat) (D : List Nat), k ≤ n ∧ D = ordK M n k ∧ Below w.heap.size w wr ∧ BolB bt (cF n D) wr ∧ V1.heap.size ≤ wr.heap.size ∧ wr.ownsRow V1.heap.size 3 1 o k (D.map intC)) (fun o _ => n - slN o)
  case atStart => exact ⟨0, [], Nat.zero_le _, rfl, H1.out.1, by rw [cF_nil]; exact H1.out.2.1, Nat.le_refl _, World.ownsRow_nil _ _ _ _⟩
  case round =>
    obtain ⟨k, D, hk, hD, hb, hF, hsz, how⟩ := hrel
    obtain ⟨A5, c5, rfl, h5a, h5b, _⟩ := owns_form how
    have hDl : D.length = k := by rw [hD]; exact (H1.out.2.2.2.2.2.2.1 k hk).2
    have HK := Lib.hid (And.intro hb (And.intro hF (And.intro how (And.intro hD (And.intro hDl hsz)))))
    clear hb hF how hD hDl hsz
    by_cases hkn : k < n
    · have q1 : (k : Int) < n := by omega
      obtain ⟨x0, hx0⟩ := H1.out.2.2.2.2.2.2.2 k hkn
      have HX0 := Lib.hid hx0
      clear hx0
      go_wp2_with fail
      go_loopw [6, 7] (fun o xv wr' => ∃ x : Nat, xv = .int .i64 x ∧ x ≤ n ∧ (∀ y, y < x → frT M D y = false) ∧ o = .slice A5 k c5 ∧ wr' = wr) (fun _ xv _ => n - (intOf xv).toNat)
      case atStart => exact ⟨0, rfl, Nat.zero_le _, fun y hy => by omega, rfl, rfl⟩
      case round =>
        obtain ⟨x, rfl, hx, hno, rfl, rfl⟩ := hrel
        have HN := Lib.hid hno
        clear hno
        by_cases hxn : x < n
        · have r0 : (0 : Int) ≤ x := by omega
          have r1 : (x : Int) < n := by omega
          obtain ⟨bx, hbx⟩ : ∃ b, D.contains x = b := ⟨_, rfl⟩
          have cx := HK.out.2.1.load (cF_get D hxn)
          have fx := HK.out.2.1.frz x
          rw [hbx] at cx
          have HBX := Lib.hid hbx
          clear hbx
          go_wp2_with fail
          go_loopw [8, 9] (fun fv iv wr' => ∃ (i : Nat) (fb : Bool), fv = .bool fb ∧ iv = .int .i64 i ∧ i ≤ m ∧ fb = frK M D x i ∧ wr' = wr) (fun _ iv _ => m - (intOf iv).toNat)
          case atStart => exact ⟨0, _, rfl, rfl, Nat.zero_le _, by rw [frK_zero, HBX.out], rfl⟩
          case round =>
            obtain ⟨i, fb, rfl, rfl, hi, hfb, rfl⟩ := hrel
            have HFB := Lib.hid hfb
            clear hfb
            by_cases him : i < m
            · have s0 : (0 : Int) ≤ i := by omega
              have s1 : (i : Int) < m := by omega
              have hil : i < M.length := by rw [H1.out.2.2.2.1]; exact him
              obtain ⟨p, hp⟩ : ∃ p, M[i]? = some p := ⟨_, List.getElem?_eq_getElem hil⟩
              have hpm : p ∈ M := List.mem_of_getElem? hp
              obtain ⟨ad, X, rfl, hX, k0, k1⟩ := (H1.out.2.2.1.below HK.out.1).parts.2.2.2 i him _ (cst_get hp)
              obtain ⟨hp1, hp2⟩ := H1.out.2.2.2.2.1 p hpm
              dsimp only at k0 k1
              have c1 := HK.out.2.1.load (cF_get D hp1)
              have hst := frK_step (D := D) (x := x) hp
              obtain ⟨b1, hb1⟩ : ∃ b, D.contains p.1 = b := ⟨_, rfl⟩
              rw [hb1] at c1
              have hkp : okP D x p = (!(p.2 == x) || b1) := by unfold okP; rw [hb1]
              have HP := Lib.hid (And.intro hst hkp)
              obtain ⟨a1, ha1⟩ : ∃ y, p.1 = y := ⟨_, rfl⟩
              obtain ⟨a2, ha2⟩ : ∃ y, p.2 = y := ⟨_, rfl⟩
              rw [ha1] at k0 c1 hp1
              rw [ha2] at k1 hp2
              rw [ha2] at HP
              have z0 : (0 : Int) ≤ a1 := by omega
              have z1 : (a1 : Int) < n := by omega
              clear hp hpm hst hkp hil hb1 ha1 ha2
              rcases Nat.decEq a2 x with hax | hax
              case' isFalse =>
                have e1 : ¬ ((a2 : Int) = x) := by omega
                have e2 : ((a2 : Int) == (x : Int)) = false := beq_eq_false_iff_ne.2 e1
                have hno : frK M D x (i + 1) = fb := by rw [HP.out.1, HP.out.2, HFB.out, beq_eq_false_iff_ne.2 hax]; simp
                have HNo := Lib.hid hno
                clear hno hax
                go_wp2_with fail
                exact ⟨⟨i + 1, fb, rfl, by go_num, him, HNo.out.symm, trivial⟩, by simp [intOf]; omega⟩
              case' isTrue =>
                have e2 : ((a2 : Int) == (x : Int)) = true := by rw [hax]; exact beq_self_eq_true _
                cases hbc : b1
                case' true =>
                  have hno : frK M D x (i + 1) = fb := by rw [HP.out.1, HP.out.2, HFB.out, hbc]; simp
                  have HNo := Lib.hid hno
                  subst hbc
                  clear hno hax
                  go_wp2_with fail
                  exact ⟨⟨i + 1, fb, rfl, by go_num, him, HNo.out.symm, trivial⟩, by simp [intOf]; omega⟩
                case' false =>
                  have hno : frK M D x (i + 1) = false := by rw [HP.out.1, HP.out.2, hbc, hax]; simp
                  have HNo := Lib.hid hno
                  subst hbc
                  clear hno hax
                  go_wp2_with fail
                  exact ⟨⟨i + 1, false, rfl, by go_num, him, HNo.out.symm, trivial⟩, by simp [intOf]; omega⟩
            · obtain rfl : m = i := by omega
              have hfr : frT M D x = fb := by rw [HFB.out, ← frK_all, H1.out.2.2.2.1]
              cases fb with
              | false =>
                have HFr := Lib.hid hfr
                clear hfr
                go_wp2_with fail
                refine ⟨⟨x + 1, by go_num, hxn, fun y hy => ?_, rfl, trivial⟩, by simp [intOf]; omega⟩
                by_cases e : y = x
                · rw [e]; exact HFr.out
                · exact HN.out y (by omega)
              | true =>
                have hnx : ordK M n (k + 1) = D ++ [x] := by
                  have h := nxtT_of hxn hfr HN.out
                  rw [HK.out.2.2.2.1] at h ⊢
                  exact ordK_succ h
                obtain ⟨V2, hV2⟩ : ∃ y, wr.setCell ⟨bt, x, none⟩ (.bool true) = y := ⟨_, rfl⟩
                have hF2 : BolB bt (cF n (D ++ [x])) V2 := by rw [← hV2, ← cF_set]; exact HK.out.2.1.set x true
                have hb2 : Below w.heap.size w V2 := by rw [← hV2]; exact HK.out.1.setCell (by show _ ≤ bt; rw [H1.out.2.2.2.2.2.1]; exact Nat.le_refl _) _
                have hbl : bt < V1.heap.size := H1.out.2.1.lt
                have ho2 : V2.ownsRow V1.heap.size 3 1 (.slice A5 k c5) k (D.map intC) := by
                  rw [← hV2]
                  exact own_block9 HK.out.2.2.1 fun g hg => Below.heap_setCell wr _ _ g (fun e => by have h1 := (HK.out.2.2.1.lt g hg).1; rw [e] at h1; exact absurd hbl (Nat.not_lt.2 h1))
                have hs2 : V1.heap.size ≤ V2.heap.size := by rw [← hV2]; have := HK.out.2.2.2.2.2; simpa [World.setCell] using this
                have H2 := Lib.hid (And.intro hF2 (And.intro hb2 (And.intro ho2 (And.intro hnx (And.intro hbl hs2)))))
                have HO := Lib.hid ho2
                clear hF2 hb2 ho2 hnx hfr hbl hs2
                go_wp2_with
                  (at_builtin
                   refine wpList_app rfl (.tmp 54) (.tmp 56) 30 rfl elN V1.heap.size (.slice A5 k c5) k (D.map intC) rfl (HO.out.alloc _) (some ⟨V2.heap.size, 0, none⟩) 1 1 [.int .i64 x] rfl rfl (Rd.block (MapKept.heap_alloc V2 (.cells #[.int .i64 (x : Nat)] 3)).1) (fun u hu => by rw [List.mem_singleton.1 hu]; rfl) (by unfold maxLen; omega) (by omega) (by rw [World.size_alloc]; have := H2.out.2.2.2.2.2; omega) ?_
                   intro v' w'' ho hg hob
                   have HN2 := Lib.hid (And.intro ho (And.intro hg hob))
                   clear ho hg hob)
                go_wp2_with fail
                obtain ⟨A6, c6, rfl, _, _, _⟩ := owns_form HN2.out.1
                refine ⟨⟨k + 1, D ++ [x], hkn, H2.out.2.2.2.1.symm, (H2.out.2.1.alloc H2.out.2.1.size _).grown HN2.out.2.1 (by rw [World.size_alloc]; have := H2.out.2.1.size; omega) (fun j hj => Nat.le_trans H1.out.1.size (H2.out.2.2.1.lt j hj).1), ?_, ?_, ?_⟩, by simp [slN]; omega⟩
                · have hF3 := H2.out.1.below ((Below.refl V2.heap.size V2).alloc (Nat.le_refl _) (.cells #[.int .i64 (x : Nat)] 3))
                  exact (HN2.out.2.1.block bt hF3.lt fun e => by have := (H2.out.2.2.1.lt bt e.symm).1; have := H2.out.2.2.2.2.1; omega).trans hF3
                · have h1 := HN2.out.2.1.size
                  rw [World.size_alloc] at h1
                  have := H2.out.2.2.2.2.2
                  omega
                · rw [List.map_append, List.map_singleton]
                  exact HN2.out.1
        · exfalso
          obtain rfl : n = x := by omega
          have h1 := List.find?_some HX0.out
          have h2 := List.mem_range.1 (List.mem_of_find?_eq_some HX0.out)
          rw [← HK.out.2.2.2.1] at h1
          rw [HN.out x0 h2] at h1
          cases h1
    · have q1 : ¬ (k : Int) < n := by omega
      obtain rfl : n = k := by omega
      go_wp2_with fail
      go_ret
      refine ⟨_, rfl, ?_, HK.out.1⟩
      have h := RowN.owned HK.out.2.2.2.2.1 HK.out.2.2.1
      rw [HK.out.2.2.2.1] at h
      exact h
end Go.Proofs.YthmklmilgcjmlaaDoor

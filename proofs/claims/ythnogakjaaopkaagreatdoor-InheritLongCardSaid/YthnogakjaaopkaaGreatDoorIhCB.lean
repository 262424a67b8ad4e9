/- IhCp, IhBw, in one text. -/
import Derived.Test.YthnogakjaaopkaaGreatDoorIhM
import Derived.Test.YthnogakjaaopkaaGreatDoorIhLq
import Derived.Test.YthnogakjaaopkaaGreatDoorVaPt
/- Contracts: maps.Copy of tables; given. -/
namespace Go.Proofs.YthnogakjaaopkaaGreatDoor
open Go.RowKit

set_option maxRecDepth 100000 in
set_option maxHeartbeats 2000000 in
theorem copy_any (d s : Nat) (fD fS : Tx → Option MF) (NL : List Tx) (w : World) (hD : TabP w d fD) (hS : TabP w s fS) (hne : d ≠ s) (hNl : NL.length ≤ 1000000) (hND : ∀ k f, fD k = some f → k ∈ NL) (hNS : ∀ k f, fS k = some f → k ∈ NL) (hk : ∀ k ∈ NL, k.length ≤ 1000000) :
    Calls Tryz.prog 70 #[.map (some d), .map (some s)] w fun e w' => e = .returned (.tuple #[]) ∧ TabP w' d (fun k => (fS k).or (fD k)) ∧ w.grownBy w' (some d) := by
  obtain ⟨w1, cnt, hrg, hR, hg1, hs1⟩ := hS.range
  have hdl := hD.lt
  have hsl := hS.lt
  have hD1 : TabP w1 d fD := hD.block (hg1.block d hdl (by simp))
  have HR := Lib.hid (And.intro hR (And.intro hg1 hD1))
  clear hR hg1 hS hD hD1
  go_enter Tryz.func70, Tryz.ntmps70
  go_wp2_with fail
  go_loopw [5] (fun _ wr => ∃ (left : Tx → Bool) (cnt : Nat), TabR wr s w.heap.size fS left cnt ∧ w.grownBy wr (some d) ∧ (∀ k, left k = true → (fS k).isSome = true) ∧ TabP wr d (fun k => if left k = true then fD k else (fS k).or (fD k))) (fun _ wr => wr.rangeLeft s w.heap.size)
  case atStart =>
    refine ⟨_, _, HR.out.1, HR.out.2.1.but _, fun k h => h, ?_⟩
    obtain ⟨T, h1, h2⟩ := HR.out.2.2
    refine ⟨T, h1, fun k => ?_⟩
    rw [h2]
    dsimp only
    cases hS9 : fS k <;> simp
  case round =>
    obtain ⟨left, cnt, hR, hgr, hls, hT⟩ := hrel
    have hle := hR.left_eq
    rcases hR.next 0 with ⟨_, hl, hnx⟩ | ⟨k, f, w3, cnt', hl, hf, hnx, hR3, hlt, hg3, hs3, hen⟩
    · have hfin : TabP wr d (fun k => (fS k).or (fD k)) := by
        obtain ⟨T, h1, h2⟩ := hT
        refine ⟨T, h1, fun k => ?_⟩
        rw [h2]
        dsimp only
        rw [hl k]
        rfl
      have HN := Lib.hid (And.intro hfin hgr)
      clear hR hgr hls hT hle hl hfin
      go_wp2_with fail
      go_end0
      exact ⟨rfl, HN.out.1, HN.out.2⟩
    · have hwl : w.heap.size ≤ wr.heap.size := hgr.size
      have hgr3 : w.grownBy w3 (some d) := hgr.andThen hg3 (fun j hj => by injection hj with hj; left; omega)
      have hT3 : TabP w3 d (fun k => if left k = true then fD k else (fS k).or (fD k)) := hT.block (hg3.block d hT.lt (fun e => by injection e with e; omega))
      obtain ⟨V, hV⟩ : ∃ V, str f.2.2 = V := ⟨_, rfl⟩
      obtain ⟨N1, hN1⟩ : ∃ V, str f.2.1 = V := ⟨_, rfl⟩
      have hkk : k.length ≤ 1000000 := hk k (hNS k f hf)
      have hbb : Below w3.heap.size w3 (w3.alloc (.cells #[.int .i64 f.1, .string N1, .string V] 45)) := (Below.refl _ _).alloc (Nat.le_refl _) _
      obtain ⟨w4, hup, hT4, hg4⟩ := (hT3.below hbb).put hkk f (NL := NL) (fun k' f' h => by
        split at h
        · exact hND k' f' h
        · cases hS9 : fS k' with
          | none =>
            rw [hS9] at h
            exact hND k' f' h
          | some f9 => exact hNS k' f9 hS9) hNl
      have hup' : (Instr.mapUpdate 61 (.map (some d)) (.string (str k)) (.agg #[.int .i64 f.1, .string N1, .string V])).run Tryz.prog (w3.alloc (.cells #[.int .i64 f.1, .string N1, .string V] 45)) = .ok () w4 := by
        rw [← hV, ← hN1]
        rw [← hV, ← hN1] at hup
        exact hup
      obtain ⟨K1, hK1⟩ : ∃ V, str k = V := ⟨_, rfl⟩
      unfold fV at hnx hen
      rw [hV, hN1, hK1] at hnx hen
      rw [hK1] at hup'
      have hR4 : TabR w4 s w.heap.size fS (fun x => left x && !(x == k)) cnt' := (hR3.kept (World.grownBy_alloc _ _ none) (by simp) (by simp)).kept hg4 (fun e => by injection e with e; exact hne e.symm) (fun e => by injection e with e; omega)
      have hgr4 : w.grownBy w4 (some d) := (hgr3.andThen (World.grownBy_alloc _ _ none) (fun j hj => by cases hj)).andThen hg4 (fun j hj => .inr (by rw [hj]))
      have hT5 : TabP w4 d (fun x => if (left x && !(x == k)) = true then fD x else (fS x).or (fD x)) := by
        obtain ⟨T, h1, h2⟩ := hT4
        refine ⟨T, h1, fun x => ?_⟩
        rw [h2]
        dsimp only
        by_cases e : x = k
        · subst e
          rw [if_pos rfl]
          simp [hf]
        · rw [if_neg e]
          simp [e]
      have hls4 : ∀ x, (left x && !(x == k)) = true → (fS x).isSome = true := fun x h => hls x (by simp only [Bool.and_eq_true] at h; exact h.1)
      have HN := Lib.hid (And.intro hR4 (And.intro hgr4 (And.intro hls4 (And.intro hT5 (And.intro hlt hle)))))
      clear hV hN1 hK1 hR hgr hls hT hle hl hR3 hlt hg3 hgr3 hT3 hup hT4 hg4 hR4 hgr4 hT5 hls4 hkk hf hbb
      go_wp2_with fail
      refine ⟨⟨_, cnt', HN.out.1, HN.out.2.1, HN.out.2.2.1, HN.out.2.2.2.1⟩, ?_⟩
      rw [HN.out.1.left_eq, HN.out.2.2.2.2.2]
      exact HN.out.2.2.2.2.1
/-- The tables of those that are known. -/
def TbS (w : World) (tt : Nat) (l : List MB) (Zt : List Value) (D : Nat → Prop) : Prop := w.heap[tt]? = some (.cells Zt.toArray 61 (0, 0)) ∧ Zt.length = l.length ∧ ∀ j, D j → ∃ bj, Zt[j]? = some (.map (some bj)) ∧ TabP w bj (fun k => gotP l k j)
theorem TbS.below {w w' : World} {tt : Nat} {l : List MB} {Zt : List Value} {D : Nat → Prop} (h : TbS w tt l Zt D) (hb : Below w.heap.size w w') : TbS w' tt l Zt D :=
  ⟨(hb.block _ (blk9_lt h.1)).trans h.1, h.2.1, fun j hj => by
    obtain ⟨bj, e1, e2⟩ := h.2.2 j hj
    exact ⟨bj, e1, e2.below hb⟩⟩
theorem TmZ.below {w w' : World} {bt : Nat} {Z : List Value} {l : List MB} (h : TmZ w bt Z l) (hb : Below w.heap.size w w') : TmZ w' bt Z l :=
  ⟨h.1.below hb, h.2.1, fun i b hi => by
    obtain ⟨v, e1, e2⟩ := h.2.2 i b hi
    exact ⟨v, e1, e2.below hb⟩⟩
theorem fst_none {α : Type} : ∀ {L : List (Option α)}, (∀ x ∈ L, x = none) → fstS L = none
  | [], _ => rfl
  | none :: L, h => fst_none (L := L) fun x hx => h x (List.mem_cons_of_mem _ hx)
  | some a :: L, h => by cases h (some a) List.mem_cons_self
theorem fst_at {α : Type} : ∀ {L : List (Option α)} {k : Nat} {a : α}, L[k]? = some (some a) → (∀ x ∈ L.take k, x = none) → fstS L = some a
  | none :: L, k + 1, a, h, hno => fst_at (L := L) (k := k) (by simpa using h) fun x hx => hno x (by rw [List.take_succ_cons]; exact List.mem_cons_of_mem _ hx)
  | some b :: L, 0, a, h, _ => by
    have : b = a := by simpa using h
    subst this
    rfl
  | some b :: L, k + 1, a, _, hno => by cases hno (some b) (by rw [List.take_succ_cons]; exact List.mem_cons_self)
  | none :: L, 0, a, h, _ => by simp at h
  | [], k, a, h, _ => by simp at h
set_option maxRecDepth 100000 in
set_option maxHeartbeats 4000000 in
theorem given_any (ps bt tt n i : Nat) (x0 x1 x3 : Value) (Z Zt : List Value) (l : List MB) (D : Nat → Prop) (nm : Tx) (w : World) (hn : l.length = n) (_ : n ≤ 1000000) (hi : i < n) (hS : w.heap[ps]? = some (.cells #[x0, x1, .slice (some ⟨bt, 0, none⟩) n n, x3, .slice (some ⟨tt, 0, none⟩) n n] 67 (0, 0)))
    (hZ : TmZ w bt Z l) (hT : TbS w tt l Zt D) (hD : ∀ j ∈ edg l i, D j) (hnm : nm.length ≤ 1000000) :
    Calls Tryz.prog 74 #[.pointer (some ⟨ps, 0, none⟩), .int .i64 (i : Nat), .string (str nm)] w fun e w' => e = .returned (.string (str (valF (fstS ((edg l i).map (gotP l nm)))))) ∧ Below w.heap.size w w' := by
  have hil : i < l.length := by omega
  obtain ⟨v, hv, hrow⟩ := hZ.2.2 i _ (List.getElem?_eq_getElem hil)
  rw [← edg_at (List.getElem?_eq_getElem hil)] at hrow
  obtain ⟨AE, cE, hve, _, _, hrE⟩ := hrow
  have s2 := cell9_blk hS 2 rfl
  have l2 := hZ.1.load hv
  rw [hve] at l2
  obtain ⟨js, hjs⟩ : ∃ js, edg l i = js := ⟨_, rfl⟩
  rw [hjs] at l2 hrE hD ⊢
  have hlt : ∀ j ∈ js, j < n := fun j hj => by rw [← hn]; exact edg_lt (by rw [hjs]; exact hj)
  obtain ⟨q, hq⟩ : ∃ q, js.length = q := ⟨_, rfl⟩
  have hq9 : q ≤ 1000000 := by rw [← hq, ← hjs]; exact edg_len l i
  rw [hq] at l2
  obtain ⟨R, hR⟩ : ∃ R, fstS (js.map (gotP l nm)) = R := ⟨_, rfl⟩
  rw [hR]
  have HRr := Lib.hid hR
  have HS := Lib.hid (And.intro hS (And.intro hT (And.intro hrE (And.intro hlt (And.intro hD hq)))))
  obtain ⟨NM, hNM⟩ : ∃ x, str nm = x := ⟨_, rfl⟩
  have HNM := Lib.hid hNM
  rw [hNM]
  have r0 : (0 : Int) ≤ i := by omega
  have r1 : (i : Int) < n := by omega
  clear hS hZ hT hrE hlt hD hq hR hNM hve hv
  go_enter Tryz.func74, Tryz.ntmps74
  go_wp2_with fail
  go_loopw [19] (fun kv wr => ∃ k : Nat, k ≤ q ∧ kv = .int .i64 k ∧ Below w.heap.size w wr ∧ ∀ x ∈ (js.map (gotP l nm)).take k, x = none) (fun kv _ => q - (intOf kv).toNat)
  case atStart => exact ⟨0, Nat.zero_le _, rfl, Below.refl _ _, fun x hx => by simp at hx⟩
  case round =>
    obtain ⟨k, hk, rfl, hbl, hno⟩ := hrel
    by_cases hlk : k < q
    · have hkj : k < js.length := by rw [HS.out.2.2.2.2.2]; exact hlk
      obtain ⟨t, ht⟩ : ∃ t, js[k] = t := ⟨_, rfl⟩
      have htm : t ∈ js := by rw [← ht]; exact List.getElem_mem hkj
      have htn := HS.out.2.2.2.1 t htm
      obtain ⟨ae, hAe, ce⟩ := (HS.out.2.2.1.below hbl).at_ (k := k) (by rw [List.length_map]; exact hkj)
      subst hAe
      rw [List.getElem_map, ht] at ce
      unfold intC at ce
      have hTr := HS.out.2.1.below hbl
      obtain ⟨bj, hbj, hTj⟩ := hTr.2.2 t (HS.out.2.2.2.2.1 t htm)
      have c4 := cell9_blk ((hbl.block ps (blk9_lt HS.out.1)).trans HS.out.1) 4 rfl
      have lt := cell9_blk hTr.1 t (by rw [List.getElem?_toArray]; exact hbj)
      have hlk9 := hTj.look hnm
      rw [HNM.out] at hlk9
      have htk : (js.map (gotP l nm)).take (k + 1) = (js.map (gotP l nm)).take k ++ [gotP l nm t] := by
        rw [List.take_succ_eq_append_getElem (by rw [List.length_map]; exact hkj), List.getElem_map, ht]
      have hgk : (js.map (gotP l nm))[k]? = some (gotP l nm t) := by rw [List.getElem?_map, List.getElem?_eq_getElem hkj, ht]; rfl
      have HN := Lib.hid (And.intro hbl (And.intro hno (And.intro htk hgk)))
      have q0 : (0 : Int) ≤ k := by omega
      have q1 : (k : Int) < q := by omega
      have q2 : (0 : Int) ≤ t := by omega
      have q3 : (t : Int) < n := by omega
      unfold fV at hlk9
      clear hbl hno htk hgk hTr hTj hbj htm ht hkj
      cases hg : gotP l nm t with
      | none =>
        rw [hg] at hlk9 HN
        dsimp only [Option.getD_none, Option.isSome_none, zF0] at hlk9
        clear hg
        go_wp2_with fail
        have hb5 : Below w.heap.size w (wr.alloc (.cells #[.int .i64 0, .string (str []), .string (str [])] 45)) := HN.out.1.alloc HN.out.1.size _
        refine ⟨⟨k + 1, hlk, by go_num, hb5, fun x hx => ?_⟩, by simp [intOf]; omega⟩
        rw [HN.out.2.2.1] at hx
        rcases List.mem_append.1 hx with h | h
        · exact HN.out.2.1 x h
        · exact List.mem_singleton.1 h
      | some f =>
        rw [hg] at hlk9 HN
        dsimp only [Option.getD_some, Option.isSome_some] at hlk9
        have hRf : R = some f := by rw [← HRr.out]; exact fst_at HN.out.2.2.2 HN.out.2.1
        obtain ⟨FV, hFV⟩ : ∃ x, str f.2.2 = x := ⟨_, rfl⟩
        obtain ⟨FN, hFN⟩ : ∃ x, str f.2.1 = x := ⟨_, rfl⟩
        rw [hFV, hFN] at hlk9
        have HF := Lib.hid (And.intro hRf hFV)
        clear hg hRf hFV hFN
        go_wp2_with fail
        go_ret
        refine ⟨?_, HN.out.1.alloc HN.out.1.size _⟩
        rw [HF.out.1, ← HF.out.2]
        rfl
    · obtain rfl : k = q := by omega
      have hRn : R = none := by
        rw [← HRr.out]
        refine fst_none fun x hx => hno x ?_
        rw [List.take_of_length_le (by rw [List.length_map, HS.out.2.2.2.2.2]; exact Nat.le_refl _)]
        exact hx
      have HN := Lib.hid (And.intro hbl hRn)
      have hlk' : ¬ ((k : Int) < k) := by omega
      clear hbl hno hRn
      go_wp2_with fail
      go_ret
      exact ⟨by rw [HN.out.2]; rfl, HN.out.1⟩
end Go.Proofs.YthnogakjaaopkaaGreatDoor
/- slices.Backward: what it deals. -/
namespace Go.Proofs.YthnogakjaaopkaaGreatDoor
open Go.RowKit
attribute [local go_sem] Oper.semAt_some

def iC (k : Nat) : Value := .int .i64 (k : Int)
theorem rev_take {n m : Nat} (hm : m < n) : (List.range n).reverse = (List.range n).reverse.take (n - 1 - m) ++ m :: (List.range m).reverse := by
  have e : (List.range n).reverse.drop (n - 1 - m) = m :: (List.range m).reverse := by
    apply List.ext_getElem
    · simp; omega
    · intro j h1 h2
      simp only [List.getElem_drop, List.getElem_reverse, List.getElem_range, List.length_range]
      cases j with
      | zero => simp; omega
      | succ j =>
        simp only [List.getElem_cons_succ, List.getElem_reverse, List.getElem_range, List.length_range]
        simp only [List.length_drop, List.length_reverse, List.length_range] at h1
        omega
  rw [← e, List.take_append_drop]
theorem rev_take_succ {n m : Nat} (hm : m < n) : (List.range n).reverse.take (n - 1 - m) ++ [m] = (List.range n).reverse.take (n - m) := by
  have hl : n - 1 - m < (List.range n).reverse.length := by simp; omega
  have h := List.take_succ_eq_append_getElem hl
  rw [show n - m = n - 1 - m + 1 by omega, h]
  congr 2
  simp
  omega
set_option maxRecDepth 100000 in
set_option maxHeartbeats 2000000 in
theorem backN_deals (A : Option Addr) (c : Nat) (js : List Nat) (n B : Nat) (S0 : Nat → Prop) (hs : S0 B) (W : World) (hS0 : ∀ k, S0 k → k < W.heap.size) (hn : js.length = n) (hl : n ≤ 1000000) (hB : Bx W B 64 (.slice A n c)) :
    Deals2 Tryz.prog 89 #[.pointer (some ⟨B, 0, none⟩)] iC (fun k => iC (js.getD k 0)) (List.range n).reverse S0 (fun V => Rd V A (js.map intC)) W := by
  intro L J Jx hJ hJx hF hY h0
  refine callsIn_of_wp Tryz.func89 rfl trivial ?_ rfl
  simp only [Tryz.ntmps89, List.size_toArray, List.length_cons, List.length_nil, Nat.reduceAdd, Nat.reduceSub, Array.replicate_succ, Array.replicate_zero, List.push_toArray, List.append_toArray, List.nil_append, List.cons_append]
  have HB := Lib.hid (And.intro hB (And.intro h0 hS0))
  have HY := Lib.hid hY
  have HF := Lib.hid hF
  have kB := hB.cell
  clear hB h0 hY hS0 hF
  gi_wp2
  gi_loopw [3] (fun iv wr => ∃ (m : Nat) (S : Nat → Prop), iv = .int .i64 ((m : Int) - 1) ∧ m ≤ n ∧ S B ∧ (∀ k, S k → k < wr.heap.size) ∧ Bx wr B 64 (.slice A n c) ∧ J S ((List.range n).reverse.take (n - m)) wr) (fun iv _ => (intOf iv + 1).toNat)
  case atStart => exact ⟨n, S0, rfl, Nat.le_refl _, hs, HB.out.2.2, HB.out.1, by rw [Nat.sub_self]; exact HB.out.2.1⟩
  case round =>
    obtain ⟨m, S, rfl, hm, i1, hlt, x1, hj⟩ := hrel
    have HX := Lib.hid (And.intro i1 (And.intro hlt (And.intro x1 hj)))
    rcases Nat.eq_zero_or_pos m with rfl | hpos
    · have e1 : ((0 : Nat) : Int) - 1 = -1 := rfl
      rw [e1]
      have htk : (List.range n).reverse.take (n - 0) = (List.range n).reverse := List.take_of_length_le (by simp)
      rw [htk] at HX
      clear i1 hlt x1 hj
      gi_wp2_with fail
      go_end0
      exact ⟨⟨_, rfl⟩, S, .inl HX.out.2.2.2⟩
    · obtain ⟨k, rfl⟩ : ∃ k, m = k + 1 := ⟨m - 1, by omega⟩
      have e1 : ((k + 1 : Nat) : Int) - 1 = k := by omega
      rw [e1]
      have hkn : k < n := by omega
      have hkj : k < js.length := by omega
      obtain ⟨fn, tmps, assign, body, hy, hR⟩ := HY.out S _ k _ wr (rev_take hkn) (by rw [show n - 1 - k = n - (k + 1) by omega]; exact hj)
      rw [rev_take_succ hkn] at hR
      have HR := Lib.hid hR
      obtain ⟨ad, hA, hc⟩ := (HF.out _ _ _ hj).at_ (k := k) (by rw [List.length_map]; exact hkj)
      subst hA
      rw [List.getElem_map] at hc
      have hgd : js.getD k 0 = js[k] := by rw [List.getD_eq_getElem?_getD, List.getElem?_eq_getElem hkj]; rfl
      rw [hgd] at hy
      obtain ⟨t, ht⟩ : ∃ t, js[k] = t := ⟨_, rfl⟩
      rw [ht] at hc hy
      unfold intC at hc
      unfold iC at hy
      have k2 := x1.cell
      have q0 : (0 : Int) ≤ k := by omega
      have q1 : (k : Int) < n := by omega
      clear i1 hlt x1 hj hR hgd ht
      gi_wp2_with fail
      refine ⟨rfl, HR.out.mono ?_⟩
      rintro e w' ⟨hsp, ⟨rfl, hj⟩ | ⟨rfl, hj⟩⟩
      · have HJ := Lib.hid (And.intro hj hsp)
        clear hj hsp
        gi_wp2_with fail
        refine ⟨⟨k, S, by go_num, by omega, HX.out.1, fun i hi => Nat.lt_of_lt_of_le (HX.out.2.1 i hi) HJ.out.2.size, HX.out.2.2.1.spared HJ.out.2 HX.out.1, HJ.out.1⟩, by simp [intOf]⟩
      · have HJ := Lib.hid hj
        clear hj hsp
        gi_wp2_with fail
        refine bodyPost_ret (results_none rfl _ _ _) rfl ?_
        exact ⟨⟨_, rfl⟩, S, .inr ⟨_, HJ.out⟩⟩
set_option maxRecDepth 100000 in
set_option maxHeartbeats 2000000 in
theorem backF_deals (A : Option Addr) (c : Nat) (L0 : List MF) (n B : Nat) (S0 : Nat → Prop) (hs : S0 B) (W : World) (hS0 : ∀ k, S0 k → k < W.heap.size) (hn : L0.length = n) (hl : n ≤ 1000000) (hB : Bx W B 46 (.slice A n c)) :
    Deals2 Tryz.prog 90 #[.pointer (some ⟨B, 0, none⟩)] iC (fun k => fV (L0.getD k zF0)) (List.range n).reverse S0 (fun V => Rd V A (L0.flatMap fdC)) W := by
  intro L J Jx hJ hJx hF hY h0
  refine callsIn_of_wp Tryz.func90 rfl trivial ?_ rfl
  simp only [Tryz.ntmps90, List.size_toArray, List.length_cons, List.length_nil, Nat.reduceAdd, Nat.reduceSub, Array.replicate_succ, Array.replicate_zero, List.push_toArray, List.append_toArray, List.nil_append, List.cons_append]
  have HB := Lib.hid (And.intro hB (And.intro h0 hS0))
  have HY := Lib.hid hY
  have HF := Lib.hid hF
  have kB := hB.cell
  clear hB h0 hY hS0 hF
  gi_wp2
  gi_loopw [3] (fun iv wr => ∃ (m : Nat) (S : Nat → Prop), iv = .int .i64 ((m : Int) - 1) ∧ m ≤ n ∧ S B ∧ (∀ k, S k → k < wr.heap.size) ∧ Bx wr B 46 (.slice A n c) ∧ J S ((List.range n).reverse.take (n - m)) wr) (fun iv _ => (intOf iv + 1).toNat)
  case atStart => exact ⟨n, S0, rfl, Nat.le_refl _, hs, HB.out.2.2, HB.out.1, by rw [Nat.sub_self]; exact HB.out.2.1⟩
  case round =>
    obtain ⟨m, S, rfl, hm, i1, hlt, x1, hj⟩ := hrel
    have HX := Lib.hid (And.intro i1 (And.intro hlt (And.intro x1 hj)))
    rcases Nat.eq_zero_or_pos m with rfl | hpos
    · have e1 : ((0 : Nat) : Int) - 1 = -1 := rfl
      rw [e1]
      have htk : (List.range n).reverse.take (n - 0) = (List.range n).reverse := List.take_of_length_le (by simp)
      rw [htk] at HX
      clear i1 hlt x1 hj
      gi_wp2_with fail
      go_end0
      exact ⟨⟨_, rfl⟩, S, .inl HX.out.2.2.2⟩
    · obtain ⟨k, rfl⟩ : ∃ k, m = k + 1 := ⟨m - 1, by omega⟩
      have e1 : ((k + 1 : Nat) : Int) - 1 = k := by omega
      rw [e1]
      have hkn : k < n := by omega
      have hkj : k < L0.length := by omega
      obtain ⟨fn, tmps, assign, body, hy, hR⟩ := HY.out S _ k _ wr (rev_take hkn) (by rw [show n - 1 - k = n - (k + 1) by omega]; exact hj)
      rw [rev_take_succ hkn] at hR
      have HR := Lib.hid hR
      have hgd : L0.getD k zF0 = L0[k] := by rw [List.getD_eq_getElem?_getD, List.getElem?_eq_getElem hkj]; rfl
      rw [hgd] at hy
      obtain ⟨t, ht⟩ : ∃ t, L0[k] = t := ⟨_, rfl⟩
      obtain ⟨ad, X, hA, hX, c0, c1, c2⟩ := rd_three (cells := fdC) (fun _ => rfl) (HF.out _ _ _ hj) k hkj rfl
      rw [ht] at c0 c1 c2 hy
      subst hA
      unfold iC fV at hy
      obtain ⟨S1, hS1⟩ : ∃ x, str t.2.1 = x := ⟨_, rfl⟩
      obtain ⟨S2, hS2⟩ : ∃ x, str t.2.2 = x := ⟨_, rfl⟩
      rw [hS1] at c1 hy
      rw [hS2] at c2 hy
      have k2 := x1.cell
      have q0 : (0 : Int) ≤ k := by omega
      have q1 : (k : Int) < n := by omega
      clear i1 hlt x1 hj hR hgd ht hS1 hS2
      gi_wp2_with fail
      refine ⟨rfl, HR.out.mono ?_⟩
      rintro e w' ⟨hsp, ⟨rfl, hj⟩ | ⟨rfl, hj⟩⟩
      · have HJ := Lib.hid (And.intro hj hsp)
        clear hj hsp
        gi_wp2_with fail
        refine ⟨⟨k, S, by go_num, by omega, HX.out.1, fun i hi => Nat.lt_of_lt_of_le (HX.out.2.1 i hi) HJ.out.2.size, HX.out.2.2.1.spared HJ.out.2 HX.out.1, HJ.out.1⟩, by simp [intOf]⟩
      · have HJ := Lib.hid hj
        clear hj hsp
        gi_wp2_with fail
        refine bodyPost_ret (results_none rfl _ _ _) rfl ?_
        exact ⟨⟨_, rfl⟩, S, .inr ⟨_, HJ.out⟩⟩
end Go.Proofs.YthnogakjaaopkaaGreatDoor

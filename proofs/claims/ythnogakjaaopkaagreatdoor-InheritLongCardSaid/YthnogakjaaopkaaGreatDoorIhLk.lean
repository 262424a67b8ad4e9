/- IhFd, IhTt, IhNa, IhLn, in one text. -/
import Derived.Test.YthnogakjaaopkaaGreatDoorBrU
import Derived.Test.YthnogakjaaopkaaGreatDoorIhM
import Derived.Test.YthnogakjaaopkaaGreatDoorVaLb
import Derived.Test.YthnogakjaaopkaaGreatDoorErr
import Derived.Test.YthnogakjaaopkaaGreatDoorWkMc
import Derived.Test.YthnogakjaaopkaaGreatDoorMapM
import Derived.DeepKeys4
import Derived.MapViews
import Derived.Test.YthnogakjaaopkaaGreatDoorVaIt
/- Contracts: find, isRegistered, right, wrong, join. -/
namespace Go.Proofs.YthnogakjaaopkaaGreatDoor
open Go.RowKit

set_option maxRecDepth 100000 in
set_option maxHeartbeats 1000000 in
theorem indexF (A : Option Addr) (n c : Nat) (g : FuncId) (caps : Array Value) (w : World) (eg : Ent1 g) (N : Nat → MF) (I J : Nat → World → Prop)
    (hI : ∀ k W, k < n → I k W → ∃ ad X, A = some ad ∧ ad.add (k * 3) = X ∧ W.cell? X = some (.int .i64 (N k).1) ∧ W.cell? { block := X.block, off := X.off + 1 } = some (.string (str (N k).2.1)) ∧ W.cell? { block := X.block, off := X.off + 2 } = some (.string (str (N k).2.2)))
    (hp : ∀ k W, k < n → I k W → Calls Tryz.prog g (#[.agg #[.int .i64 (N k).1, .string (str (N k).2.1), .string (str (N k).2.2)]] ++ caps) W fun e W' => (e = .returned (.bool true) ∧ J k W') ∨ (e = .returned (.bool false) ∧ I (k + 1) W'))
    (h0 : I 0 w) (hl : n ≤ 1000000) :
    Calls Tryz.prog 54 #[.slice A n c, .func (.func g) #[] caps] w fun e w' => (∃ k : Nat, k < n ∧ e = .returned (.int .i64 k) ∧ J k w') ∨ (e = .returned (.int .i64 (-1)) ∧ I n w') := by
  have HI := Lib.hid hI
  have HP := Lib.hid hp
  have H0 := Lib.hid h0
  clear hI hp h0
  unfold Ent1 at eg
  go_enter Tryz.func54, Tryz.ntmps54
  go_wp2_with fail
  go_loopw [8] (fun i wr => ∃ k : Nat, k ≤ n ∧ i = .int .i64 k ∧ I k wr) (fun i _ => n - (intOf i).toNat)
  case atStart => exact ⟨0, Nat.zero_le _, rfl, H0.out⟩
  case round =>
    obtain ⟨k, hk, rfl, hik⟩ := hrel
    have HK := Lib.hid hik
    clear hik
    by_cases hlk : k < n
    · obtain ⟨ad, X, rfl, hX, c0, c1, c2⟩ := HI.out k _ hlk HK.out
      have HPk := Lib.hid (HP.out k _ hlk HK.out)
      obtain ⟨a, ha⟩ : ∃ x, (N k).1 = x := ⟨_, rfl⟩
      obtain ⟨S1, h1⟩ : ∃ x, str (N k).2.1 = x := ⟨_, rfl⟩
      obtain ⟨S2, h2⟩ : ∃ x, str (N k).2.2 = x := ⟨_, rfl⟩
      rw [ha] at c0
      rw [h1] at c1
      rw [h2] at c2
      rw [ha, h1, h2] at HPk
      clear ha h1 h2
      go_wp2_with fail
      refine HPk.out.mono ?_
      rintro e w' (⟨rfl, hj⟩ | ⟨rfl, hi⟩)
      · have HJ := Lib.hid hj
        clear hj c0 c1 c2
        go_wp2_with fail
        go_ret
        exact .inl ⟨k, hlk, rfl, HJ.out⟩
      · have HN := Lib.hid hi
        clear hi c0 c1 c2
        go_wp2_with fail
        go_roundw
        case rel => exact ⟨k + 1, by omega, by go_num, HN.out⟩
        case measure => simp [intOf]; omega
    · obtain rfl : k = n := by omega
      go_wp2_with fail
      go_ret
      exact .inr ⟨rfl, HK.out⟩
set_option maxRecDepth 100000 in
theorem findEq_any (a : Int) (S V M : ByteArray) (p : Addr) (w : World) (hp : w.cell? p = some (.string M)) :
    Calls Tryz.prog 55 #[.agg #[.int .i64 a, .string S, .string V], .pointer (some p)] w fun e w' => e = .returned (.bool (S.toList == M.toList)) ∧ Below w.heap.size w w' := by
  have hp' : (w.alloc (.cells #[.int .i64 a, .string S, .string V] 45)).cell? p = some (.string M) := (World.cell?_of_block (Below.heap_alloc w _ p.block (World.block_lt_of_cell? w _ hp))).trans hp
  clear hp
  have HB := Lib.hid ((Below.refl w.heap.size w).alloc (Nat.le_refl _) (.cells #[.int .i64 a, .string S, .string V] 45))
  cases hE : (S.toList == M.toList)
  · have hE' : ¬ S.toList = M.toList := by simpa using hE
    go_enter Tryz.func55, Tryz.ntmps55
    go_wp2_with fail
    go_ret
    exact ⟨rfl, HB.out⟩
  · have hE' : S.toList = M.toList := by simpa using hE
    go_enter Tryz.func55, Tryz.ntmps55
    go_wp2_with fail
    go_ret
    exact ⟨rfl, HB.out⟩
theorem entFind : Ent1 55 := enters_of Tryz.func55 (by kernel_rfl) rfl
theorem find_first {L : List MF} {nm : Tx} {k : Nat} {f : MF} (hf : L[k]? = some f) (heq : f.2.1 = nm) (hno : ∀ j f', j < k → L[j]? = some f' → f'.2.1 ≠ nm) : L.find? (fun f => f.2.1 == nm) = some f := by
  rw [List.find?_eq_some_iff_getElem]
  refine ⟨by simpa using heq, k, (List.getElem?_eq_some_iff.1 hf).1, (List.getElem?_eq_some_iff.1 hf).2, fun j hj => ?_⟩
  have := hno j _ hj (List.getElem?_eq_getElem (by have := (List.getElem?_eq_some_iff.1 hf).1; omega))
  simpa using this
theorem find_none {L : List MF} {nm : Tx} (hno : ∀ f ∈ L, f.2.1 ≠ nm) : L.find? (fun f => f.2.1 == nm) = none := by
  rw [List.find?_eq_none]
  intro f hf
  simpa using hno f hf
set_option maxHeartbeats 2000000 in
set_option maxRecDepth 100000 in
theorem find_any (a : Int) (kd : ByteArray) (v : Value) (L : List MF) (nm : Tx) (w : World) (hl : L.length ≤ 1000000) (hv : RowF w v L) :
    Calls Tryz.prog 31 #[.agg #[.int .i64 a, .string kd, v], .string (str nm)] w (OwE (L.find? fun f => f.2.1 == nm) w) := by
  obtain ⟨A, c, rfl, hr⟩ := hv.form
  obtain ⟨g, hg⟩ : ∃ g, w.heap.size = g := ⟨_, rfl⟩
  obtain ⟨wB, hwB⟩ : ∃ x, ((w.alloc (.cells #[.int .i64 a, .string kd, .slice A L.length c] 48)).alloc (.cells #[.string (str nm)] 9)).alloc (.cells #[.int .i64 0, .string { data := #[] }, .string { data := #[] }] 45) = x := ⟨_, rfl⟩
  have hbB : Below w.heap.size w wB := by rw [← hwB]; exact (((Below.refl _ _).alloc (Nat.le_refl _) _).alloc (by simp) _).alloc (by simp; omega) _
  have hB0 : wB.heap[g]? = some (.cells #[.int .i64 a, .string kd, .slice A L.length c] 48 (0, 0)) := by
    rw [← hwB, ← hg, Below.heap_alloc _ _ _ (by simp; omega), Below.heap_alloc _ _ _ (by simp)]
    exact (MapKept.heap_alloc w _).1
  have hB1 : wB.heap[g + 1]? = some (.cells #[.string (str nm)] 9 (0, 0)) := by
    rw [← hwB, ← hg, Below.heap_alloc _ _ _ (by simp)]
    have h := (MapKept.heap_alloc (w.alloc (.cells #[.int .i64 a, .string kd, .slice A L.length c] 48)) (.cells #[.string (str nm)] 9)).1
    rwa [World.size_alloc] at h
  have hB2 : wB.heap[g + 2]? = some (.cells #[.int .i64 0, .string { data := #[] }, .string { data := #[] }] 45 (0, 0)) := by
    rw [← hwB, ← hg]
    have h := (MapKept.heap_alloc ((w.alloc (.cells #[.int .i64 a, .string kd, .slice A L.length c] 48)).alloc (.cells #[.string (str nm)] 9)) (.cells #[.int .i64 0, .string { data := #[] }, .string { data := #[] }] 45)).1
    rwa [World.size_alloc, World.size_alloc] at h
  have hr1 := hr.below hbB
  have HX := Lib.hid (indexF A L.length c 55 #[.pointer (some ⟨g + 1, 0, none⟩)] wB entFind (fun k => L.getD k (0, [], [])) (fun k W => Below wB.heap.size wB W ∧ ∀ j f, j < k → L[j]? = some f → f.2.1 ≠ nm) (fun k W => Below wB.heap.size wB W ∧ (∀ j f, j < k → L[j]? = some f → f.2.1 ≠ nm) ∧ (L.getD k (0, [], [])).2.1 = nm) (fun k W hk hW => by
    have hgd : L[k]? = some (L.getD k (0, [], [])) := by rw [List.getD_eq_getElem?_getD, List.getElem?_eq_getElem hk]; rfl
    obtain ⟨ad, X, e1, e2, e3, e4, e5⟩ := (hr1.below hW.1).parts.2.2.2 k hk _ hgd
    exact ⟨ad, X, e1, e2, e3, e4, e5⟩) (fun k W hk hW => by
    have hgd : L[k]? = some (L.getD k (0, [], [])) := by rw [List.getD_eq_getElem?_getD, List.getElem?_eq_getElem hk]; rfl
    refine (findEq_any _ _ _ (str nm) _ W (cell9_blk ((hW.1.block _ (blk9_lt hB1)).trans hB1) 0 rfl)).mono ?_
    rintro e W' ⟨rfl, hb⟩
    have hb' : Below wB.heap.size wB W' := hW.1.trans (hb.mono hW.1.size)
    rw [str_toList, str_toList]
    by_cases hq : (L.getD k (0, [], [])).2.1 = nm
    · exact .inl ⟨by rw [hq]; simp, hb', hW.2, hq⟩
    · refine .inr ⟨by rw [beq_eq_false_iff_ne.2 hq], hb', fun j f hj hf => ?_⟩
      rcases Nat.lt_succ_iff_lt_or_eq.1 hj with h | h
      · exact hW.2 j f h hf
      · subst h
        rw [hgd] at hf
        injection hf with hf
        rw [← hf]
        exact hq) ⟨Below.refl _ _, fun j f hj => absurd hj (Nat.not_lt_zero j)⟩ hl)
  have HR := Lib.hid (And.intro hr1 (And.intro hbB (And.intro hB0 hB2)))
  have HF := Lib.hid (And.intro (fun k f (h1 : L[k]? = some f) (h2 : f.2.1 = nm) h3 => find_first h1 h2 h3) (fun h => find_none (L := L) (nm := nm) h))
  obtain ⟨n, hn⟩ : ∃ n, L.length = n := ⟨_, rfl⟩
  have HN := Lib.hid hn
  rw [hn] at HX hwB HR hl ⊢
  generalize hS : str nm = S at *
  have hs : wB.heap.size = g + 3 := by rw [← hwB]; simp [hg]
  clear hr hbB hr1 hB0 hB1 hB2 hn hv hS
  have b2 := cell9_blk HR.out.2.2.1 2 (v := .slice A n c) rfl
  go_enter Tryz.func31, Tryz.ntmps31
  go_wp2_with fail
  with_reducible refine HX.out.mono ?_
  rintro e w1 (⟨k, hk, rfl, hb, hno, heq⟩ | ⟨rfl, hb, hno⟩)
  · have hkl : k < L.length := by rw [HN.out]; exact hk
    obtain ⟨f, hf⟩ : ∃ f, L[k]? = some f := ⟨_, List.getElem?_eq_getElem hkl⟩
    have hgd : L.getD k (0, [], []) = f := by rw [List.getD_eq_getElem?_getD, hf]; rfl
    rw [hgd] at heq
    obtain ⟨ad, X, rfl, hX, e3, e4, e5⟩ := (HR.out.1.below hb).parts.2.2.2 k hk f hf
    have b2' := cell9_blk ((hb.block _ (blk9_lt HR.out.2.2.1)).trans HR.out.2.2.1) 2 (v := .slice (some ad) n c) rfl
    have h2 := (hb.block _ (blk9_lt HR.out.2.2.2)).trans HR.out.2.2.2
    have z0 := cell9_blk h2 0 rfl
    have z1 := cell9_blk h2 1 rfl
    have z2 := cell9_blk h2 2 rfl
    have y0 := frz9_blk h2 0
    have y1 := frz9_blk h2 1
    have y2 := frz9_blk h2 2
    have q0 : (0 : Int) ≤ k := by omega
    have q1 : (k : Int) < n := by omega
    have HH := Lib.hid (And.intro (HF.out.1 k f hf heq hno) (HR.out.2.1.trans (hb.mono HR.out.2.1.size)))
    have H2 := Lib.hid h2
    clear hb hno heq hf hgd b2 hkl h2
    go_wp2_with fail
    refine bodyPost_ret (results_cellO rfl _ _ (g + 2) _ _ (0, 0) _ rfl (set3O H2.out) Tryz.underlying45 rfl (by kernel_rfl)) rfl ?_
    rw [HH.out.1]
    exact owE_of rfl rfl (below_set3O HH.out.2 (by omega))
  · have hall : ∀ f ∈ L, f.2.1 ≠ nm := fun f hf => by
      obtain ⟨j, hj, e⟩ := List.getElem_of_mem hf
      exact hno j f (by rw [← HN.out]; exact hj) (by rw [List.getElem?_eq_getElem hj, e])
    have h2 := (hb.block _ (blk9_lt HR.out.2.2.2)).trans HR.out.2.2.2
    have z0 := cell9_blk h2 0 rfl
    have z1 := cell9_blk h2 1 rfl
    have z2 := cell9_blk h2 2 rfl
    have y0 := frz9_blk h2 0
    have y1 := frz9_blk h2 1
    have y2 := frz9_blk h2 2
    have HH := Lib.hid (And.intro (HF.out.2 hall) (HR.out.2.1.trans (hb.mono HR.out.2.1.size)))
    have H2 := Lib.hid h2
    clear hb hno hall b2 h2
    go_wp2_with fail
    refine bodyPost_ret (results_cellO rfl _ _ (g + 2) _ _ (0, 0) _ rfl (set3O H2.out) Tryz.underlying45 rfl (by kernel_rfl)) rfl ?_
    rw [HH.out.1]
    exact owE_of rfl rfl (below_set3O HH.out.2 (by omega))
/-- What right answers. -/
def plV (l n : Int) : Value := .agg #[.int .i64 l, .int .i64 n]
theorem set2P {w : World} {g : Nat} {a b x y : Value} {t : TypeId} (h : w.heap[g]? = some (.cells #[a, b] t (0, 0))) : ((w.setCell ⟨g, 0, none⟩ x).setCell ⟨g, 1, none⟩ y).heap[g]? = some (.cells #[x, y] t (0, 0)) :=
  heap_setCell_same _ g 1 _ t y (heap_setCell_same w g 0 _ t x h)
set_option maxRecDepth 100000 in
set_option maxHeartbeats 1000000 in
theorem right_any (w : World) : Calls Tryz.prog 47 #[] w fun e w' => e = .returned (.tuple #[plV 0 0, .nilIface]) ∧ Below w.heap.size w w' := by
  have hpl := (MapKept.heap_alloc w (.cells #[.int .i64 0, .int .i64 0] 29)).1
  have HB := Lib.hid (And.intro hpl ((Below.refl w.heap.size w).alloc (Nat.le_refl _) (.cells #[.int .i64 0, .int .i64 0] 29)))
  clear hpl
  go_enter Tryz.func47, Tryz.ntmps47
  go_wp2_with fail
  refine bodyPost_ret (results_cellO rfl _ _ w.heap.size _ #[.int .i64 0, .int .i64 0] (0, 0) _ rfl HB.out.1 Tryz.underlying29 rfl (by kernel_rfl)) rfl ?_
  exact ⟨rfl, HB.out.2⟩
set_option maxHeartbeats 1000000 in
set_option maxRecDepth 100000 in
theorem wrong_any (l n : Int) (w : World) (hg : ErrT w) :
    Calls Tryz.prog 46 #[.int .i64 l, errK n] w fun e w' => e = .returned (.tuple #[plV l n, errK n]) ∧ Below w.heap.size w w' := by
  have HG := Lib.hid hg
  clear hg
  unfold errK
  go_enter Tryz.func46, Tryz.ntmps46
  go_wp2_with fail
  have hw1 : Below w.heap.size w ((w.alloc (.cells #[.int .i64 0, .int .i64 0] 29)).alloc (.cells #[.int .i64 0] 27)) := ((Below.refl _ w).alloc (Nat.le_refl _) _).alloc (by simp) _
  refine (as_any n ⟨w.heap.size + 1, 0, none⟩ (.int .i64 0) (w.heap.size + 1) _ (HG.out.below hw1) (by simp) (by simp) (Nat.le_refl _)).mono ?_
  rintro e w1 ⟨rfl, hb, hc⟩
  have hpl : w1.heap[w.heap.size]? = some (.cells #[.int .i64 0, .int .i64 0] 29 (0, 0)) := by
    refine (hb.block _ (Nat.lt_succ_self _)).trans ?_
    refine (Below.heap_alloc _ _ _ (by rw [World.size_alloc]; exact Nat.lt_succ_self _)).trans ?_
    exact (MapKept.heap_alloc w _).1
  have HB := Lib.hid (hw1.trans (hb.mono (Nat.le_succ _)))
  have HP := Lib.hid hpl
  have p0 := cell9_blk hpl 0 (v := .int .i64 0) rfl
  have p1 := cell9_blk hpl 1 (v := .int .i64 0) rfl
  have q0 := frz9_blk hpl 0
  have q1 := frz9_blk hpl 1
  clear hb hpl hw1
  go_wp2_with fail
  refine bodyPost_ret (results_cellO rfl _ _ w.heap.size _ #[.int .i64 l, .int .i64 n] (0, 0) _ rfl (set2P HP.out) Tryz.underlying29 rfl (by kernel_rfl)) rfl ?_
  have hB := (HB.out.setCell (p := ⟨w.heap.size, 0, none⟩) (Nat.le_refl _) (.int .i64 l)).setCell (p := ⟨w.heap.size, 1, none⟩) (Nat.le_refl _) (.int .i64 n)
  exact ⟨rfl, hB.os, hB.tape, hB.output, hB.size, hB.block⟩
set_option maxRecDepth 100000 in
set_option maxHeartbeats 1000000 in
theorem join_any (x y : Tx) (w : World) (hx : x.length ≤ 1000000) (hy : y.length ≤ 1000000) : Calls Tryz.prog 73 #[.string (str x), .string (str y)] w fun e w' => e = .returned (.string (str (joinP x y))) ∧ w' = w := by
  have hj : joinP x y = if x = [] then y else if y = [] ∨ 4096 < x.length then x else x ++ 44 :: y := rfl
  have HJ := Lib.hid hj
  have e0 : (str x).toList = x := str_toList x
  have e1 : (str y).toList = y := str_toList y
  have hap : str x ++ { data := #[44] } ++ str y = str (x ++ 44 :: y) := by
    have h1 : str x ++ { data := #[44] } = str (x ++ [44]) := str_append x [44]
    rw [h1, str_append]
    simp
  have HA := Lib.hid hap
  have zx : (str x).size ≤ 1000000 := by rw [str_size]; exact hx
  have zy : (str y).size ≤ 1000000 := by rw [str_size]; exact hy
  have hsz : (str x).size = x.length := str_size x
  have HX := Lib.hid hsz
  by_cases hx0 : x = []
  · have i0 : (str x).toList.isEmpty = true := by rw [e0, hx0]; rfl
    have HR : Hid (joinP x y = y) := by unfold Hid; rw [HJ.out, if_pos hx0]
    generalize str x = X at *
    generalize hY : str y = Y at *
    clear e0 e1 hx0 hj hap hsz
    go_enter Tryz.func73, Tryz.ntmps73
    go_wp2_with fail
    go_ret
    exact ⟨by rw [HR.out, hY]; rfl, rfl⟩
  · have i0 : (str x).toList.isEmpty = false := by rw [e0]; cases x with
      | nil => exact absurd rfl hx0
      | cons a l => rfl
    by_cases hy0 : y = []
    · have i1 : (str y).toList.isEmpty = true := by rw [e1, hy0]; rfl
      have HR : Hid (joinP x y = x) := by unfold Hid; rw [HJ.out, if_neg hx0, if_pos (.inl hy0)]
      generalize hX : str x = X at *
      generalize str y = Y at *
      clear e0 e1 hx0 hy0 hj hap hsz
      go_enter Tryz.func73, Tryz.ntmps73
      go_wp2_with fail
      go_ret
      exact ⟨by rw [HR.out, hX]; rfl, rfl⟩
    · have i1 : (str y).toList.isEmpty = false := by rw [e1]; cases y with
        | nil => exact absurd rfl hy0
        | cons a l => rfl
      by_cases hl : 4096 < x.length
      · have q : (4096 : Int) < (str x).size := by rw [hsz]; omega
        have HR : Hid (joinP x y = x) := by unfold Hid; rw [HJ.out, if_neg hx0, if_pos (.inr hl)]
        generalize hX : str x = X at *
        generalize str y = Y at *
        clear e0 e1 hx0 hy0 hj hap hsz hl
        go_enter Tryz.func73, Tryz.ntmps73
        go_wp2_with fail
        go_ret
        exact ⟨by rw [HR.out, hX]; rfl, rfl⟩
      · have q : ¬ (4096 : Int) < (str x).size := by rw [hsz]; omega
        have HR : Hid (joinP x y = x ++ 44 :: y) := by unfold Hid; rw [HJ.out, if_neg hx0, if_neg (by rintro (h | h); exact hy0 h; exact hl h)]
        generalize str x = X at *
        generalize str y = Y at *
        clear e0 e1 hx0 hy0 hj hap hsz hl
        go_enter Tryz.func73, Tryz.ntmps73
        go_wp2_with fail
        go_ret
        exact ⟨by rw [HR.out, ← HA.out]; rfl, rfl⟩
/-- Is a block registered? -/
def regB (b : MB) : Bool := match ownF b nmR with
  | some f => !(f.2.2 == [48])
  | none => true
set_option maxRecDepth 100000 in
set_option maxHeartbeats 1000000 in
theorem isReg_any (b : MB) (v : Value) (w : World) (hl : b.2.2.length ≤ 1000000) (hv : RowF w v b.2.2) :
    Calls Tryz.prog 20 #[.agg #[.int .i64 b.1, .string (str b.2.1), v]] w fun e w' => e = .returned (.bool (regB b)) ∧ Below w.heap.size w w' := by
  obtain ⟨A, c, rfl, hr⟩ := hv.form
  have hb1 : Below w.heap.size w (w.alloc (.cells #[.int .i64 b.1, .string (str b.2.1), .slice A b.2.2.length c] 48)) := (Below.refl _ _).alloc (Nat.le_refl _) _
  have HF := Lib.hid (find_any b.1 (str b.2.1) (.slice A b.2.2.length c) b.2.2 nmR _ hl (hr.below hb1))
  have e0 : str nmR = { data := #[114, 101, 103, 105, 115, 116, 101, 114] } := rfl
  rw [e0] at HF
  unfold OwE at HF
  have HB := Lib.hid hb1
  have hrg : regB b = match (b.2.2.find? fun f => f.2.1 == nmR) with
    | some f => !(f.2.2 == [48])
    | none => true := rfl
  rw [hrg]
  generalize str b.2.1 = KD at *
  generalize b.2.2.length = n at *
  clear hr hv hb1 hrg
  cases ho : b.2.2.find? (fun f => f.2.1 == nmR) with
  | none =>
    rw [ho] at HF
    dsimp only [Option.isSome_none, fdO] at HF
    clear ho
    go_enter Tryz.func20, Tryz.ntmps20
    go_wp2_with fail
    with_reducible refine HF.out.mono ?_
    rintro e w2 ⟨rfl, hb2⟩
    have HB2 := Lib.hid (HB.out.trans (hb2.mono HB.out.size))
    clear hb2
    go_wp2_with fail
    go_ret
    exact ⟨rfl, HB2.out.alloc HB2.out.size _⟩
  | some f =>
    dsimp only
    rw [ho] at HF
    dsimp only [Option.isSome_some, fdO] at HF
    have he : ((str f.2.2).toList == [48]) = (f.2.2 == [48]) := by rw [str_toList]
    generalize str f.2.2 = V at *
    generalize str f.2.1 = N1 at *
    cases hq : f.2.2 == [48] with
    | false =>
      rw [hq] at he
      have HE := Lib.hid he
      clear ho hq
      go_enter Tryz.func20, Tryz.ntmps20
      go_wp2_with fail
      with_reducible refine HF.out.mono ?_
      rintro e w2 ⟨rfl, hb2⟩
      have HB2 := Lib.hid (HB.out.trans (hb2.mono HB.out.size))
      clear hb2
      go_wp2_with fail
      go_ret
      exact ⟨rfl, HB2.out.alloc HB2.out.size _⟩
    | true =>
      rw [hq] at he
      have HE := Lib.hid he
      clear ho hq
      go_enter Tryz.func20, Tryz.ntmps20
      go_wp2_with fail
      with_reducible refine HF.out.mono ?_
      rintro e w2 ⟨rfl, hb2⟩
      have HB2 := Lib.hid (HB.out.trans (hb2.mono HB.out.size))
      clear hb2
      go_wp2_with fail
      go_ret
      exact ⟨rfl, HB2.out.alloc HB2.out.size _⟩
end Go.Proofs.YthnogakjaaopkaaGreatDoor
/- The map of names: which block bears a name of a kind. -/
namespace Go.Proofs.YthnogakjaaopkaaGreatDoor
open Go.RowKit Go.Maps Go.ChangeMaps Go.WideMaps

theorem ttLaid : laidOutB Tryz.prog = true := by kernel_rfl
theorem ttRow : 146 < Tryz.prog.types.size := of_decide_eq_true (by kernel_rfl)
theorem ttWide : (match Tryz.prog.underlying 146 with | some (.array _ _) | some (.struct _) => true | _ => false) = true := by kernel_rfl
theorem ttDeep : Tryz.prog.keyTypeAt (Tryz.prog.types.size + 1) 146 = true := by kernel_rfl
theorem ttDeep3 : Tryz.prog.keyTypeAt 3 146 = true := by kernel_rfl
theorem ttCells : Tryz.prog.cellsOf 146 = 2 := by kernel_rfl
theorem ttCellsS : Tryz.prog.cellsOf 9 = 1 := by kernel_rfl
theorem ttM : 3 + 1 ≤ 10000 := by decide
set_option maxRecDepth 100000 in
theorem keyLawT : Keyed Tryz.prog 146 := Keyed.of_law (deep_law_laid (m := 3) (k := 146) ttLaid ttM ttRow ttDeep3 ttWide)
def kT (k n : Tx) : Lit := .string (keyBytes [.string k, .string n])
def ttV (k n : Tx) : Value := .agg #[.string (str k), .string (str n)]
theorem keyLitsT {k n : Tx} (h1 : (str k).size ≤ maxLen) (h2 : (str n).size ≤ maxLen) (d : Nat) : Tryz.prog.keyLits (d + 2) 146 [.string (str k), .string (str n)] = some [.string k, .string n] := by
  simp [Program.keyLits, Tryz.underlying146, Tryz.underlying9, h1, h2, ttCells, ttCellsS]
  exact ⟨rfl, rfl⟩
theorem keyST {k n : Tx} (hk : k.length ≤ 1000000) (hn : n.length ≤ 1000000) : keyOf Tryz.prog 146 (ttV k n) = some (kT k n) := by
  have h1 : (str k).size ≤ maxLen := by rw [str_size]; unfold maxLen; omega
  have h2 : (str n).size ≤ maxLen := by rw [str_size]; unfold maxLen; omega
  obtain ⟨d, hd⟩ : ∃ d, Tryz.prog.types.size + 1 = d + 2 := ⟨Tryz.prog.types.size - 1, by have := ttRow; omega⟩
  have hf : (ttV k n).formed Tryz.prog 146 = true := by
    simp [Value.formed, ttV, Tryz.underlying146, ttCells]
  unfold keyOf
  rw [Tryz.underlying146]
  simp only
  rw [if_pos (by rw [hf, show Tryz.prog.keyType 146 = true from ttDeep]; rfl), hd]
  have h := keyLitsT h1 h2 d
  have hc : (ttV k n).cells.toList = [.string (str k), .string (str n)] := rfl
  rw [hc, h]
  rfl
theorem kT_inj {k n k' n' : Tx} (hk : k.length ≤ 1000000) (hn : n.length ≤ 1000000) (hk' : k'.length ≤ 1000000) (hn' : n'.length ≤ 1000000) (h : kT k n = kT k' n') : k = k' ∧ n = n' := by
  have h1 := keyLawT.inj (keyST hk hn) (by rw [h]; exact keyST hk' hn')
  unfold ttV at h1
  injection h1 with h1
  have e0 := congrArg (fun a : Array Value => a[0]?) h1
  have e1 := congrArg (fun a : Array Value => a[1]?) h1
  simp at e0 e1
  exact ⟨str_inj.1 e0, str_inj.1 e1⟩
theorem kT_isKey {k n : Tx} (hk : k.length ≤ 1000000) (hn : n.length ≤ 1000000) : WideAt.IsKeyLit (kT k n) := keyLawT.key (keyST hk hn)
def ttH (j : Nat) : DataW Value := .held (.int .i64 (j : Int))
/-- Block b says of each name of a kind which of L bears it first. -/
def TIs (w : World) (b : Nat) (L : List MB) : Prop := ∃ D n, w.ownsMap Tryz.prog 146 rv b n D ∧ n ≤ L.length ∧ ∀ kd nm : Tx, kd.length ≤ 1000000 → nm.length ≤ 1000000 →
  match L.findIdx? (isTm kd nm) with
  | none => Maps.has D (kT kd nm) = false
  | some j => Maps.has D (kT kd nm) = true ∧ ∀ z, D.atKey (kT kd nm) z = ttH j
section
variable {w w' : World} {b : Nat} {L : List MB}
theorem TIs.lt (h : TIs w b L) : b < w.heap.size := by
  obtain ⟨D, n, h1, _⟩ := h
  exact h1.lt
theorem TIs.block (h : TIs w b L) (hb : w'.heap[b]? = w.heap[b]?) : TIs w' b L := by
  obtain ⟨D, n, ⟨es, clock, h1, h2⟩, h3⟩ := h
  exact ⟨D, n, ⟨es, clock, hb.trans h1, h2⟩, h3⟩
theorem TIs.below (h : TIs w b L) (hb : Below w.heap.size w w') : TIs w' b L := h.block (hb.block b h.lt)
theorem TIs.made (w : World) : TIs (w.alloc (.map #[] 0)) w.heap.size [] :=
  ⟨.map [], 0, World.ownsMap_made w _ _ _, Nat.le_refl _, fun _ _ _ _ => rfl⟩
theorem TIs.look (h : TIs w b L) {kd nm : Tx} (hk : kd.length ≤ 1000000) (hn : nm.length ≤ 1000000) :
    (Instr.lookup 62 (.map (some b)) (ttV kd nm) true).run Tryz.prog w = .ok (.tuple #[.int .i64 (((tmpl L kd nm).getD 0 : Nat) : Int), .bool (tmpl L kd nm).isSome]) w := by
  obtain ⟨D, n, h1, _, h3⟩ := h
  obtain ⟨v, ps, hr, hv⟩ := World.ownsMap.look_ok h1 keyLawT Tryz.underlying62 (zeroI9 w) (zd := .held (.int .i64 0)) rfl (keyST hk hn)
  have h4 := h3 kd nm hk hn
  unfold tmpl
  cases hf : L.findIdx? (isTm kd nm) with
  | none =>
    rw [hf] at h4
    rw [h4] at hr
    rw [atKey_of_not_has h4] at hv
    unfold rv at hv
    simp only [Option.some.injEq, Prod.mk.injEq, DataW.held.injEq] at hv
    rw [hr, hv.1]
    rfl
  | some j =>
    rw [hf] at h4
    rw [h4.1] at hr
    rw [h4.2] at hv
    unfold rv ttH at hv
    simp only [Option.some.injEq, Prod.mk.injEq, DataW.held.injEq] at hv
    rw [hr, hv.1]
    rfl
theorem TIs.skip (h : TIs w b L) {c : MB} (hc : ownF c nmN = none) : TIs w b (L ++ [c]) := by
  obtain ⟨D, n, h1, h2, h3⟩ := h
  refine ⟨D, n, h1, by rw [List.length_append]; omega, fun kd nm hk hn => ?_⟩
  have h4 := h3 kd nm hk hn
  have hno : isTm kd nm c = false := by unfold isTm; rw [hc]
  rw [List.findIdx?_append]
  cases hf : L.findIdx? (isTm kd nm) with
  | none =>
    rw [hf] at h4
    rw [List.findIdx?_cons, hno]
    exact h4
  | some j =>
    rw [hf] at h4
    exact h4
theorem TIs.put (h : TIs w b L) {c : MB} {f : MF} (hc : ownF c nmN = some f) (hk : c.2.1.length ≤ 1000000) (hn : f.2.2.length ≤ 1000000) (hl : L.length ≤ 1000000) (hno : tmpl L c.2.1 f.2.2 = none) :
    ∃ w', (Instr.mapUpdate 62 (.map (some b)) (ttV c.2.1 f.2.2) (.int .i64 (L.length : Int))).run Tryz.prog w = .ok () w' ∧ TIs w' b (L ++ [c]) ∧ w.grownBy w' (some b) := by
  obtain ⟨D, n, h1, h2, h3⟩ := h
  obtain ⟨w', hr, ho, hg⟩ := World.ownsMap.update (d := ttH L.length) (ps := []) (val := .int .i64 (L.length : Int)) h1 keyLawT Tryz.underlying62 (by unfold maxLen; omega) (keyST hk hn) rfl
  refine ⟨w', hr, ⟨_, n + 1, ho, by rw [List.length_append, List.length_singleton]; omega, fun kd nm hkd hnm => ?_⟩, hg⟩
  have h4 := h3 kd nm hkd hnm
  by_cases e : kd = c.2.1 ∧ nm = f.2.2
  · obtain ⟨rfl, rfl⟩ := e
    have hf : L.findIdx? (isTm c.2.1 f.2.2) = none := hno
    have hyes : isTm c.2.1 f.2.2 c = true := by unfold isTm; rw [hc]; simp
    rw [List.findIdx?_append, hf, List.findIdx?_cons, hyes]
    simp only [if_true, Option.map_some, Option.none_or, Nat.zero_add]
    exact ⟨has_put_same h1.isMap (kT_isKey hk hn) _, fun z => atKey_put_same h1.isMap (kT_isKey hk hn) _ _⟩
  · have hne : kT kd nm ≠ kT c.2.1 f.2.2 := fun h => e (kT_inj hkd hnm hk hn h)
    have hn2 : isTm kd nm c = false := by
      unfold isTm
      rw [hc]
      simp only [Bool.and_eq_false_iff, beq_eq_false_iff_ne]
      by_cases e1 : c.2.1 = kd
      · right
        intro e2
        exact e ⟨e1.symm, e2.symm⟩
      · exact .inl e1
    rw [List.findIdx?_append, List.findIdx?_cons, hn2]
    cases hf : L.findIdx? (isTm kd nm) with
    | none =>
      rw [hf] at h4
      simp only [Bool.false_eq_true, if_false, List.findIdx?_nil, Option.map_none, Option.or_none]
      rw [has_put_other hne]
      exact h4
    | some j =>
      rw [hf] at h4
      simp only [Option.some_or]
      rw [has_put_other hne]
      exact ⟨h4.1, fun z => by rw [atKey_put_other hne]; exact h4.2 z⟩
end
end Go.Proofs.YthnogakjaaopkaaGreatDoor
/- Contract: takeName. -/
namespace Go.Proofs.YthnogakjaaopkaaGreatDoor
open Go.RowKit

/-- What is wrong with a block's name, where L are the blocks ahead of it. -/
def wrgA (L : List MB) (b : MB) : Option (Int × Nat) := match ownF b nmN with
  | none => none
  | some f => if nameT f.2.2 = false then some (f.1, 11) else if tmpl L b.2.1 f.2.2 ≠ none then some (f.1, 7) else none
/-- An answer of a look: a place and an error. -/
def LkE (r : Option (Int × Nat)) (e : Ending) : Prop := match r with
  | none => e = .returned (.tuple #[plV 0 0, .nilIface])
  | some q => e = .returned (.tuple #[plV q.1 (q.2 : Nat), errK (q.2 : Nat)])
def setV (a b c d e : Value) : Array Value := #[a, b, c, d, e]
set_option maxRecDepth 100000 in
set_option maxHeartbeats 4000000 in
theorem takeName_any (ps mb : Nat) (lv x2 x3 x4 : Value) (l : List MB) (i : Nat) (b : MB) (w : World) (hl : l.length ≤ 1000000) (hf : ∀ b ∈ l, b.2.1.length ≤ 1000000 ∧ b.2.2.length ≤ 1000000 ∧ ∀ f ∈ b.2.2, f.2.2.length ≤ 900000) (hb : l[i]? = some b)
    (hE : ErrT w) (hS : w.heap[ps]? = some (.cells #[lv, .map (some mb), x2, x3, x4] 67 (0, 0))) (hv : RowB w lv l) (hT : TIs w mb (l.take i)) (hne : mb ≠ ps) :
    Calls Tryz.prog 44 #[.pointer (some ⟨ps, 0, none⟩), .int .i64 (i : Nat)] w fun e w' => LkE (wrgA (l.take i) b) e ∧ w.grownBy w' (some mb) ∧ (wrgA (l.take i) b = none → TIs w' mb (l.take (i + 1))) := by
  obtain ⟨A, c, rfl, hr⟩ := hv.form
  obtain ⟨n, hn⟩ : ∃ n, l.length = n := ⟨_, rfl⟩
  rw [hn] at hr hl hS
  have hil : i < n := by rw [← hn]; exact (List.getElem?_eq_some_iff.1 hb).1
  have hbm : b ∈ l := List.mem_of_getElem? hb
  obtain ⟨ad, X, vF, rfl, hX, k0, k1, k2, hrf⟩ := hr.parts.2.2.2 i hil b hb
  have HFd := Lib.hid (fun W h => find_any b.1 (str b.2.1) vF b.2.2 nmN W (hf b hbm).2.1 h)
  have e0 : str nmN = { data := #[110, 97, 109, 101] } := rfl
  rw [e0] at HFd
  unfold OwE at HFd
  have htk : l.take (i + 1) = l.take i ++ [b] := by
    rw [List.take_succ_eq_append_getElem (by rw [hn]; exact hil)]
    rw [(List.getElem?_eq_some_iff.1 hb).2]
  have hba : Below w.heap.size w (w.alloc (.cells #[.int .i64 0, .int .i64 0] 29)) := (Below.refl _ _).alloc (Nat.le_refl _) _
  have s0 := cell9_below (cell9_blk hS 0 rfl) hba
  replace k0 := cell9_below k0 hba
  replace k1 := cell9_below k1 hba
  replace k2 := cell9_below k2 hba
  have q0 : (0 : Int) ≤ i := by omega
  have q1 : (i : Int) < n := by omega
  have HS := Lib.hid (And.intro hS (And.intro hT (And.intro hne hE)))
  have HRf := Lib.hid hrf
  have HTk := Lib.hid htk
  obtain ⟨KD, hKD⟩ : ∃ x, str b.2.1 = x := ⟨_, rfl⟩
  rw [hKD] at k1 HFd
  have HKD := Lib.hid hKD
  obtain ⟨w1, hw1⟩ : ∃ x, (w.alloc (.cells #[.int .i64 0, .int .i64 0] 29)).alloc (.cells #[.int .i64 b.1, .string KD, vF] 48) = x := ⟨_, rfl⟩
  obtain ⟨g, hg⟩ : ∃ g, w.heap.size = g := ⟨_, rfl⟩
  have hb1 : Below w.heap.size w w1 := by rw [← hw1]; exact ((Below.refl _ _).alloc (Nat.le_refl _) _).alloc (by simp) _
  have b0 : w1.heap[g]? = some (.cells #[.int .i64 0, .int .i64 0] 29 (0, 0)) := by
    rw [← hw1, ← hg, Below.heap_alloc _ _ _ (by simp)]
    exact (MapKept.heap_alloc w _).1
  have b1 : w1.heap[g + 1]? = some (.cells #[.int .i64 b.1, .string KD, vF] 48 (0, 0)) := by
    rw [← hw1, ← hg]
    have h := (MapKept.heap_alloc (w.alloc (.cells #[.int .i64 0, .int .i64 0] 29)) (.cells #[.int .i64 b.1, .string KD, vF] 48)).1
    rwa [World.size_alloc] at h
  have hF1 := HFd.out w1 (hrf.below hb1)
  have HF1 := Lib.hid hF1
  have m0 := cell9_blk b1 0 rfl
  have m1 := cell9_blk b1 1 rfl
  have m2 := cell9_blk b1 2 rfl
  have HB := Lib.hid (And.intro hb1 (And.intro b0 b1))
  obtain ⟨A3, c3, hvF, _⟩ := hrf.form
  have hwr : wrgA (l.take i) b = match (b.2.2.find? fun f => f.2.1 == nmN) with
    | none => none
    | some f => if nameT f.2.2 = false then some (f.1, 11) else if tmpl (l.take i) b.2.1 f.2.2 ≠ none then some (f.1, 7) else none := rfl
  have hown : ownF b nmN = b.2.2.find? fun f => f.2.1 == nmN := rfl
  rw [hwr]
  have hsz : w1.heap.size = g + 2 := by rw [← hw1]; simp [hg]
  clear hF1 hS hv hT hE hrf htk hb1 hwr hKD
  cases ho : b.2.2.find? (fun f => f.2.1 == nmN) with
  | none =>
    rw [ho] at HF1 hown
    dsimp only [Option.isSome_none, fdO] at HF1
    have HO := Lib.hid hown
    clear ho hown
    subst hvF
    go_enter Tryz.func44, Tryz.ntmps44
    go_wp2_with fail
    with_reducible refine HF1.out.mono ?_
    rintro e w2 ⟨rfl, hb2⟩
    have HB2 := Lib.hid hb2
    clear hb2
    go_wp2_with fail
    with_reducible refine (right_any _).mono ?_
    rintro e w4 ⟨rfl, hb4⟩
    have hb24 : Below w1.heap.size w1 w4 := (HB2.out.alloc HB2.out.size _).trans (hb4.mono (by rw [World.size_alloc]; have := HB2.out.size; omega))
    have h0 := (hb24.block g (by omega)).trans HB.out.2.1
    have z0 := cell9_blk h0 0 rfl
    have z1 := cell9_blk h0 1 rfl
    have y0 := frz9_blk h0 0
    have y1 := frz9_blk h0 1
    have H4 := Lib.hid (And.intro h0 (HB.out.1.trans (hb24.mono HB.out.1.size)))
    clear hb4 hb24 h0
    unfold plV
    go_wp2_with fail
    refine bodyPost_ret (results_cellO rfl _ _ g _ #[.int .i64 0, .int .i64 0] (0, 0) _ rfl (set2P H4.out.1) Tryz.underlying29 rfl (by kernel_rfl)) rfl ?_
    have hB := (H4.out.2.setCell (p := ⟨g, 0, none⟩) (by rw [hg]; exact Nat.le_refl _) (.int .i64 0)).setCell (p := ⟨g, 1, none⟩) (by rw [hg]; exact Nat.le_refl _) (.int .i64 0)
    refine ⟨rfl, ⟨hB.os, hB.tape, hB.output, hB.size, fun k hk _ => hB.block k hk⟩, fun _ => ?_⟩
    rw [HTk.out]
    exact (HS.out.2.1.below hB).skip HO.out
  | some f =>
    have hfm : f ∈ b.2.2 := List.mem_of_find?_eq_some ho
    have hfl := (hf b hbm).2.2 f hfm
    have hkl := (hf b hbm).1
    rw [ho] at HF1 hown
    dsimp only [Option.isSome_some, fdO] at HF1
    dsimp only
    have HO := Lib.hid hown
    have HNm := Lib.hid (fun W => name_any f.2.2 W (by omega))
    have HFl := Lib.hid (And.intro hfl (And.intro hkl (by rw [hn]; exact hl : l.length ≤ 1000000)))
    obtain ⟨FV, hFV⟩ : ∃ x, str f.2.2 = x := ⟨_, rfl⟩
    obtain ⟨FN, hFN⟩ : ∃ x, str f.2.1 = x := ⟨_, rfl⟩
    rw [hFV] at HNm HF1
    rw [hFN] at HF1
    have HFV := Lib.hid hFV
    clear ho hown hFV hFN hfm hfl hkl
    subst hvF
    cases hnm : nameT f.2.2 with
    | false =>
      rw [hnm] at HNm
      rw [if_pos rfl]
      clear hnm
      have HWr := Lib.hid (fun W h => wrong_any f.1 11 W h)
      unfold errK at HWr
      go_enter Tryz.func44, Tryz.ntmps44
      go_wp2_with fail
      with_reducible refine HF1.out.mono ?_
      rintro e w2 ⟨rfl, hb2⟩
      obtain ⟨w3, hw3⟩ : ∃ x, w2.alloc (.cells #[.int .i64 f.1, .string FN, .string FV] 45) = x := ⟨_, rfl⟩
      have hb3 : Below w1.heap.size w1 w3 := by rw [← hw3]; exact hb2.alloc hb2.size _
      have h3 : w3.heap[w2.heap.size]? = some (.cells #[.int .i64 f.1, .string FN, .string FV] 45 (0, 0)) := by rw [← hw3]; exact (MapKept.heap_alloc w2 _).1
      have c0 := cell9_blk h3 0 rfl
      have c2 := cell9_blk h3 2 rfl
      have H3 := Lib.hid hb3
      clear hb2 hb3 h3
      go_wp2_with fail
      with_reducible refine (HNm.out _).mono ?_
      rintro e w4 ⟨rfl, rfl⟩
      go_wp2_with fail
      with_reducible refine (HWr.out _ (HS.out.2.2.2.below (HB.out.1.trans (H3.out.mono HB.out.1.size)))).mono ?_
      rintro e w4 ⟨rfl, hb4⟩
      have hb24 : Below w1.heap.size w1 w4 := H3.out.trans (hb4.mono H3.out.size)
      have h0 := (hb24.block g (by omega)).trans HB.out.2.1
      have z0 := cell9_blk h0 0 rfl
      have z1 := cell9_blk h0 1 rfl
      have y0 := frz9_blk h0 0
      have y1 := frz9_blk h0 1
      have H4 := Lib.hid (And.intro h0 (HB.out.1.trans (hb24.mono HB.out.1.size)))
      clear hb4 hb24 h0
      unfold plV
      go_wp2_with fail
      refine bodyPost_ret (results_cellO rfl _ _ g _ #[.int .i64 f.1, .int .i64 11] (0, 0) _ rfl (set2P H4.out.1) Tryz.underlying29 rfl (by kernel_rfl)) rfl ?_
      have hB := (H4.out.2.setCell (p := ⟨g, 0, none⟩) (by rw [hg]; exact Nat.le_refl _) (.int .i64 f.1)).setCell (p := ⟨g, 1, none⟩) (by rw [hg]; exact Nat.le_refl _) (.int .i64 11)
      exact ⟨rfl, ⟨hB.os, hB.tape, hB.output, hB.size, fun k hk _ => hB.block k hk⟩, fun h => by cases h⟩
    | true =>
      rw [hnm] at HNm
      rw [if_neg (by decide)]
      clear hnm
      have HLk := Lib.hid (fun W (h : TIs W mb (l.take i)) => h.look (kd := b.2.1) (nm := f.2.2) HFl.out.2.1 (by have := HFl.out.1; omega))
      have HPt := Lib.hid (fun W (h : TIs W mb (l.take i)) hno => h.put HO.out HFl.out.2.1 (by have := HFl.out.1; omega) (by rw [List.length_take]; have := HFl.out.2.2; omega) hno)
      unfold ttV at HLk HPt
      rw [HKD.out, HFV.out] at HLk HPt
      have hlt : (l.take i).length = i := by rw [List.length_take, hn]; omega
      rw [hlt] at HPt
      obtain ⟨t, ht⟩ : ∃ t, tmpl (l.take i) b.2.1 f.2.2 = t := ⟨_, rfl⟩
      rw [ht] at HLk HPt ⊢
      clear ht hlt
      obtain ⟨tj, htj⟩ : ∃ x, t.getD 0 = x := ⟨_, rfl⟩
      rw [htj] at HLk
      clear htj
      obtain ⟨R, hR⟩ : ∃ R : Option (Int × Nat), (if t ≠ none then some (f.1, 7) else none) = R := ⟨_, rfl⟩
      rw [hR]
      have HRR := Lib.hid hR
      clear hR
      go_enter Tryz.func44, Tryz.ntmps44
      go_wp2_with fail
      with_reducible refine HF1.out.mono ?_
      rintro e w2 ⟨rfl, hb2⟩
      obtain ⟨w3, hw3⟩ : ∃ x, w2.alloc (.cells #[.int .i64 f.1, .string FN, .string FV] 45) = x := ⟨_, rfl⟩
      have hb3 : Below w1.heap.size w1 w3 := by rw [← hw3]; exact hb2.alloc hb2.size _
      have h3 : w3.heap[w2.heap.size]? = some (.cells #[.int .i64 f.1, .string FN, .string FV] 45 (0, 0)) := by rw [← hw3]; exact (MapKept.heap_alloc w2 _).1
      have c0 := cell9_blk h3 0 rfl
      have c2 := cell9_blk h3 2 rfl
      have d1 := cell9_blk ((hb3.block (g + 1) (by omega)).trans HB.out.2.2) 1 rfl
      have H3 := Lib.hid (And.intro hb3 h3)
      clear hb2 hb3 h3
      go_wp2_with fail
      with_reducible refine (HNm.out _).mono ?_
      rintro e w4 ⟨rfl, rfl⟩
      obtain ⟨w5, hw5⟩ : ∃ x, w3.alloc (.cells #[.string KD, .string FV] 146) = x := ⟨_, rfl⟩
      have hb5 : Below w1.heap.size w1 w5 := by rw [← hw5]; exact H3.out.1.alloc H3.out.1.size _
      have hb35 : Below w3.heap.size w3 w5 := by rw [← hw5]; exact (Below.refl _ _).alloc (Nat.le_refl _) _
      have h5 : w5.heap[w3.heap.size]? = some (.cells #[.string KD, .string FV] 146 (0, 0)) := by rw [← hw5]; exact (MapKept.heap_alloc w3 _).1
      have f0 := cell9_blk ((hb35.block _ (blk9_lt H3.out.2)).trans H3.out.2) 0 rfl
      have t0 := cell9_blk h5 0 rfl
      have t1 := cell9_blk h5 1 rfl
      have hbw5 : Below w.heap.size w w5 := HB.out.1.trans (hb5.mono HB.out.1.size)
      have p1 := cell9_blk ((hbw5.block ps (blk9_lt HS.out.1)).trans HS.out.1) 1 rfl
      have hTi := HS.out.2.1.below hbw5
      have hlk := fun nq => HLk.out (w5.drewN nq) hTi
      have H5 := Lib.hid (And.intro hbw5 (And.intro hTi (And.intro hb5 h5)))
      clear hb5 h5 hbw5 hTi hb35
      cases t with
      | some j =>
        dsimp only [Option.isSome_some] at hlk
        have HWr := Lib.hid (fun W h => wrong_any f.1 7 W h)
        unfold errK at HWr
        have hR : R = some (f.1, 7) := by have h := HRR.out; rw [if_pos (by simp)] at h; exact h.symm
        subst hR
        clear HRR
        go_wp2_with fail
        go_quiet (fail)
        obtain ⟨w6, hw6⟩ : ∃ x, w5.drewN nq = x := ⟨_, rfl⟩
        have hb6 : Below w5.heap.size w5 w6 := by rw [← hw6]; exact ⟨rfl, rfl, rfl, Nat.le_refl _, fun _ _ => rfl⟩
        replace f0 := cell9_below f0 hb6
        have HB6 := Lib.hid hb6
        rw [hw6]
        clear hw6 hlk hb6
        go_wp2_with fail
        with_reducible refine (HWr.out _ (HS.out.2.2.2.below (H5.out.1.trans (HB6.out.mono H5.out.1.size)))).mono ?_
        rintro e w4 ⟨rfl, hb4⟩
        have hb24 : Below w1.heap.size w1 w4 := (H5.out.2.2.1.trans (HB6.out.mono H5.out.2.2.1.size)).trans (hb4.mono (by have h1 := H5.out.2.2.1.size; have h2 := HB6.out.size; omega))
        have h0 := (hb24.block g (by omega)).trans HB.out.2.1
        have z0 := cell9_blk h0 0 rfl
        have z1 := cell9_blk h0 1 rfl
        have y0 := frz9_blk h0 0
        have y1 := frz9_blk h0 1
        have H4 := Lib.hid (And.intro h0 (HB.out.1.trans (hb24.mono HB.out.1.size)))
        clear hb4 hb24 h0
        unfold plV
        go_wp2_with fail
        refine bodyPost_ret (results_cellO rfl _ _ g _ #[.int .i64 f.1, .int .i64 7] (0, 0) _ rfl (set2P H4.out.1) Tryz.underlying29 rfl (by kernel_rfl)) rfl ?_
        have hB := (H4.out.2.setCell (p := ⟨g, 0, none⟩) (by rw [hg]; exact Nat.le_refl _) (.int .i64 f.1)).setCell (p := ⟨g, 1, none⟩) (by rw [hg]; exact Nat.le_refl _) (.int .i64 7)
        exact ⟨rfl, ⟨hB.os, hB.tape, hB.output, hB.size, fun k hk _ => hB.block k hk⟩, fun h => by cases h⟩
      | none =>
        dsimp only [Option.isSome_none] at hlk
        have hR : R = none := by have h := HRR.out; rw [if_neg (by simp)] at h; exact h.symm
        subst hR
        clear HRR
        go_wp2_with fail
        go_quiet (fail)
        obtain ⟨w6, hw6⟩ : ∃ x, w5.drewN nq = x := ⟨_, rfl⟩
        have hb6 : Below w5.heap.size w5 w6 := by rw [← hw6]; exact ⟨rfl, rfl, rfl, Nat.le_refl _, fun _ _ => rfl⟩
        replace p1 := cell9_below p1 hb6
        replace t0 := cell9_below t0 hb6
        replace t1 := cell9_below t1 hb6
        have HB6 := Lib.hid hb6
        obtain ⟨w7, hup, hT7, hg7⟩ := HPt.out w6.drew ((H5.out.2.1.below hb6).below ⟨rfl, rfl, rfl, Nat.le_refl _, fun _ _ => rfl⟩) (by first | trivial | rfl)
        have H7 := Lib.hid (And.intro hT7 hg7)
        have hx1 := hg7.block g (by have h1 := HB6.out.size; have h2 := H5.out.2.2.1.size; show g < w6.heap.size; omega) (fun e => by injection e with e; have h1 := HS.out.2.1.lt; omega)
        have hg67 : w6.drew.heap[g]? = w1.heap[g]? := ((HB6.out.block g (by have h2 := H5.out.2.2.1.size; omega)).trans (H5.out.2.2.1.block g (by omega)))
        have h0 := (hx1.trans hg67).trans HB.out.2.1
        have hS9 : Hid (w7.cell? { block := ps, off := 1 } = some (.map (some mb)) ∧ w7.cell? { block := w3.heap.size, off := 0 } = some (.string KD) ∧ w7.cell? { block := w3.heap.size, off := 1 } = some (.string FV)) := by
          have e1 := World.cell?_of_block (a := ⟨ps, 1, none⟩) (hg7.block ps (World.block_lt_of_cell? w6 _ p1) (fun e => by injection e with e; exact HS.out.2.2.1 e.symm))
          have hne3 : some w3.heap.size ≠ some mb := fun e => by injection e with e; have h1 := HS.out.2.1.lt; have h2 := HB.out.1.size; have h3 := H3.out.1.size; omega
          have e2 := World.cell?_of_block (a := ⟨w3.heap.size, 0, none⟩) (hg7.block _ (World.block_lt_of_cell? w6 _ t0) hne3)
          have e3 := World.cell?_of_block (a := ⟨w3.heap.size, 1, none⟩) (hg7.block _ (World.block_lt_of_cell? w6 _ t1) hne3)
          exact ⟨e1.trans p1, e2.trans t0, e3.trans t1⟩
        have HH0 := Lib.hid h0
        rw [hw6]
        clear hw6 hlk hb6 hT7 hg7 hx1 hg67 h0
        go_wp2_with fail
        have HP6 := Lib.hid (And.intro p1 (And.intro t0 t1))
        refine wp_region_noPanic ?_
        refine wp_region_held_drew (S := fun W => W.cell? { block := ps, off := 1 } = some (.map (some mb)) ∧ W.cell? { block := w3.heap.size, off := 0 } = some (.string KD) ∧ W.cell? { block := w3.heap.size, off := 1 } = some (.string FV)) (by kernel_rfl) HP6.out (fun hHeld => ?_)
        refine' wpAnyH_take (i := 0) (oi := { dst := some 60, op := Go.Op.move (Go.Operand.tmp 0), type := 56, pos := "inherit.go:150", after := #[], guard := none }) (v := _) rfl (by kernel_rfl) (by kernel_rfl) (by kernel_rfl) (fun _ _ _ h => h) (Or.inl ⟨by rfl, ?_⟩) (by assumption) ?_
        rotate_left
        · (intro W hSw; go_simp; try with_reducible rfl)
        try simp only [Act.put, List.setIfInBounds_toArray, List.set_cons_zero, List.set_cons_succ]
        refine' wpAnyH_take (i := 1) (oi := { dst := some 61, op := Go.Op.nilCheck (Go.Operand.tmp 60), type := 0, pos := "inherit.go:150", after := #[{ on := 0, ground := Go.Ground.data }], guard := none }) (v := _) rfl (by kernel_rfl) (by kernel_rfl) (by kernel_rfl) (fun _ _ _ h => h) (Or.inl ⟨by rfl, ?_⟩) (by assumption) ?_
        rotate_left
        · (intro W hSw; go_simp; try with_reducible rfl)
        try simp only [Act.put, List.setIfInBounds_toArray, List.set_cons_zero, List.set_cons_succ]
        refine' wpAnyH_take (i := 2) (oi := { dst := some 62, op := Go.Op.fieldAddr 67 (Go.Operand.tmp 61) 1, type := 0, pos := "inherit.go:150", after := #[{ on := 1, ground := Go.Ground.data }], guard := none }) (v := _) rfl (by kernel_rfl) (by kernel_rfl) (by kernel_rfl) (fun _ _ _ h => h) (Or.inl ⟨by rfl, ?_⟩) (by assumption) ?_
        rotate_left
        · (intro W hSw; go_simp; try with_reducible rfl)
        try simp only [Act.put, List.setIfInBounds_toArray, List.set_cons_zero, List.set_cons_succ]
        refine' wpAnyH_take (i := 3) (oi := { dst := some 63, op := Go.Op.load 62 (Go.Operand.tmp 62), type := 62, pos := "inherit.go:150", after := #[{ on := 2, ground := Go.Ground.data }], guard := none }) (v := _) rfl (by kernel_rfl) (by kernel_rfl) (by kernel_rfl) (fun _ _ _ h => h) (Or.inl ⟨by rfl, ?_⟩) (by assumption) ?_
        rotate_left
        · (intro W hSw; obtain ⟨r0, r1, r2⟩ := hSw; go_simp; try with_reducible rfl)
        try simp only [Act.put, List.setIfInBounds_toArray, List.set_cons_zero, List.set_cons_succ]
        refine' wpAnyH_take (i := 4) (oi := { dst := some 64, op := Go.Op.load 146 (Go.Operand.tmp 9), type := 146, pos := "inherit.go:150", after := #[], guard := none }) (v := _) rfl (by kernel_rfl) (by kernel_rfl) (by kernel_rfl) (fun _ _ _ h => h) (Or.inl ⟨by rfl, ?_⟩) (by assumption) ?_
        rotate_left
        · (intro W hSw; obtain ⟨r0, r1, r2⟩ := hSw; go_simp; try with_reducible rfl)
        try simp only [Act.put, List.setIfInBounds_toArray, List.set_cons_zero, List.set_cons_succ]
        refine' wpAnyH_take (i := 5) (oi := { dst := some 65, op := Go.Op.move (Go.Operand.tmp 1), type := 3, pos := "inherit.go:150", after := #[], guard := none }) (v := _) rfl (by kernel_rfl) (by kernel_rfl) (by kernel_rfl) (fun _ _ _ h => h) (Or.inl ⟨by rfl, ?_⟩) (by assumption) ?_
        rotate_left
        · (intro W hSw; go_simp; try with_reducible rfl)
        try simp only [Act.put, List.setIfInBounds_toArray, List.set_cons_zero, List.set_cons_succ]
        refine wpAnyH_ready (rs := [6]) (by kernel_rfl) (by simp) ?_
        refine AllReadyH.cons (o := { dst := none, op := Go.Op.mapUpdate 62 (Go.Operand.tmp 63) (Go.Operand.tmp 64) (Go.Operand.tmp 65), type := 0, pos := "inherit.go:150", after := #[{ on := 3, ground := Go.Ground.data }, { on := 4, ground := Go.Ground.data }, { on := 5, ground := Go.Ground.data }, { on := 0, ground := Go.Ground.phase }, { on := 1, ground := Go.Ground.phase }, { on := 2, ground := Go.Ground.phase }, { on := 3, ground := Go.Ground.phase }, { on := 4, ground := Go.Ground.phase }, { on := 5, ground := Go.Ground.phase }], guard := none }) rfl (fun K hK => ?_) AllReadyH.nil
        go_simp
        refine hK.out _ _ hS9.out (fun hHeld => ?_)
        clear hK K
        try simp only [Act.put, List.setIfInBounds_toArray, List.set_cons_zero, List.set_cons_succ]
        refine wpAnyH_done (by kernel_rfl) ?_ _
        refine NoPanic.normal ?_
        go_wp2_with fail
        with_reducible refine (right_any _).mono ?_
        rintro e w8 ⟨rfl, hb8⟩
        have h8 := (hb8.block g (blk9_lt HH0.out)).trans HH0.out
        have z0 := cell9_blk h8 0 rfl
        have z1 := cell9_blk h8 1 rfl
        have y0 := frz9_blk h8 0
        have y1 := frz9_blk h8 1
        have H8 := Lib.hid (And.intro h8 hb8)
        clear h8 hb8
        unfold plV
        go_wp2_with fail
        refine bodyPost_ret (results_cellO rfl _ _ g _ #[.int .i64 0, .int .i64 0] (0, 0) _ rfl (set2P H8.out.1) Tryz.underlying29 rfl (by kernel_rfl)) rfl ?_
        have hlt := HS.out.2.1.lt
        have hgm : g ≠ mb := by omega
        have hs6 : w.heap.size ≤ w6.heap.size := Nat.le_trans H5.out.1.size HB6.out.size
        have hs7 := H7.out.2.size
        have hs8 := H8.out.2.size
        have hs67 : w6.heap.size ≤ w7.heap.size := hs7
        have hother : ∀ k, ((w8.setCell ⟨g, 0, none⟩ (.int .i64 0)).setCell ⟨g, 1, none⟩ (.int .i64 0)).heap[k]? = if k = g then ((w8.setCell ⟨g, 0, none⟩ (.int .i64 0)).setCell ⟨g, 1, none⟩ (.int .i64 0)).heap[k]? else w8.heap[k]? := fun k => by
          by_cases e : k = g
          · rw [if_pos e]
          · rw [if_neg e, Below.heap_setCell _ _ _ _ (fun h => e h), Below.heap_setCell _ _ _ _ (fun h => e h)]
        have hT8 : TIs w8 mb (l.take (i + 1)) := by rw [HTk.out]; exact H7.out.1.below H8.out.2
        refine ⟨rfl, ⟨?_, ?_, ?_, ?_, fun k hk hkm => ?_⟩, hT8.block ?_⟩
        · exact H8.out.2.os.trans (H7.out.2.os.trans (HB6.out.os.trans H5.out.1.os))
        · exact H8.out.2.tape.trans (H7.out.2.tape.trans (HB6.out.tape.trans H5.out.1.tape))
        · exact H8.out.2.output.trans (H7.out.2.output.trans (HB6.out.output.trans H5.out.1.output))
        · have h : ∀ (W : World) (a : Addr) (v : Value), (W.setCell a v).heap.size = W.heap.size := fun W a v => by simp [World.setCell]
          rw [h, h]
          omega
        · rw [hother k, if_neg (by omega)]
          refine (H8.out.2.block k (by omega)).trans ?_
          refine (H7.out.2.block k (show k < w6.heap.size by omega) hkm).trans ?_
          exact (HB6.out.block k (by have := H5.out.1.size; omega)).trans (H5.out.1.block k hk)
        · rw [hother mb, if_neg (fun e => hgm e.symm)]
end Go.Proofs.YthnogakjaaopkaaGreatDoor
/- Contract: lookAtNames. -/
namespace Go.Proofs.YthnogakjaaopkaaGreatDoor
open Go.RowKit

theorem wrgN_eq {l : List MB} {i : Nat} {b : MB} (hb : l[i]? = some b) : wrgN l i b = (wrgA (l.take i) b).or (wrgN.wrgR b) := by
  unfold wrgN wrgA
  cases ho : ownF b nmN with
  | none => rfl
  | some f =>
    dsimp only
    cases hn : nameT f.2.2 with
    | false => rfl
    | true =>
      have hft : ¬ ((true : Bool) = false) := by decide
      rw [if_neg hft, if_neg hft]
      have key : tmpl l b.2.1 f.2.2 ≠ some i ↔ tmpl (l.take i) b.2.1 f.2.2 ≠ none := by
        have hyes : isTm b.2.1 f.2.2 b = true := by unfold isTm; rw [ho]; simp
        have hi := (List.getElem?_eq_some_iff.1 hb).1
        have hgi := (List.getElem?_eq_some_iff.1 hb).2
        unfold tmpl
        have e : (l.take i).findIdx? (isTm b.2.1 f.2.2) = none ↔ l.findIdx? (isTm b.2.1 f.2.2) = some i := by
          rw [List.findIdx?_eq_none_iff, List.findIdx?_eq_some_iff_getElem]
          constructor
          · intro h
            refine ⟨hi, by rw [hgi]; exact hyes, fun j hj => ?_⟩
            have := h l[j] (List.mem_take_iff_getElem.2 ⟨j, by omega, rfl⟩)
            simpa using this
          · rintro ⟨_, _, h⟩ x hx
            obtain ⟨j, hj, rfl⟩ := List.mem_take_iff_getElem.1 hx
            have := h j (by omega)
            simpa using this
        rw [ne_eq, ne_eq, e]
      by_cases h : tmpl l b.2.1 f.2.2 ≠ some i
      · rw [if_pos h, if_pos (key.1 h)]
        rfl
      · rw [if_neg h, if_neg (fun h2 => h (key.2 h2))]
        rfl
theorem grow_ofB {w w' : World} (h : Below w.heap.size w w') (row : Option Nat) : w.grownBy w' row := ⟨h.os, h.tape, h.output, h.size, fun k hk _ => h.block k hk⟩
theorem set2_other {w : World} {g k : Nat} {x y : Value} (h : k ≠ g) : ((w.setCell ⟨g, 0, none⟩ x).setCell ⟨g, 1, none⟩ y).heap[k]? = w.heap[k]? := by
  rw [Below.heap_setCell _ _ _ _ h, Below.heap_setCell _ _ _ _ h]
theorem grown_set2 {w w1 wr w8 : World} {row : Option Nat} {g : Nat} {x y : Value} (h1 : Below w.heap.size w w1) (hg : w1.grownBy wr row) (h8 : Below wr.heap.size wr w8) (hge : w.heap.size ≤ g) : w.grownBy ((w8.setCell ⟨g, 0, none⟩ x).setCell ⟨g, 1, none⟩ y) row := by
  have hs1 := h1.size
  have hs2 := hg.size
  have hs3 := h8.size
  refine ⟨h8.os.trans (hg.os.trans h1.os), h8.tape.trans (hg.tape.trans h1.tape), h8.output.trans (hg.output.trans h1.output), ?_, fun k hk hkr => ?_⟩
  · have h : ∀ (W : World) (a : Addr) (v : Value), (W.setCell a v).heap.size = W.heap.size := fun W a v => by simp [World.setCell]
    rw [h, h]
    omega
  · rw [set2_other (by omega)]
    exact (h8.block k (by omega)).trans ((hg.block k (by omega) hkr).trans (h1.block k hk))
theorem grown_belowW {W0 w w' : World} {row : Option Nat} (h : Below W0.heap.size W0 w) (hg : w.grownBy w' row) (hr : ∀ k, row = some k → W0.heap.size ≤ k) : Below W0.heap.size W0 w' :=
  ⟨hg.os.trans h.os, hg.tape.trans h.tape, hg.output.trans h.output, Nat.le_trans h.size hg.size, fun k hk => (hg.block k (Nat.lt_of_lt_of_le hk h.size) (fun e => by have := hr k e.symm; omega)).trans (h.block k hk)⟩
set_option maxRecDepth 100000 in
set_option maxHeartbeats 4000000 in
theorem lookNames_any (W0 : World) (ps mb : Nat) (lv x2 x3 x4 : Value) (l : List MB) (w : World) (hl : l.length ≤ 1000000) (hf : ∀ b ∈ l, b.2.1.length ≤ 1000000 ∧ b.2.2.length ≤ 1000000 ∧ ∀ f ∈ b.2.2, f.2.2.length ≤ 900000)
    (hbel : Below W0.heap.size W0 w) (hmb : W0.heap.size ≤ mb) (hE : ErrT W0) (hv : RowB W0 lv l) (hS : w.heap[ps]? = some (.cells #[lv, .map (some mb), x2, x3, x4] 67 (0, 0))) (hT : TIs w mb []) (hne : mb ≠ ps) :
    Calls Tryz.prog 27 #[.pointer (some ⟨ps, 0, none⟩)] w fun e w' => LkE (fstB (wrgN l) 0 l) e ∧ w.grownBy w' (some mb) ∧ (fstB (wrgN l) 0 l = none → TIs w' mb l) := by
  obtain ⟨A, c, rfl, hr⟩ := hv.form
  obtain ⟨n, hn⟩ : ∃ n, l.length = n := ⟨_, rfl⟩
  rw [hn] at hr hl hS
  obtain ⟨g, hg⟩ : ∃ g, w.heap.size = g := ⟨_, rfl⟩
  obtain ⟨w1, hw1⟩ : ∃ x, w.alloc (.cells #[.int .i64 0, .int .i64 0] 29) = x := ⟨_, rfl⟩
  have hb1 : Below w.heap.size w w1 := by rw [← hw1]; exact (Below.refl _ _).alloc (Nat.le_refl _) _
  have b0 : w1.heap[g]? = some (.cells #[.int .i64 0, .int .i64 0] 29 (0, 0)) := by
    rw [← hw1, ← hg]
    exact (MapKept.heap_alloc w _).1
  have hS1 := (hb1.block ps (blk9_lt hS)).trans hS
  have s0 := cell9_blk hS1 0 rfl
  have hgm : g ≠ mb := by have := hT.lt; omega
  have HW := Lib.hid (And.intro hb1 (And.intro b0 (And.intro hS1 (And.intro (hbel.trans (hb1.mono hbel.size)) (And.intro (hT.below hb1) hE)))))
  have HN := Lib.hid (fun v i b W h1 h2 h3 h4 h5 => takeName_any ps mb v x2 x3 x4 l i b W (by rw [hn]; exact hl) hf h1 h2 h3 h4 h5 hne)
  have hgw : ∀ {k : Nat}, k < g → k < w1.heap.size := fun h => by have := blk9_lt b0; omega
  have HR := Lib.hid hr
  clear hS hv hT hE hS1
  obtain ⟨R, hRR⟩ : ∃ R, fstB (wrgN l) 0 l = R := ⟨_, rfl⟩
  rw [hRR]
  have HRR := Lib.hid hRR
  clear hRR
  go_enter Tryz.func27, Tryz.ntmps27
  go_wp2_with fail
  go_loopw [17] (fun kv wr => ∃ k : Nat, k ≤ n ∧ kv = .int .i64 k ∧ w1.grownBy wr (some mb) ∧ TIs wr mb (l.take k) ∧ ∀ (j : Nat) (b : MB), j < k → l[j]? = some b → wrgN l j b = none) (fun kv _ => n - (intOf kv).toNat)
  case atStart => exact ⟨0, Nat.zero_le _, rfl, World.grownBy.refl _ _, HW.out.2.2.2.2.1, fun j b hj => absurd hj (Nat.not_lt_zero j)⟩
  case round =>
    obtain ⟨k, hk, rfl, hgr, hTk, hno⟩ := hrel
    have hgblk : ∀ i, i < w1.heap.size → i ≠ mb → wr.heap[i]? = w1.heap[i]? := fun i hi hm => hgr.block i hi (fun e => by injection e with e; exact hm e)
    have bR := (hgblk g (blk9_lt b0) hgm).trans b0
    by_cases hlk : k < n
    · have hkl : k < l.length := by omega
      obtain ⟨b, hb⟩ : ∃ b, l[k]? = some b := ⟨_, List.getElem?_eq_getElem hkl⟩
      have hbm : b ∈ l := List.mem_of_getElem? hb
      have hbw : Below W0.heap.size W0 wr := grown_belowW HW.out.2.2.2.1 hgr (fun k e => by injection e with e; omega)
      obtain ⟨ad, X, vF, rfl, hX, k0', k1', k2', hrf⟩ := HR.out.parts.2.2.2 k hlk b hb
      have k0 := cell9_below k0' hbw
      have k1 := cell9_below k1' hbw
      have k2 := cell9_below k2' hbw
      clear k0' k1' k2'
      have hmlt := hTk.lt
      have hSr := (hgblk ps (blk9_lt HW.out.2.2.1) (fun e => hne e.symm)).trans HW.out.2.2.1
      have hwn := wrgN_eq hb
      have hHR : ∀ r, wrgN l k b = some r → fstB (wrgN l) 0 l = some r := fun r h => fstB_hit l 0 k b hb (by rw [Nat.zero_add]; exact h) (fun j c hj hc => by rw [Nat.zero_add]; exact hno j c hj hc)
      have hNo1 : wrgN l k b = none → ∀ (j : Nat) (c : MB), j < k + 1 → l[j]? = some c → wrgN l j c = none := fun h j c hj hc => by
        rcases Nat.lt_succ_iff_lt_or_eq.1 hj with h1 | rfl
        · exact hno j c h1 hc
        · rw [hb] at hc
          injection hc with hc
          rw [← hc]
          exact h
      obtain ⟨KD, hKD⟩ : ∃ x, str b.2.1 = x := ⟨_, rfl⟩
      rw [hKD] at k1
      obtain ⟨v1, hv1⟩ : ∃ x, wr.alloc (.cells #[.int .i64 b.1, .string KD, vF] 48) = x := ⟨_, rfl⟩
      have hbv : Below wr.heap.size wr v1 := by rw [← hv1]; exact (Below.refl _ _).alloc (Nat.le_refl _) _
      have bv : v1.heap[wr.heap.size]? = some (.cells #[.int .i64 b.1, .string KD, vF] 48 (0, 0)) := by rw [← hv1]; exact (MapKept.heap_alloc wr _).1
      have hbw1 : Below W0.heap.size W0 v1 := hbw.trans (hbv.mono hbw.size)
      have hTN := HN.out (.slice (some ad) n c) k b v1 hb (HW.out.2.2.2.2.2.below hbw1) ((hbv.block ps (blk9_lt hSr)).trans hSr) (HR.out.below hbw1) (hTk.below hbv)
      have HTN := Lib.hid hTN
      have hFR := fun W (h : Below W0.heap.size W0 W) (h2 : RowF W vF b.2.2) => find_any b.1 (str b.2.1) vF b.2.2 nmR W (hf b hbm).2.1 h2
      have e0 : str nmR = { data := #[114, 101, 103, 105, 115, 116, 101, 114] } := rfl
      rw [e0, hKD] at hFR
      unfold OwE at hFR
      have HFR := Lib.hid hFR
      have HV := Lib.hid (And.intro hbv (And.intro bv (And.intro hbw1 hrf)))
      obtain ⟨A3, c3, hvF, _⟩ := hrf.form
      have hreg : wrgN.wrgR b = match (b.2.2.find? fun f => f.2.1 == nmR) with
        | some g => if (flagT g.2.2).2 ≠ 0 then some (g.1, (flagT g.2.2).2) else none
        | none => none := rfl
      have HH := Lib.hid (And.intro hwn (And.intro hHR (And.intro hNo1 (And.intro bR hgr))))
      have r0 : (0 : Int) ≤ k := by omega
      have r1 : (k : Int) < n := by omega
      have s0r := cell9_blk hSr 0 rfl
      have gsz := blk9_lt b0
      have gszr := hgr.size
      clear hTN hFR hbv bv hbw1 hrf hwn hHR hNo1 hSr hTk hgr hbw
      subst hvF
      cases hr1 : wrgA (l.take k) b with
      | some q =>
        obtain ⟨at_, er⟩ := q
        rw [hr1] at HTN HH
        obtain rfl : R = some (at_, er) := by rw [← HRR.out]; exact HH.out.2.1 _ HH.out.1
        clear HRR hno
        unfold LkE plV errK at HTN
        dsimp only at HTN
        go_wp2_with fail
        with_reducible refine HTN.out.mono ?_
        rintro e w2 ⟨rfl, hg2, _⟩
        obtain ⟨w3, hw3⟩ : ∃ x, w2.alloc (.cells #[.int .i64 at_, .int .i64 (er : Nat)] 29) = x := ⟨_, rfl⟩
        have hb3 : Below w2.heap.size w2 w3 := by rw [← hw3]; exact (Below.refl _ _).alloc (Nat.le_refl _) _
        have h3 : w3.heap[w2.heap.size]? = some (.cells #[.int .i64 at_, .int .i64 (er : Nat)] 29 (0, 0)) := by rw [← hw3]; exact (MapKept.heap_alloc w2 _).1
        have p0 := cell9_blk h3 0 rfl
        have p1 := cell9_blk h3 1 rfl
        have hs2 := hg2.size
        have hsv := HV.out.1.size
        have hg0 := (hb3.block g (by omega)).trans ((hg2.block g (by omega) (fun e => by injection e with e; exact hgm e)).trans ((HV.out.1.block g (by omega)).trans HH.out.2.2.2.1))
        have z0 := cell9_blk hg0 0 rfl
        have z1 := cell9_blk hg0 1 rfl
        have y0 := frz9_blk hg0 0
        have y1 := frz9_blk hg0 1
        have H3 := Lib.hid (And.intro hg0 (And.intro hg2 hb3))
        clear hb3 h3 hg0 hg2
        go_wp2_with fail
        refine bodyPost_ret (results_cellO rfl _ _ g _ #[.int .i64 at_, .int .i64 (er : Nat)] (0, 0) _ rfl (set2P H3.out.1) Tryz.underlying29 rfl (by kernel_rfl)) rfl ?_
        exact ⟨rfl, grown_set2 HW.out.1 ((HH.out.2.2.2.2.trans (grow_ofB HV.out.1 _)).trans H3.out.2.1) H3.out.2.2 (by omega), fun h => by cases h⟩
      | none =>
        rw [hr1] at HTN HH
        unfold LkE plV at HTN
        dsimp only at HTN
        have hown : ownF b nmR = b.2.2.find? fun f => f.2.1 == nmR := rfl
        have hrgR : wrgN.wrgR b = match (b.2.2.find? fun f => f.2.1 == nmR) with
          | some g => if (flagT g.2.2).2 ≠ 0 then some (g.1, (flagT g.2.2).2) else none
          | none => none := rfl
        rw [hrgR, Option.none_or] at HH
        clear hrgR hreg hown
        cases ho : b.2.2.find? (fun f => f.2.1 == nmR) with
        | none =>
          rw [ho] at HFR HH
          dsimp only [Option.isSome_none, fdO] at HFR HH
          clear ho hno
          go_wp2_with fail
          with_reducible refine HTN.out.mono ?_
          rintro e w2 ⟨rfl, hg2, hT2⟩
          have hb3 : Below w2.heap.size w2 (w2.alloc (.cells #[.int .i64 0, .int .i64 0] 29)) := (Below.refl _ _).alloc (Nat.le_refl _) _
          have hs2 := hg2.size
          have hsv := HV.out.1.size
          have hbk := (hb3.block _ (Nat.lt_of_lt_of_le (blk9_lt HV.out.2.1) hs2)).trans ((hg2.block _ (blk9_lt HV.out.2.1) (fun e => by injection e with e; omega)).trans HV.out.2.1)
          have d0 := cell9_blk hbk 0 rfl
          have d1 := cell9_blk hbk 1 rfl
          have d2 := cell9_blk hbk 2 rfl
          have hbw3 : Below W0.heap.size W0 (w2.alloc (.cells #[.int .i64 0, .int .i64 0] 29)) := grown_belowW (grown_belowW HV.out.2.2.1 hg2 (fun k e => by injection e with e; omega)) (grow_ofB hb3 (some mb)) (fun k e => by injection e with e; omega)
          have H3 := Lib.hid (And.intro hg2 (And.intro hb3 (And.intro hT2 hbw3)))
          clear hg2 hb3 hT2 hbk hbw3
          go_wp2_with fail
          with_reducible refine (HFR.out _ H3.out.2.2.2 (HV.out.2.2.2.below H3.out.2.2.2)).mono ?_
          rintro e w4 ⟨rfl, hb4⟩
          have H4 := Lib.hid hb4
          clear hb4
          go_wp2_with fail
          have hb5 : Below (w2.alloc (.cells #[.int .i64 0, .int .i64 0] 29)).heap.size (w2.alloc (.cells #[.int .i64 0, .int .i64 0] 29)) (w4.alloc (.cells #[.int .i64 0, .string { data := #[] }, .string { data := #[] }] 45)) := H4.out.alloc H4.out.size _
          have hgf : w1.grownBy (w4.alloc (.cells #[.int .i64 0, .string { data := #[] }, .string { data := #[] }] 45)) (some mb) := (((HH.out.2.2.2.2.trans (grow_ofB HV.out.1 _)).trans H3.out.1).trans (grow_ofB H3.out.2.1 _)).trans (grow_ofB hb5 _)
          exact ⟨⟨k + 1, hlk, by go_num, hgf, ((H3.out.2.2.1 (by trivial)).below H3.out.2.1).below hb5, HH.out.2.2.1 HH.out.1⟩, by simp [intOf]; omega⟩
        | some f =>
          have hfm : f ∈ b.2.2 := List.mem_of_find?_eq_some ho
          have hfl := (hf b hbm).2.2 f hfm
          rw [ho] at HFR HH
          dsimp only [Option.isSome_some, fdO] at HFR HH
          have HFg := Lib.hid (fun W => flag_any f.2.2 W)
          unfold FlagE at HFg
          obtain ⟨FV, hFV⟩ : ∃ x, str f.2.2 = x := ⟨_, rfl⟩
          obtain ⟨FN, hFN⟩ : ∃ x, str f.2.1 = x := ⟨_, rfl⟩
          rw [hFV] at HFR HFg
          rw [hFN] at HFR
          obtain ⟨Q, hQ⟩ : ∃ Q, flagT f.2.2 = Q := ⟨_, rfl⟩
          rw [hQ] at HFg HH
          obtain ⟨fb, fe⟩ := Q
          dsimp only at HFg HH
          clear ho hFV hFN hQ hfm hfl
          by_cases hfe : fe = 0
          · subst hfe
            rw [errE_zero] at HFg
            rw [if_neg (by simp)] at HH
            clear hno
            go_wp2_with fail
            with_reducible refine HTN.out.mono ?_
            rintro e w2 ⟨rfl, hg2, hT2⟩
            have hb3 : Below w2.heap.size w2 (w2.alloc (.cells #[.int .i64 0, .int .i64 0] 29)) := (Below.refl _ _).alloc (Nat.le_refl _) _
            have hs2 := hg2.size
            have hsv := HV.out.1.size
            have hbk := (hb3.block _ (Nat.lt_of_lt_of_le (blk9_lt HV.out.2.1) hs2)).trans ((hg2.block _ (blk9_lt HV.out.2.1) (fun e => by injection e with e; omega)).trans HV.out.2.1)
            have d0 := cell9_blk hbk 0 rfl
            have d1 := cell9_blk hbk 1 rfl
            have d2 := cell9_blk hbk 2 rfl
            have hbw3 : Below W0.heap.size W0 (w2.alloc (.cells #[.int .i64 0, .int .i64 0] 29)) := grown_belowW (grown_belowW HV.out.2.2.1 hg2 (fun k e => by injection e with e; omega)) (grow_ofB hb3 (some mb)) (fun k e => by injection e with e; omega)
            have H3 := Lib.hid (And.intro hg2 (And.intro hb3 (And.intro hT2 hbw3)))
            clear hg2 hb3 hT2 hbk hbw3
            go_wp2_with fail
            with_reducible refine (HFR.out _ H3.out.2.2.2 (HV.out.2.2.2.below H3.out.2.2.2)).mono ?_
            rintro e w4 ⟨rfl, hb4⟩
            obtain ⟨w5, hw5⟩ : ∃ x, w4.alloc (.cells #[.int .i64 f.1, .string FN, .string FV] 45) = x := ⟨_, rfl⟩
            have hb5 : Below (w2.alloc (.cells #[.int .i64 0, .int .i64 0] 29)).heap.size (w2.alloc (.cells #[.int .i64 0, .int .i64 0] 29)) w5 := by rw [← hw5]; exact hb4.alloc hb4.size _
            have h5 : w5.heap[w4.heap.size]? = some (.cells #[.int .i64 f.1, .string FN, .string FV] 45 (0, 0)) := by rw [← hw5]; exact (MapKept.heap_alloc w4 _).1
            have f2 := cell9_blk h5 2 rfl
            have H5 := Lib.hid hb5
            clear hb5 hb4 h5
            go_wp2_with fail
            with_reducible refine (HFg.out _).mono ?_
            rintro e w6 ⟨rfl, hb6⟩
            have H6 := Lib.hid (H5.out.trans (hb6.mono H5.out.size))
            clear hb6
            go_wp2_with fail
            have hgf : w1.grownBy w6 (some mb) := (((HH.out.2.2.2.2.trans (grow_ofB HV.out.1 _)).trans H3.out.1).trans (grow_ofB H3.out.2.1 _)).trans (grow_ofB H6.out _)
            exact ⟨⟨k + 1, hlk, by go_num, hgf, ((H3.out.2.2.1 (by trivial)).below H3.out.2.1).below H6.out, HH.out.2.2.1 HH.out.1⟩, by simp [intOf]; omega⟩
          · rw [if_pos hfe] at HH
            have heE : errE fe = errK (fe : Nat) := if_neg hfe
            rw [heE] at HFg
            obtain rfl : R = some (f.1, fe) := by rw [← HRR.out]; exact HH.out.2.1 _ HH.out.1
            have HWr := Lib.hid (fun W h => wrong_any f.1 (fe : Nat) W h)
            unfold errK at HWr HFg
            clear hno heE HRR
            go_wp2_with fail
            with_reducible refine HTN.out.mono ?_
            rintro e w2 ⟨rfl, hg2, hT2⟩
            have hb3 : Below w2.heap.size w2 (w2.alloc (.cells #[.int .i64 0, .int .i64 0] 29)) := (Below.refl _ _).alloc (Nat.le_refl _) _
            have hs2 := hg2.size
            have hsv := HV.out.1.size
            have hbk := (hb3.block _ (Nat.lt_of_lt_of_le (blk9_lt HV.out.2.1) hs2)).trans ((hg2.block _ (blk9_lt HV.out.2.1) (fun e => by injection e with e; omega)).trans HV.out.2.1)
            have d0 := cell9_blk hbk 0 rfl
            have d1 := cell9_blk hbk 1 rfl
            have d2 := cell9_blk hbk 2 rfl
            have hbw3 : Below W0.heap.size W0 (w2.alloc (.cells #[.int .i64 0, .int .i64 0] 29)) := grown_belowW (grown_belowW HV.out.2.2.1 hg2 (fun k e => by injection e with e; omega)) (grow_ofB hb3 (some mb)) (fun k e => by injection e with e; omega)
            have H3 := Lib.hid (And.intro hg2 (And.intro hb3 (And.intro hT2 hbw3)))
            clear hg2 hb3 hT2 hbk hbw3
            go_wp2_with fail
            with_reducible refine (HFR.out _ H3.out.2.2.2 (HV.out.2.2.2.below H3.out.2.2.2)).mono ?_
            rintro e w4 ⟨rfl, hb4⟩
            obtain ⟨w5, hw5⟩ : ∃ x, w4.alloc (.cells #[.int .i64 f.1, .string FN, .string FV] 45) = x := ⟨_, rfl⟩
            have hb5 : Below (w2.alloc (.cells #[.int .i64 0, .int .i64 0] 29)).heap.size (w2.alloc (.cells #[.int .i64 0, .int .i64 0] 29)) w5 := by rw [← hw5]; exact hb4.alloc hb4.size _
            have h5 : w5.heap[w4.heap.size]? = some (.cells #[.int .i64 f.1, .string FN, .string FV] 45 (0, 0)) := by rw [← hw5]; exact (MapKept.heap_alloc w4 _).1
            have f2 := cell9_blk h5 2 rfl
            have H5 := Lib.hid (And.intro hb5 h5)
            clear hb5 hb4 h5
            go_wp2_with fail
            with_reducible refine (HFg.out _).mono ?_
            rintro e w6 ⟨rfl, hb6⟩
            have f0 := cell9_blk ((hb6.block _ (blk9_lt H5.out.2)).trans H5.out.2) 0 rfl
            have H6 := Lib.hid (H5.out.1.trans (hb6.mono H5.out.1.size))
            clear hb6
            go_wp2_with fail
            have hE6 : Below W0.heap.size W0 w6 := H3.out.2.2.2.trans (H6.out.mono H3.out.2.2.2.size)
            with_reducible refine (HWr.out _ (HW.out.2.2.2.2.2.below hE6)).mono ?_
            rintro e w7 ⟨rfl, hb7⟩
            have hb37 := H6.out.trans (hb7.mono H6.out.size)
            have hs3 := H3.out.2.1.size
            have hg0 := (hb37.block g (by omega)).trans ((H3.out.2.1.block g (by omega)).trans ((H3.out.1.block g (by omega) (fun e => by injection e with e; exact hgm e)).trans ((HV.out.1.block g (by omega)).trans HH.out.2.2.2.1)))
            have z0 := cell9_blk hg0 0 rfl
            have z1 := cell9_blk hg0 1 rfl
            have y0 := frz9_blk hg0 0
            have y1 := frz9_blk hg0 1
            have H7 := Lib.hid (And.intro hg0 hb37)
            clear hb7 hb37 hg0 hE6
            unfold plV
            go_wp2_with fail
            refine bodyPost_ret (results_cellO rfl _ _ g _ #[.int .i64 f.1, .int .i64 (fe : Nat)] (0, 0) _ rfl (set2P H7.out.1) Tryz.underlying29 rfl (by kernel_rfl)) rfl ?_
            exact ⟨rfl, grown_set2 HW.out.1 (((HH.out.2.2.2.2.trans (grow_ofB HV.out.1 _)).trans H3.out.1).trans (grow_ofB H3.out.2.1 _)) H7.out.2 (by omega), fun h => by cases h⟩
    · obtain rfl : k = n := by omega
      have hfin : fstB (wrgN l) 0 l = none := fstB_none l 0 (fun j c hc => by rw [Nat.zero_add]; exact hno j c (by have := (List.getElem?_eq_some_iff.1 hc).1; omega) hc)
      have htk : l.take k = l := List.take_of_length_le (by omega)
      rw [htk] at hTk
      obtain rfl : R = none := by rw [← HRR.out]; exact hfin
      have HF := Lib.hid (And.intro hTk hgr)
      have hsz := hgr.size
      have BR := Lib.hid bR
      clear hTk hgr hfin htk hno bR HRR
      go_wp2_with fail
      with_reducible refine (right_any _).mono ?_
      rintro e w8 ⟨rfl, hb8⟩
      have h8 := (hb8.block g (blk9_lt BR.out)).trans BR.out
      have z0 := cell9_blk h8 0 rfl
      have z1 := cell9_blk h8 1 rfl
      have y0 := frz9_blk h8 0
      have y1 := frz9_blk h8 1
      have H8 := Lib.hid (And.intro h8 hb8)
      clear h8 hb8
      unfold plV
      go_wp2_with fail
      refine bodyPost_ret (results_cellO rfl _ _ g _ #[.int .i64 0, .int .i64 0] (0, 0) _ rfl (set2P H8.out.1) Tryz.underlying29 rfl (by kernel_rfl)) rfl ?_
      exact ⟨rfl, grown_set2 HW.out.1 (HF.out.2) H8.out.2 (by omega), (HF.out.1.below H8.out.2).block (set2_other (fun e => hgm e.symm))⟩
end Go.Proofs.YthnogakjaaopkaaGreatDoor

/- Plain: with each item's groups written into the groups' members (law GroupSame). -/
import Derived.Test.YtkfnbapnkmlopaaDoorGpHu
namespace Go.Proofs.YtkfnbapnkmlopaaDoor

/-- The names that the items write into the group n. -/
def wrI (n : Tx) (b : Itm) : List Tx := (b.2.filter fun s => decide (s = n)).map fun _ => b.1
def wrT (n : Tx) (x : List Itm) : List Tx := x.flatMap (wrI n)
def cS (x : List Itm) (a : Grp) : Grp := (a.1, a.2.1 ++ wrT a.1 x, a.2.2)
def dS (b : Itm) : Itm := (b.1, [])
theorem wrT_take {n : Tx} {x : List Itm} {k : Nat} {b : Itm} (h : x[k]? = some b) : wrT n (x.take (k + 1)) = wrT n (x.take k) ++ wrI n b := by
  obtain ⟨hk, e⟩ := List.getElem?_eq_some_iff.1 h
  unfold wrT
  rw [List.take_succ_eq_append_getElem hk, e]
  simp
/-- Of an item's first j words. -/
def wrJ (n : Tx) (b : Itm) (j : Nat) : List Tx := ((b.2.take j).filter fun s => decide (s = n)).map fun _ => b.1
theorem wrJ_succ {n s : Tx} {b : Itm} {j : Nat} (h : b.2[j]? = some s) : wrJ n b (j + 1) = wrJ n b j ++ (if s = n then [b.1] else []) := by
  obtain ⟨hk, e⟩ := List.getElem?_eq_some_iff.1 h
  unfold wrJ
  rw [List.take_succ_eq_append_getElem hk, e, List.filter_append, List.map_append]
  congr 1
  by_cases hs : s = n
  · rw [if_pos hs]
    simp [hs]
  · rw [if_neg hs]
    simp [hs]
theorem wrJ_all {n : Tx} {b : Itm} {j : Nat} (h : b.2.length ≤ j) : wrJ n b j = wrI n b := by
  unfold wrJ wrI
  rw [List.take_of_length_le h]
theorem wrJ_len (n : Tx) (b : Itm) (j : Nat) : (wrJ n b j).length ≤ j := by
  unfold wrJ
  rw [List.length_map]
  exact Nat.le_trans (List.length_filter_le _ _) (by rw [List.length_take]; omega)
theorem wrI_len (n : Tx) (b : Itm) : (wrI n b).length ≤ b.2.length := by
  unfold wrI
  rw [List.length_map]
  exact List.length_filter_le _ _
theorem wrT_len : ∀ (n : Tx) (x : List Itm), smX x ≤ 200 → (wrT n x).length ≤ smX x
  | _, [], _ => by simp [wrT]
  | n, b :: x, h => by
    have e : smX (b :: x) = wtX b + smX x := by simp [smX]
    have h1 := wrT_len n x (by omega)
    have h2 := wrI_len n b
    have h3 : b.2.length ≤ wtX b := by
      have h4 : wtX b ≤ 200 := by omega
      unfold wtX at h4 ⊢
      omega
    have e2 : wrT n (b :: x) = wrI n b ++ wrT n x := by simp [wrT]
    rw [e2, List.length_append]
    omega
theorem wrI_mem {n s : Tx} {b : Itm} : s ∈ wrI n b ↔ s = b.1 ∧ n ∈ b.2 := by
  unfold wrI
  rw [List.mem_map]
  constructor
  · rintro ⟨a, ha, rfl⟩
    rw [List.mem_filter, decide_eq_true_iff] at ha
    exact ⟨rfl, ha.2 ▸ ha.1⟩
  · rintro ⟨rfl, h⟩
    exact ⟨n, List.mem_filter.2 ⟨h, decide_eq_true rfl⟩, rfl⟩
theorem wrT_mem {n s : Tx} {x : List Itm} : s ∈ wrT n x ↔ ∃ b ∈ x, s = b.1 ∧ n ∈ b.2 := by
  unfold wrT
  rw [List.mem_flatMap]
  exact ⟨fun ⟨b, hb, h⟩ => ⟨b, hb, wrI_mem.1 h⟩, fun ⟨b, hb, h⟩ => ⟨b, hb, wrI_mem.2 h⟩⟩
section
variable {g : List Grp} {x : List Itm}
theorem gN_cS : gN (g.map (cS x)) = gN g := by simp [gN, cS, Function.comp_def]
theorem iN_dS : iN (x.map dS) = iN x := by simp [iN, dS, Function.comp_def]
theorem eG_cS (i : Nat) : eG (g.map (cS x)) i = eG g i := by
  by_cases h : i < g.length
  · have h1 : g[i]? = some g[i] := List.getElem?_eq_getElem h
    rw [eG_at h1, eG_at (g := g.map (cS x)) (a := cS x g[i]) (by rw [List.getElem?_map, h1]; rfl), gN_cS]
    rfl
  · rw [eG_out (g := g) (by omega), eG_out (g := g.map (cS x)) (by rw [List.length_map]; omega)]
theorem wyG_cS : wyG (g.map (cS x)) = wyG g := by
  unfold wyG
  rw [List.length_map]
  congr 1
  funext i
  rw [eG_cS]
theorem smG_len {a : Grp} (ha : a ∈ g) (h : smG g ≤ 200) : a.2.1.length ≤ 200 ∧ a.2.2.length ≤ 200 := by
  have h1 := smG_mem ha
  unfold wtG at h1
  omega
theorem okS (h : OkG g x) (hg : g.length ≤ 30) (hx : x.length ≤ 30) (hs : smG g + smX x ≤ 200) : OkG (g.map (cS x)) (x.map dS) where
  full := by
    unfold fullG
    rw [List.length_map, List.length_map, decide_eq_false (by omega), decide_eq_false (by omega), List.any_map, List.any_map, Bool.false_or, Bool.false_or]
    have h1 : g.any ((fun a => decide (4096 < a.2.1.length) || decide (4096 < a.2.2.length)) ∘ cS x) = false := by
      rw [List.any_eq_false]
      intro a ha
      have h2 := smG_len ha (by omega)
      have h3 := wrT_len a.1 x (by omega)
      have h4 : ¬ 4096 < (cS x a).2.1.length := by unfold cS; dsimp only; rw [List.length_append]; omega
      have h5 : ¬ 4096 < (cS x a).2.2.length := by unfold cS; dsimp only; omega
      simp [h4, h5]
    rw [h1, Bool.false_or, List.any_eq_false]
    intro b hb
    simp [dS]
  tg := by
    intro i hi
    rw [gN_cS]
    exact h.tg i (by rw [List.length_map] at hi; exact hi)
  ti := fun i hi => by
    rw [iN_dS]
    exact h.ti i (by rw [List.length_map] at hi; exact hi)
  no := fun i hi => by
    rw [List.length_map] at hi
    have h1 := h.no i hi
    have h2 : g[i]? = some g[i] := List.getElem?_eq_getElem hi
    unfold nonB at h1 ⊢
    rw [h2] at h1
    rw [List.getElem?_map, h2, gN_cS, iN_dS, Option.map_some, Option.any_some, Bool.or_eq_false_iff]
    rw [Option.any_some, Bool.or_eq_false_iff] at h1
    refine ⟨?_, h1.2⟩
    have e : (cS x g[i]).2.1 = g[i].2.1 ++ wrT g[i].1 x := rfl
    rw [e, List.any_append, h1.1, Bool.false_or, List.any_eq_false]
    intro s hs
    obtain ⟨b, hb, rfl, _⟩ := wrT_mem.1 hs
    have hm : b.1 ∈ iN x := List.mem_map.2 ⟨b, hb, rfl⟩
    have := ixI_mem.2 hm
    simp only [decide_eq_true_eq]
    omega
  ni := fun i hi => by
    rw [List.length_map] at hi
    have h2 : x[i]? = some x[i] := List.getElem?_eq_getElem hi
    unfold noiB
    rw [List.getElem?_map, h2]
    rfl
  lp := fun i hi => by
    rw [wyG_cS]
    exact h.lp i (by rw [List.length_map] at hi; exact hi)
theorem dirS (h : OkG g x) (j k : Nat) : dirB (g.map (cS x)) (x.map dS) j k = dirB g x j k := by
  unfold dirB
  rw [List.getElem?_map, List.getElem?_map]
  cases hj : g[j]? with
  | none => rfl
  | some a =>
    cases hk : x[k]? with
    | none => rfl
    | some b =>
      simp only [Option.map_some, Option.any_some]
      have e : (cS x a).2.1 = a.2.1 ++ wrT a.1 x := rfl
      have e2 : (dS b).1 = b.1 := rfl
      have e3 : (dS b).2 = [] := rfl
      rw [e, e2, e3, Bool.eq_iff_iff]
      simp only [Bool.or_eq_true, List.contains_iff_mem, List.mem_append]
      constructor
      · rintro ((h1 | h1) | h1)
        · exact .inl h1
        · obtain ⟨b', hb', e', hn⟩ := wrT_mem.1 h1
          obtain ⟨k', hk', ek⟩ := List.mem_iff_getElem.1 hb'
          have hnd := twB_no (L := iN x) fun i hi => h.ti i (by rw [iN, List.length_map] at hi; exact hi)
          have g1 : (iN x)[k]? = some b.1 := by unfold iN; rw [List.getElem?_map, hk]; rfl
          have g2 : (iN x)[k']? = some b.1 := by unfold iN; rw [List.getElem?_map, List.getElem?_eq_getElem hk', ek, e']; rfl
          have hkl := (List.getElem?_eq_some_iff.1 g1).1
          have : k = k' := (List.getElem?_inj hkl hnd).1 (by rw [g1, g2])
          subst this
          rw [List.getElem?_eq_getElem hk', ek] at hk
          injection hk with hk
          subst hk
          exact .inr hn
        · cases h1
      · rintro (h1 | h1)
        · exact .inl (.inl h1)
        · exact .inl (.inr (wrT_mem.2 ⟨b, List.mem_of_getElem? hk, rfl, h1⟩))
theorem memS (h : OkG g x) (i k : Nat) : memB (g.map (cS x)) (x.map dS) i k ↔ memB g x i k := by
  unfold memB
  rw [wyG_cS]
  constructor
  · rintro ⟨j, hj, hd⟩
    exact ⟨j, hj, by rw [dirS h] at hd; exact hd⟩
  · rintro ⟨j, hj, hd⟩
    exact ⟨j, hj, by rw [dirS h]; exact hd⟩
open Classical in
theorem exS (h : OkG g x) : exG (g.map (cS x)) (x.map dS) = exG g x := by
  unfold exG
  rw [List.length_map]
  refine List.map_congr_left fun i _ => ?_
  unfold memL
  rw [List.length_map]
  refine List.filter_congr fun k _ => ?_
  rw [Bool.eq_iff_iff, decide_eq_true_iff, decide_eq_true_iff]
  exact memS h i k
/-- A group has all members of its groups. -/
theorem memS_up (h : OkG g x) {i j k q : Nat} {a b : Grp} (hi : g[i]? = some a) (hj : g[j]? = some b) (hk : a.2.2[k]? = some b.1) (hq : q ∈ memL g x j) : q ∈ memL g x i := by
  obtain ⟨h1, h2⟩ := memL_mem.1 hq
  refine memL_mem.2 ⟨h1, memB_up ?_ h2⟩
  rw [eG_at hi]
  refine List.mem_map.2 ⟨b.1, List.mem_of_getElem? hk, ?_⟩
  have hnd := twB_no (L := gN g) fun i hi => h.tg i (by rw [gN, List.length_map] at hi; exact hi)
  have g1 : (gN g)[j]? = some b.1 := by unfold gN; rw [List.getElem?_map, hj]; rfl
  have : ixI (gN g) b.1 = j := ixI_hit g1 fun p hp e => by
    have hpl := (List.getElem?_eq_some_iff.1 e).1
    have : p = j := (List.getElem?_inj hpl hnd).1 (e.trans g1.symm)
    omega
  rw [this]
  rfl
end
end Go.Proofs.YtkfnbapnkmlopaaDoor

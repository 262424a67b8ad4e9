/- Contracts: check's closures: a name twice. -/
import Derived.Test.YtbeehedppofpnaaGreatDoorBkCk
namespace Go.Proofs.YtbeehedppofpnaaGreatDoor
open Go.RowKit Go.Maps

/-- ContainsFunc of fields, by a closure that answers p k and keeps I; R: what stays. -/
theorem containsFR {v : Value} {L : List MF} (g : FuncId) (caps : Array Value) (w : World) (eg : Ent1 g) (p : Nat → Bool) (I : Nat → World → Prop) (R : World → Prop) (hl : L.length ≤ 1000000) (hv : RowF w v L) (h0 : I 0 w) (hI : ∀ k W, I k W → R W) (hR : ∀ W, R W → RowF W v L)
    (hp : ∀ k f W, L[k]? = some f → I k W → Calls Tryz.prog g (#[.agg #[.int .i64 f.1, .string (str f.2.1), .string (str f.2.2)]] ++ caps) W fun e W' => e = .returned (.bool (p k)) ∧ R W' ∧ (p k = false → I (k + 1) W')) :
    Calls Tryz.prog 46 #[v, .func (.func g) #[] caps] w fun e w' => e = .returned (.bool ((List.range L.length).any p)) ∧ R w' := by
  obtain ⟨A, c, rfl, hr⟩ := hv.form
  have HX := Lib.hid (indexF A L.length c g caps w eg (fun k => L.getD k (0, [], [])) (fun k W => I k W ∧ ∀ j, j < k → p j = false) (fun k W => R W ∧ p k = true) (fun k W hk hW => by
    have hgd : L[k]? = some (L.getD k (0, [], [])) := by rw [List.getD_eq_getElem?_getD, List.getElem?_eq_getElem hk]; rfl
    obtain ⟨ad, X, e1, e2, e3, e4, e5⟩ := (hR W (hI k W hW.1)).parts.2.2.2 k hk _ hgd
    exact ⟨ad, X, e1, e2, e3, e4, e5⟩) (fun k W hk hW => by
    have hgd : L[k]? = some (L.getD k (0, [], [])) := by rw [List.getD_eq_getElem?_getD, List.getElem?_eq_getElem hk]; rfl
    refine (hp k _ W hgd hW.1).mono ?_
    rintro e W' ⟨rfl, hb, hi⟩
    cases hpk : p k
    · exact .inr ⟨rfl, hi hpk, fun j hj => by
        rcases Nat.lt_succ_iff_lt_or_eq.1 hj with h | h
        · exact hW.2 j h
        · rw [h]; exact hpk⟩
    · exact .inl ⟨rfl, hb, rfl⟩) ⟨h0, fun j hj => absurd hj (Nat.not_lt_zero j)⟩ hl)
  have HF := Lib.hid hI
  have hno : ∀ W, (I L.length W ∧ ∀ j, j < L.length → p j = false) → (List.range L.length).any p = false := fun W h => by
    rw [List.any_eq_false]
    intro j hj
    rw [h.2 j (List.mem_range.1 hj)]
    simp
  have hyes : ∀ k, k < L.length → p k = true → (List.range L.length).any p = true := fun k hk h => List.any_eq_true.2 ⟨k, List.mem_range.2 hk, h⟩
  have HN := Lib.hid (And.intro hno hyes)
  clear hno hyes hp h0 hI hl hv hr hR eg
  obtain ⟨n, hn⟩ : ∃ n, L.length = n := ⟨_, rfl⟩
  rw [hn] at HX HN ⊢
  clear hn
  go_enter Tryz.func46, Tryz.ntmps46
  go_wp2_with fail
  refine HX.out.mono ?_
  rintro e w' (⟨k, hk, rfl, hj⟩ | ⟨rfl, hi⟩)
  · have HJ := Lib.hid (And.intro hk hj)
    clear hj hk
    go_wp2_with fail
    go_ret
    exact ⟨ret_bool8 (HN.out.2 k HJ.out.1 HJ.out.2.2).symm, HJ.out.2.1⟩
  · have HJ := Lib.hid hi
    clear hi
    go_wp2_with fail
    go_ret
    exact ⟨ret_bool8 (HN.out.1 _ HJ.out).symm, HF.out _ _ HJ.out.1⟩
theorem range_twice (L : List MF) : ∀ k, k ≤ L.length → (List.range k).any (fun i => (L.take i).any fun g => g.2.1 == (L.getD i (0, [], [])).2.1) = twice ((L.take k).map zF)
  | 0, _ => rfl
  | k + 1, hk => by
    have hgd : L.getD k (0, [], []) = L[k] := by rw [List.getD_eq_getElem?_getD, List.getElem?_eq_getElem (by omega)]; rfl
    rw [List.range_succ, List.any_append, range_twice L k (by omega), List.take_succ_eq_append_getElem (by omega), List.map_append, List.map_cons, List.map_nil, twice_snoc, List.any_map]
    simp only [List.any_cons, List.any_nil, Bool.or_false, hgd]
    rfl
theorem got_iput (k : Bs) (c : Int) (V : List (Bs × Pay)) : ((got k (put k (cnt9 c) V)).getD (cnt9 0)).1 = .int .i64 c := by rw [got_put]; rfl
/-- What hasTwice's closure answers. -/
def Tw1 (W : World) (mb : Nat) (L : List Tx) (F : Tx) (e : Ending) (w' : World) : Prop :=
  e = .returned (.bool (L.any (· == F))) ∧ (∃ W1, Below W.heap.size W W1 ∧ W1.grownBy w' (some mb)) ∧ (L.any (· == F) = false → NmIs w' mb (L ++ [F]))
theorem tw1 {W w1 w' : World} {mb : Nat} {L : List Tx} {F : Tx} {B : Bool} (h : L.any (· == F) = B) (h1 : Below W.heap.size W w1) (h2 : w1.grownBy w' (some mb)) (h3 : L.any (· == F) = false → NmIs w' mb (L ++ [F])) : Tw1 W mb L F (.returned (.bool B)) w' :=
  ⟨by rw [h], ⟨w1, h1, h2⟩, h3⟩
set_option maxHeartbeats 1000000 in
set_option maxRecDepth 100000 in
theorem twice1_any (f : MF) (L : List Tx) (cb mb : Nat) (W : World) (hf : f.2.1.length ≤ 1000000) (hL : L.length ≤ 100000) (hne : cb ≠ mb) (hc : W.heap[cb]? = some (.cells #[.map (some mb)] 53 (0, 0))) (hm : NmIs W mb L) :
    Calls Tryz.prog 70 #[fdV f, .pointer (some ⟨cb, 0, none⟩)] W (Tw1 W mb L f.2.1) := by
  unfold fdV
  generalize f.1 = a at *
  generalize f.2.1 = F at *
  generalize str f.2.2 = X at *
  obtain ⟨S, h1⟩ : ∃ x, str F = x := ⟨_, rfl⟩
  have HSF := Lib.hid h1
  rw [h1]
  clear h1
  have hcl := blk9_lt hc
  have hml := hm.lt
  obtain ⟨w1, hw1⟩ : ∃ x, W.alloc (.cells #[.int .i64 a, .string S, .string X] 48) = x := ⟨_, rfl⟩
  have hb1 : Below W.heap.size W w1 := by rw [← hw1]; exact (Below.refl _ _).alloc (Nat.le_refl _) _
  have hbx : w1.heap[W.heap.size]? = some (.cells #[.int .i64 a, .string S, .string X] 48 (0, 0)) := by rw [← hw1]; exact (MapKept.heap_alloc W _).1
  have hc1 : w1.heap[cb]? = some (.cells #[.map (some mb)] 53 (0, 0)) := (hb1.block _ hcl).trans hc
  obtain ⟨V, hV1, hV2, hV3, hV4⟩ := (hm.below hb1).at_ F
  have HV := Lib.hid (And.intro hV1 (And.intro hV2 hV4))
  have hlook := hV1.look (k := F) hf
  rw [hV3, HSF.out] at hlook
  have HK := Lib.hid (And.intro hf (And.intro hL (And.intro hb1 (And.intro hbx hc1))))
  have HC2 : Hid (∀ w3 : World, w1.grownBy w3 (some mb) → w3.cell? ⟨cb, 0, none⟩ = some (.map (some mb)) ∧ w3.cell? ⟨W.heap.size, 1, none⟩ = some (.string S)) := fun w3 hg => by
    have hs := hb1.size
    have hbl := blk9_lt hbx
    exact ⟨cell9_blk ((hg.block cb (by omega) (by simp; exact hne)).trans hc1) 0 rfl, cell9_blk ((hg.block _ hbl (by simp; omega)).trans hbx) 1 rfl⟩
  have k1 := cell9_blk hc1 0 (v := .map (some mb)) rfl
  have k2 := cell9_blk hbx 1 (v := .string S) rfl
  clear hV1 hV2 hV3 hV4 hf hL hb1 hbx hc1 hc hm hcl hml hne
  cases hq : L.any (· == F)
  · rw [hq] at hlook
    have HQ := Lib.hid hq
    change _ = Result.ok (Value.int .i64 0) w1 at hlook
    clear hq
    go_enter Tryz.func70, Tryz.ntmps70
    go_wp2_with
      (at_mapUpdate
       refine wpList_iput rfl _ _ _ rfl mb V rfl HV.out.1 (by have h1 := HV.out.2.1; have h2 := HK.out.2.1; omega) F (cnt9 1) (by rw [HSF.out]; rfl) rfl HK.out.1 ?_
       intro w3 hm hg
       have HM := Lib.hid (And.intro hm hg)
       clear hm hg
       obtain ⟨m1, m2⟩ := HC2.out _ HM.out.2
       have hl2 := HM.out.1.look (k := F) HK.out.1
       rw [got_iput, HSF.out] at hl2)
    go_ret
    exact tw1 HQ.out HK.out.2.2.1 HM.out.2 fun h => HV.out.2.2 _ HM.out.1 h
  · rw [hq] at hlook
    have HQ := Lib.hid hq
    change _ = Result.ok (Value.int .i64 1) w1 at hlook
    clear hq
    go_enter Tryz.func70, Tryz.ntmps70
    go_wp2_with
      (at_mapUpdate
       refine wpList_iput rfl _ _ _ rfl mb V rfl HV.out.1 (by have h1 := HV.out.2.1; have h2 := HK.out.2.1; omega) F (cnt9 2) (by rw [HSF.out]; rfl) rfl HK.out.1 ?_
       intro w3 hm hg
       have HM := Lib.hid (And.intro hm hg)
       clear hm hg
       obtain ⟨m1, m2⟩ := HC2.out _ HM.out.2
       have hl2 := HM.out.1.look (k := F) HK.out.1
       rw [got_iput, HSF.out] at hl2)
    go_ret
    exact tw1 HQ.out HK.out.2.2.1 HM.out.2 fun h => absurd (HQ.out.symm.trans h) (by decide)
/-- The world in which hasTwice asks. -/
theorem twWorld (w : World) (o : Obj) : Below w.heap.size w (((w.alloc o).alloc (.map #[] 0)).alloc (.cells #[.map (some (w.heap.size + 1))] 53)) ∧
    (((w.alloc o).alloc (.map #[] 0)).alloc (.cells #[.map (some (w.heap.size + 1))] 53)).heap[w.heap.size + 2]? = some (.cells #[.map (some (w.heap.size + 1))] 53 (0, 0)) ∧
    NmIs (((w.alloc o).alloc (.map #[] 0)).alloc (.cells #[.map (some (w.heap.size + 1))] 53)) (w.heap.size + 1) [] := by
  have h1 : (w.alloc o).heap.size = w.heap.size + 1 := World.size_alloc _ _
  have h2 : ((w.alloc o).alloc (.map #[] 0)).heap.size = w.heap.size + 2 := by rw [World.size_alloc, h1]
  refine ⟨(((Below.refl _ _).alloc (Nat.le_refl _) o).alloc (by omega) _).alloc (by omega) _, ?_, ?_⟩
  · have h := (MapKept.heap_alloc ((w.alloc o).alloc (.map #[] 0)) (.cells #[.map (some (w.heap.size + 1))] 53)).1
    rw [h2] at h
    exact h
  · have h := NmIs.made (w.alloc o)
    rw [h1] at h
    exact h.below ((Below.refl _ _).alloc (Nat.le_refl _) _)
theorem entTw : Ent1 70 := enters_of Tryz.func70 (by kernel_rfl) rfl
set_option maxHeartbeats 1000000 in
set_option maxRecDepth 100000 in
theorem hasTwice_any (b : MB) (u : Value) (w : World) (hl : b.2.2.length ≤ 100000) (hn : ∀ f ∈ b.2.2, f.2.1.length ≤ 1000000) (hu : RowF w u b.2.2) :
    Calls Tryz.prog 51 #[.agg #[.int .i64 b.1, .string (str b.2.1), u]] w fun e w' => e = .returned (.bool (twice (b.2.2.map zF))) ∧ Below w.heap.size w w' := by
  have HX : Hid (∀ W, (Below w.heap.size w W ∧ W.heap[w.heap.size + 2]? = some (.cells #[.map (some (w.heap.size + 1))] 53 (0, 0)) ∧ NmIs W (w.heap.size + 1) []) →
      Calls Tryz.prog 46 #[u, .func (.func 70) #[] #[.pointer (some ⟨w.heap.size + 2, 0, none⟩)]] W fun e w' => e = .returned (.bool (twice (b.2.2.map zF))) ∧ Below w.heap.size w w') := fun W hW => by
    have hR : ∀ W', (Below w.heap.size w W' ∧ W'.heap[w.heap.size + 2]? = some (.cells #[.map (some (w.heap.size + 1))] 53 (0, 0))) → RowF W' u b.2.2 := fun W' h => hu.below h.1
    have h := containsFR 70 #[.pointer (some ⟨w.heap.size + 2, 0, none⟩)] W entTw (fun i => (b.2.2.take i).any fun g => g.2.1 == (b.2.2.getD i (0, [], [])).2.1)
      (fun k W' => (Below w.heap.size w W' ∧ W'.heap[w.heap.size + 2]? = some (.cells #[.map (some (w.heap.size + 1))] 53 (0, 0))) ∧ NmIs W' (w.heap.size + 1) ((b.2.2.take k).map fun f => f.2.1))
      (fun W' => Below w.heap.size w W' ∧ W'.heap[w.heap.size + 2]? = some (.cells #[.map (some (w.heap.size + 1))] 53 (0, 0))) (by omega) (hR W ⟨hW.1, hW.2.1⟩) ⟨⟨hW.1, hW.2.1⟩, hW.2.2⟩ (fun _ _ h => h.1) hR (fun k f W' hf hW' => by
        have hkl : k < b.2.2.length := (List.getElem?_eq_some_iff.1 hf).1
        have hfe : b.2.2[k] = f := (List.getElem?_eq_some_iff.1 hf).2
        have hgd : b.2.2.getD k (0, [], []) = f := by rw [List.getD_eq_getElem?_getD, hf]; rfl
        have hany : ((b.2.2.take k).map fun f => f.2.1).any (· == f.2.1) = (b.2.2.take k).any fun g => g.2.1 == (b.2.2.getD k (0, [], [])).2.1 := by rw [List.any_map, hgd]; rfl
        refine (twice1_any f ((b.2.2.take k).map fun f => f.2.1) (w.heap.size + 2) (w.heap.size + 1) W' (hn f (List.mem_of_getElem? hf)) (by rw [List.length_map, List.length_take]; omega) (by omega) hW'.1.2 hW'.2).mono ?_
        rintro e w3 ⟨rfl, ⟨W1, hb, hg⟩, hno⟩
        rw [hany] at hno ⊢
        have hs := blk9_lt hW'.1.2
        have hs1 := hb.size
        have hR3 : Below w.heap.size w w3 ∧ w3.heap[w.heap.size + 2]? = some (.cells #[.map (some (w.heap.size + 1))] 53 (0, 0)) :=
          ⟨(hW'.1.1.trans (hb.mono hW'.1.1.size)).grown hg (by omega) (fun k hk => by injection hk with hk; omega), (hg.block _ (by omega) (by simp)).trans ((hb.block _ hs).trans hW'.1.2)⟩
        refine ⟨rfl, hR3, fun h => ⟨hR3, ?_⟩⟩
        rw [List.take_succ_eq_append_getElem hkl, List.map_append, hfe]
        exact hno h)
    refine h.mono ?_
    rintro e w' ⟨rfl, hb, _⟩
    rw [range_twice _ _ (Nat.le_refl _), List.take_length]
    exact ⟨rfl, hb⟩
  generalize twice (b.2.2.map zF) = B at *
  generalize str b.2.1 = S at *
  generalize b.1 = a at *
  clear hl hn hu
  have hmm := @run_makeMap Tryz.prog
  go_enter Tryz.func51, Tryz.ntmps51
  go_wp2_with fail
  refine (HX.out _ (twWorld w _)).mono ?_
  rintro e w' ⟨rfl, hb⟩
  have HB := Lib.hid hb
  clear hb
  go_wp2_with fail
  go_ret
  exact ⟨rfl, HB.out⟩
end Go.Proofs.YtbeehedppofpnaaGreatDoor

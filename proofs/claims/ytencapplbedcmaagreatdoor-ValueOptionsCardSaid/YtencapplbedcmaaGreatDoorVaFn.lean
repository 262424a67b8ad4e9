/- Contracts: slices.IndexFunc, ContainsFunc at strings, any closure; value's count (parts that are there twice, too many). -/
import Derived.Test.YtencapplbedcmaaGreatDoorVaLib
import Derived.Test.YtencapplbedcmaaGreatDoorBkMap
import Derived.Laws.EntriesVeiled
namespace Go.Proofs.YtencapplbedcmaaGreatDoor
open Go.RowKit Go.Maps

/-- A function of the program's own that can be called by its number. -/
def EntV (g : FuncId) : Prop := ∀ args w, (callFunc g args).run Tryz.prog w = .ok (.enter g args) w
set_option maxRecDepth 100000 in
set_option maxHeartbeats 1000000 in
theorem indexSf (A : Option Addr) (n c : Nat) (g : FuncId) (caps : Array Value) (w : World) (eg : EntV g) (L : List Tx) (hn : L.length = n) (I J : Nat → World → Prop)
    (hI : ∀ k W, k < n → I k W → RdS W A L)
    (hp : ∀ k x W, L[k]? = some x → I k W → Calls Tryz.prog g (#[.string (str x)] ++ caps) W fun e W' => (e = .returned (.bool true) ∧ J k W') ∨ (e = .returned (.bool false) ∧ I (k + 1) W'))
    (h0 : I 0 w) (hl : n ≤ 1000000) :
    Calls Tryz.prog 57 #[.slice A n c, .func (.func g) #[] caps] w fun e w' => (∃ k : Nat, k < n ∧ e = .returned (.int .i64 k) ∧ J k w') ∨ (e = .returned (.int .i64 (-1)) ∧ I n w') := by
  have HI := Lib.hid hI
  have HP := Lib.hid hp
  have H0 := Lib.hid h0
  have HN := Lib.hid hn
  clear hI hp h0 hn
  unfold EntV at eg
  go_enter Tryz.func57, Tryz.ntmps57
  go_wp2_with fail
  go_loopw [8] (fun i wr => ∃ k : Nat, k ≤ n ∧ i = .int .i64 k ∧ I k wr) (fun i _ => n - (intOf i).toNat)
  case atStart => exact ⟨0, Nat.zero_le _, rfl, H0.out⟩
  case round =>
    obtain ⟨k, hk, rfl, hik⟩ := hrel
    have HK := Lib.hid hik
    clear hik
    by_cases hlk : k < n
    · have hkL : k < (L.map txC).length := by rw [List.length_map, HN.out]; exact hlk
      have hk2 : k < L.length := by rw [HN.out]; exact hlk
      have hgl : L[k]? = some L[k] := List.getElem?_eq_getElem hk2
      obtain ⟨ad, rfl, c0⟩ := (HI.out k _ hlk HK.out).at_ hkL
      have HPk := Lib.hid (HP.out k _ _ hgl HK.out)
      have hx : (L.map txC)[k] = .string (str L[k]) := by rw [List.getElem_map]; rfl
      rw [hx] at c0
      generalize str L[k] = S at *
      clear hgl hkL hx hk2
      go_wp2_with fail
      refine HPk.out.mono ?_
      rintro e w' (⟨rfl, hj⟩ | ⟨rfl, hi⟩)
      · have HJ := Lib.hid hj
        clear hj c0
        go_wp2_with fail
        go_ret
        exact .inl ⟨k, hlk, rfl, HJ.out⟩
      · have HN := Lib.hid hi
        clear hi c0
        go_wp2_with fail
        go_roundw
        case rel => exact ⟨k + 1, by omega, by go_num, HN.out⟩
        case measure => simp [intOf]; omega
    · obtain rfl : k = n := by omega
      go_wp2_with fail
      go_ret
      exact .inr ⟨rfl, HK.out⟩
set_option maxRecDepth 100000 in
/-- ContainsFunc of strings, by a closure that answers p k and keeps I; R: what stays. -/
theorem containsSf (A : Option Addr) (n c : Nat) (L : List Tx) (hn : L.length = n) (g : FuncId) (caps : Array Value) (w : World) (eg : EntV g) (p : Nat → Bool) (I : Nat → World → Prop) (R : World → Prop) (hl : n ≤ 1000000) (h0 : I 0 w) (hI : ∀ k W, I k W → R W) (hR : ∀ W, R W → RdS W A L)
    (hp : ∀ k x W, L[k]? = some x → I k W → Calls Tryz.prog g (#[.string (str x)] ++ caps) W fun e W' => e = .returned (.bool (p k)) ∧ R W' ∧ (p k = false → I (k + 1) W')) :
    Calls Tryz.prog 36 #[.slice A n c, .func (.func g) #[] caps] w fun e w' => e = .returned (.bool ((List.range n).any p)) ∧ R w' := by
  have HX := Lib.hid (indexSf A n c g caps w eg L hn (fun k W => I k W ∧ ∀ j, j < k → p j = false) (fun k W => R W ∧ p k = true) (fun k W _ hW => hR W (hI k W hW.1)) (fun k x W hx hW => by
    refine (hp k _ W hx hW.1).mono ?_
    rintro e W' ⟨rfl, hb, hi⟩
    cases hpk : p k
    · exact .inr ⟨rfl, hi hpk, fun j hj => by
        rcases Nat.lt_succ_iff_lt_or_eq.1 hj with h | h
        · exact hW.2 j h
        · rw [h]; exact hpk⟩
    · exact .inl ⟨rfl, hb, rfl⟩) ⟨h0, fun j hj => absurd hj (Nat.not_lt_zero j)⟩ hl)
  have HF := Lib.hid hI
  have hno : ∀ W, (I n W ∧ ∀ j, j < n → p j = false) → (List.range n).any p = false := fun W h => by
    rw [List.any_eq_false]
    intro j hj
    rw [h.2 j (List.mem_range.1 hj)]
    simp
  have hyes : ∀ k, k < n → p k = true → (List.range n).any p = true := fun k hk h => List.any_eq_true.2 ⟨k, List.mem_range.2 hk, h⟩
  have HN := Lib.hid (And.intro hno hyes)
  clear hno hyes hp h0 hI hl hR eg hn
  go_enter Tryz.func36, Tryz.ntmps36
  go_wp2_with fail
  refine HX.out.mono ?_
  rintro e w' (⟨k, hk, rfl, hj⟩ | ⟨rfl, hi⟩)
  · have HJ := Lib.hid (And.intro hk hj)
    clear hj hk
    go_wp2_with fail
    go_ret
    exact ⟨ret_bool8 (HN.out.2 k HJ.out.1 HJ.out.2.2).symm, HJ.out.2.1⟩
  · have HJ := Lib.hid hi
    clear hi
    go_wp2_with fail
    go_ret
    exact ⟨ret_bool8 (HN.out.1 _ HJ.out).symm, HF.out _ _ HJ.out.1⟩
theorem dup_snoc : ∀ (l : List Tx) (x : Tx), dupT (l ++ [x]) = (dupT l || l.any (· == x))
  | [], x => by simp [dupT]
  | y :: l, x => by
    rw [List.cons_append, dupT, dup_snoc l x, dupT, List.any_cons]
    have e : (l ++ [x]).contains y = (l.contains y || y == x) := by
      rw [Bool.eq_iff_iff]
      simp
    rw [e]
    cases l.contains y <;> cases (y == x) <;> cases dupT l <;> simp
theorem dup_app : ∀ (a b : List Tx), dupT a = true → dupT (a ++ b) = true
  | x :: a, b, h => by
    rw [dupT, Bool.or_eq_true] at h
    rw [List.cons_append, dupT, Bool.or_eq_true]
    rcases h with h | h
    · exact .inl (by rw [List.contains_iff_mem] at h ⊢; exact List.mem_append_left _ h)
    · exact .inr (dup_app a b h)
theorem dup_take {L : List Tx} {k : Nat} (h : dupT (L.take k) = true) : dupT L = true := by
  have := dup_app _ (L.drop k) h
  rwa [List.take_append_drop] at this
theorem range_dup (L : List Tx) : ∀ k, k ≤ L.length → (List.range k).any (fun i => (L.take i).any (· == L.getD i [])) = dupT (L.take k)
  | 0, _ => rfl
  | k + 1, hk => by
    have hgd : L.getD k [] = L[k] := by rw [List.getD_eq_getElem?_getD, List.getElem?_eq_getElem (by omega)]; rfl
    rw [List.range_succ, List.any_append, range_dup L k (by omega), List.take_succ_eq_append_getElem (by omega), dup_snoc]
    simp only [List.any_cons, List.any_nil, Bool.or_false, hgd]
theorem range_any (L : List Tx) (p : Tx → Bool) : (List.range L.length).any (fun i => p (L.getD i [])) = L.any p := by
  rw [Bool.eq_iff_iff, List.any_eq_true, List.any_eq_true]
  constructor
  · rintro ⟨i, hi, h⟩
    have hi' := List.mem_range.1 hi
    rw [List.getD_eq_getElem?_getD, List.getElem?_eq_getElem hi'] at h
    exact ⟨_, List.getElem_mem hi', h⟩
  · rintro ⟨x, hx, h⟩
    obtain ⟨i, hi, rfl⟩ := List.getElem_of_mem hx
    refine ⟨i, List.mem_range.2 hi, ?_⟩
    rw [List.getD_eq_getElem?_getD, List.getElem?_eq_getElem hi]
    exact h
/-! count's closure. -/
theorem blk_cell {W : World} {g : Nat} {cs : Array Value} {t : TypeId} {fr : Nat × Nat} (h : W.heap[g]? = some (.cells cs t fr)) (k : Nat) {v : Value} (hv : cs[k]? = some v) : W.cell? ⟨g, k, none⟩ = some v := by
  simp [World.cell?, h, hv]
theorem got_iputV (k : Bs) (c : Int) (V : List (Bs × Pay)) : ((got k (put k (cnt9 c) V)).getD (cnt9 0)).1 = .int .i64 c := by rw [got_put]; rfl
/-- What count's closure answers. -/
def Tw (W : World) (mb : Nat) (L : List Tx) (F : Tx) (e : Ending) (w' : World) : Prop :=
  e = .returned (.bool (L.any (· == F))) ∧ W.grownBy w' (some mb) ∧ (L.any (· == F) = false → NmIs w' mb (L ++ [F]))
theorem tw_of {W w' : World} {mb : Nat} {L : List Tx} {F : Tx} {B : Bool} (h : L.any (· == F) = B) (h2 : W.grownBy w' (some mb)) (h3 : L.any (· == F) = false → NmIs w' mb (L ++ [F])) : Tw W mb L F (.returned (.bool B)) w' :=
  ⟨by rw [h], h2, h3⟩
set_option maxHeartbeats 1000000 in
set_option maxRecDepth 100000 in
theorem count1_any (F : Tx) (L : List Tx) (cb mb : Nat) (W : World) (hf : F.length ≤ 1000000) (hL : L.length ≤ 1000000) (hne : cb ≠ mb) (hc : W.heap[cb]? = some (.cells #[.map (some mb)] 93 (0, 0))) (hm : NmIs W mb L) :
    Calls Tryz.prog 56 #[.string (str F), .pointer (some ⟨cb, 0, none⟩)] W (Tw W mb L F) := by
  obtain ⟨S, h1⟩ : ∃ x, str F = x := ⟨_, rfl⟩
  have HSF := Lib.hid h1
  rw [h1]
  clear h1
  have hcl := (Array.getElem?_eq_some_iff.1 hc).1
  obtain ⟨V, hV1, hV2, hV3, hV4⟩ := hm.at_ F
  have HV := Lib.hid (And.intro hV1 (And.intro hV2 hV4))
  have hlook := hV1.look (k := F) hf
  rw [hV3, HSF.out] at hlook
  have HK := Lib.hid (And.intro hf (And.intro hL hc))
  have HC2 : Hid (∀ w3 : World, W.grownBy w3 (some mb) → w3.cell? ⟨cb, 0, none⟩ = some (.map (some mb))) := fun w3 hg =>
    blk_cell ((hg.block cb hcl (by simp; exact hne)).trans hc) 0 rfl
  have k1 := blk_cell hc 0 (v := .map (some mb)) rfl
  clear hV1 hV2 hV3 hV4 hf hL hc hm hcl hne
  cases hq : L.any (· == F)
  · rw [hq] at hlook
    have HQ := Lib.hid hq
    change _ = Result.ok (Value.int .i64 0) W at hlook
    clear hq
    go_enter Tryz.func56, Tryz.ntmps56
    go_wp2_with
      (at_mapUpdate
       refine wpList_iput rfl _ _ _ rfl mb V rfl HV.out.1 (by have h1 := HV.out.2.1; have h2 := HK.out.2.1; omega) F (cnt9 1) (by rw [HSF.out]; rfl) rfl HK.out.1 ?_
       intro w3 hm hg
       have HM := Lib.hid (And.intro hm hg)
       clear hm hg
       have m1 := HC2.out _ HM.out.2
       have hl2 := HM.out.1.look (k := F) HK.out.1
       rw [got_iputV, HSF.out] at hl2)
    go_ret
    exact tw_of HQ.out HM.out.2 fun h => HV.out.2.2 _ HM.out.1 h
  · rw [hq] at hlook
    have HQ := Lib.hid hq
    change _ = Result.ok (Value.int .i64 1) W at hlook
    clear hq
    go_enter Tryz.func56, Tryz.ntmps56
    go_wp2_with
      (at_mapUpdate
       refine wpList_iput rfl _ _ _ rfl mb V rfl HV.out.1 (by have h1 := HV.out.2.1; have h2 := HK.out.2.1; omega) F (cnt9 2) (by rw [HSF.out]; rfl) rfl HK.out.1 ?_
       intro w3 hm hg
       have HM := Lib.hid (And.intro hm hg)
       clear hm hg
       have m1 := HC2.out _ HM.out.2
       have hl2 := HM.out.1.look (k := F) HK.out.1
       rw [got_iputV, HSF.out] at hl2)
    go_ret
    exact tw_of HQ.out HM.out.2 fun h => absurd (HQ.out.symm.trans h) (by decide)
/-- An error as a value: its number; 0: none. -/
def errK (n : Int) : Value := .iface 58 (.int .i64 n)
def errE (k : Nat) : Value := if k = 0 then .nilIface else errK k
theorem errE_zero : errE 0 = .nilIface := if_pos rfl
/-- What parts are told of that none is empty. -/
def cntT (L : List Tx) : Nat := if dupT L = true then 7 else if 4096 < L.length then 2 else 0
theorem entCount : EntV 56 := enters_of Tryz.func56 (by kernel_rfl) rfl
theorem ret_val {a b : Value} {w w' : World} (h : a = b) (hb : Below w.heap.size w w') : Ending.returned a = .returned b ∧ Below w.heap.size w w' := ⟨by rw [h], hb⟩
set_option maxHeartbeats 1000000 in
set_option maxRecDepth 100000 in
theorem count_any (A : Option Addr) (n c : Nat) (L : List Tx) (w : World) (hn : L.length = n) (hl : n ≤ 1000000) (hx : ∀ x ∈ L, x.length ≤ 1000000) (hr : RdS w A L) :
    Calls Tryz.prog 31 #[.slice A n c] w fun e w' => e = .returned (errE (cntT L)) ∧ Below w.heap.size w w' := by
  have HX : Hid (∀ W, (Below w.heap.size w W ∧ W.heap[w.heap.size + 1]? = some (.cells #[.map (some w.heap.size)] 93 (0, 0)) ∧ NmIs W w.heap.size []) →
      Calls Tryz.prog 36 #[.slice A n c, .func (.func 56) #[] #[.pointer (some ⟨w.heap.size + 1, 0, none⟩)]] W fun e w' => e = .returned (.bool (dupT L)) ∧ Below w.heap.size w w') := fun W hW => by
    have hR : ∀ W', (Below w.heap.size w W' ∧ W'.heap[w.heap.size + 1]? = some (.cells #[.map (some w.heap.size)] 93 (0, 0))) → RdS W' A L := fun W' h => Rd.below hr h.1
    have h := containsSf A n c L hn 56 #[.pointer (some ⟨w.heap.size + 1, 0, none⟩)] W entCount (fun i => (L.take i).any (· == L.getD i []))
      (fun k W' => (Below w.heap.size w W' ∧ W'.heap[w.heap.size + 1]? = some (.cells #[.map (some w.heap.size)] 93 (0, 0))) ∧ NmIs W' w.heap.size (L.take k))
      (fun W' => Below w.heap.size w W' ∧ W'.heap[w.heap.size + 1]? = some (.cells #[.map (some w.heap.size)] 93 (0, 0))) hl ⟨⟨hW.1, hW.2.1⟩, hW.2.2⟩ (fun _ _ h => h.1) hR (fun k x W' hf hW' => by
        have hkl : k < L.length := (List.getElem?_eq_some_iff.1 hf).1
        have hfe : L[k] = x := (List.getElem?_eq_some_iff.1 hf).2
        have hgd : L.getD k [] = x := by rw [List.getD_eq_getElem?_getD, hf]; rfl
        refine (count1_any x (L.take k) (w.heap.size + 1) w.heap.size W' (hx x (List.mem_of_getElem? hf)) (by rw [List.length_take]; omega) (by omega) hW'.1.2 hW'.2).mono ?_
        rintro e w3 ⟨rfl, hg, hno⟩
        rw [hgd]
        have hs := (Array.getElem?_eq_some_iff.1 hW'.1.2).1
        have hR3 : Below w.heap.size w w3 ∧ w3.heap[w.heap.size + 1]? = some (.cells #[.map (some w.heap.size)] 93 (0, 0)) :=
          ⟨hW'.1.1.grown hg (by omega) (fun k hk => by injection hk with hk; omega), (hg.block _ hs (by simp)).trans hW'.1.2⟩
        refine ⟨rfl, hR3, fun h => ⟨hR3, ?_⟩⟩
        rw [List.take_succ_eq_append_getElem hkl, hfe]
        exact hno h)
    refine h.mono ?_
    rintro e w' ⟨rfl, hb, _⟩
    have e1 := range_dup L n (by omega)
    rw [List.take_of_length_le (by omega)] at e1
    rw [e1]
    exact ⟨rfl, hb⟩
  have HC : Hid (∀ B, dupT L = B → errE (cntT L) = if B then errK 7 else if 4096 < n then errK 2 else .nilIface) := fun B h => by
    unfold cntT
    rw [h, hn]
    cases B
    · by_cases h4 : 4096 < n
      · simp [h4, errE]
      · simp [h4, errE]
    · simp [errE]
  have HS : Hid (∀ o, Below w.heap.size w ((w.alloc (.map #[] 0)).alloc o) ∧ (((w.alloc (.map #[] 0)).alloc o).heap[w.heap.size + 1]? = some o) ∧ NmIs ((w.alloc (.map #[] 0)).alloc o) w.heap.size []) := fun o => by
    have h1 : (w.alloc (.map #[] 0)).heap.size = w.heap.size + 1 := World.size_alloc _ _
    refine ⟨((Below.refl _ _).alloc (Nat.le_refl _) _).alloc (by omega) _, ?_, (NmIs.made w).below ((Below.refl _ _).alloc (Nat.le_refl _) _)⟩
    have h : ((w.alloc (.map #[] 0)).alloc o).heap[(w.alloc (.map #[] 0)).heap.size]? = some o := Array.getElem?_push_size
    rw [h1] at h
    exact h
  have hmm := @run_makeMap Tryz.prog
  clear hx hr hn
  cases hd : dupT L <;> rw [hd] at HX <;> (have HD := Lib.hid (HC.out _ hd); clear hd HC)
  · by_cases h4 : 4096 < n
    · have d1 : (4096 : Int) < n := by omega
      rw [if_neg (by simp), if_pos h4] at HD
      go_enter Tryz.func31, Tryz.ntmps31
      go_wp2_with fail
      refine (HX.out _ (HS.out _)).mono ?_
      rintro e w' ⟨rfl, hb⟩
      have HB := Lib.hid hb
      clear hb
      go_wp2_with fail
      go_ret
      exact ret_val HD.out.symm HB.out
    · have d1 : ¬ (4096 : Int) < n := by omega
      rw [if_neg (by simp), if_neg h4] at HD
      go_enter Tryz.func31, Tryz.ntmps31
      go_wp2_with fail
      refine (HX.out _ (HS.out _)).mono ?_
      rintro e w' ⟨rfl, hb⟩
      have HB := Lib.hid hb
      clear hb
      go_wp2_with fail
      go_ret
      exact ret_val HD.out.symm HB.out
  · rw [if_pos rfl] at HD
    go_enter Tryz.func31, Tryz.ntmps31
    go_wp2_with fail
    refine (HX.out _ (HS.out _)).mono ?_
    rintro e w' ⟨rfl, hb⟩
    have HB := Lib.hid hb
    clear hb
    go_wp2_with fail
    go_ret
    exact ret_val HD.out.symm HB.out
end Go.Proofs.YtencapplbedcmaaGreatDoor

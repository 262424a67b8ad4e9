/- VaLib, VaFn, VaR1, VaR2, in one text. -/
import Derived.Test.YthnogakjaaopkaaGreatDoorLx8
import Derived.Test.YthnogakjaaopkaaGreatDoorVaM
import Derived.Test.YthnogakjaaopkaaGreatDoorShelfV
import Derived.Lib.Join
import Derived.Test.YthnogakjaaopkaaGreatDoorMapM
import Derived.Laws.EntriesVeiled
/- The library's functions that value calls, by contracts. -/
namespace Go.Proofs.YthnogakjaaopkaaGreatDoor
open Go.RowKit

theorem bl2_contains (b : UInt8) : ([32, 9] : Tx).contains b = bl2 b := by
  simp only [List.contains, List.elem, bl2]
  cases (b == 32) <;> cases (b == 9) <;> rfl
theorem trimS_trw (l : Tx) : Lib.trimS l [32, 9] = trw l := by
  have hf : (fun b => ([32, 9] : Tx).contains b) = bl2 := funext bl2_contains
  unfold Lib.trimS Lib.trimLeftS Lib.trimRightS trw
  rw [trw_comm, hf]
  rfl
theorem index1_any (l : Tx) (c : UInt8) (S : ByteArray) (hS : S = str [c]) (w : World) :
    Calls Tryz.prog 132 #[.string (str l), .string S] w fun e w' => e = .returned (.int .i64 (Lib.indexByte l c)) ∧ w = w' := by
  subst hS
  refine (show Calls Tryz.prog 132 #[.string (str l), .string (str [c])] w _ from Any.strings_Index_one Tryz.indexL (str l) c w).mono ?_
  rintro e w' ⟨rfl, rfl⟩
  exact ⟨rfl, rfl⟩
theorem idx_mem (l : Tx) (c : UInt8) : decide (0 ≤ Lib.indexByte l c) = l.contains c := by
  induction l with
  | nil => rfl
  | cons x l ih =>
    rw [Lib.indexByte, List.contains_cons]
    by_cases h : x = c
    · subst h
      simp
    · have h1 : (x == c) = false := beq_eq_false_iff_ne.2 h
      have h2 : (c == x) = false := beq_eq_false_iff_ne.2 (Ne.symm h)
      rw [h1, h2, Bool.false_or, ← ih]
      have h3 := Lib.indexByte_ge l c
      by_cases h4 : Lib.indexByte l c = -1
      · rw [h4]; rfl
      · rw [if_neg (by simp), if_neg (by simpa using h4), decide_eq_true (by omega), decide_eq_true (by omega)]
theorem hasRune_any (l : Tx) (c : UInt8) (hc : c.toNat < 128) (w : World) :
    Calls Tryz.prog 129 #[.string (str l), .int .i32 (c.toNat : Int)] w fun e w' => e = .returned (.bool (l.contains c)) ∧ w = w' := by
  refine (show Calls Tryz.prog 129 #[.string (str l), .int .i32 (c.toNat : Int)] w _ from Any.strings_ContainsRune_ascii Tryz.hasRuneL (str l) (c.toNat : Int) w (by omega) (by omega)).mono ?_
  rintro e w' ⟨rfl, rfl⟩
  have e1 : ((c.toNat : Int)).toNat.toUInt8 = c := by
    rw [Int.toNat_natCast]
    simp
  rw [e1]
  exact ⟨ret_bool8 (idx_mem l c), rfl⟩
theorem libTrim_any (l : Tx) (cs : ByteArray) (w : World) (hc : cs = str [32, 9]) (hl : l.length ≤ 1000000) : Calls Tryz.prog 102 #[.string (str l), .string cs] w fun e w' => e = .returned (.string (str (trw l))) ∧ Below w.heap.size w w' := by
  subst hc
  refine (show Calls Tryz.prog 102 #[.string (str l), .string (str [32, 9])] w _ from Any.strings_Trim_laid Tryz.trimL (by kernel_rfl) (str l) (str [32, 9]) w (by rw [str_size]; omega) (by decide) (ascii_of_all (by decide))).mono ?_
  rintro e w' ⟨rfl, hb⟩
  exact ⟨ret_str8 (congrArg str (trimS_trw l)), hb⟩
theorem join_tail : ∀ (l : List Tx) (p : Tx), p ++ Lib.joinTail [44] l = joinC (p :: l)
  | [], p => by simp [Lib.joinTail, joinC]
  | q :: r, p => by
    rw [joinC, ← join_tail r q]
    simp [Lib.joinTail]
theorem join_lib : ∀ l : List Tx, Lib.join l [44] = joinC l
  | [] => rfl
  | p :: l => by rw [Lib.join_cons, join_tail]
theorem addr_spot {w : World} {a : Addr} {v : Value} (h : w.cell? a = some v) : a = ⟨a.block, a.off, none⟩ := by
  unfold World.cell? at h
  obtain ⟨b, o, s⟩ := a
  simp only at h ⊢
  split at h
  · cases s with
    | none => rfl
    | some x => simp at h
  · cases h
end Go.Proofs.YthnogakjaaopkaaGreatDoor
/- Contracts: slices.IndexFunc, ContainsFunc at strings, any closure; value's count (parts that are there twice, too many). -/
namespace Go.Proofs.YthnogakjaaopkaaGreatDoor
open Go.RowKit Go.Maps

/-- A function of the program's own that can be called by its number. -/
def EntV (g : FuncId) : Prop := ∀ args w, (callFunc g args).run Tryz.prog w = .ok (.enter g args) w
set_option maxRecDepth 100000 in
set_option maxHeartbeats 1000000 in
theorem indexSf (A : Option Addr) (n c : Nat) (g : FuncId) (caps : Array Value) (w : World) (eg : EntV g) (L : List Tx) (hn : L.length = n) (I J : Nat → World → Prop)
    (hI : ∀ k W, k < n → I k W → RdS W A L)
    (hp : ∀ k x W, L[k]? = some x → I k W → Calls Tryz.prog g (#[.string (str x)] ++ caps) W fun e W' => (e = .returned (.bool true) ∧ J k W') ∨ (e = .returned (.bool false) ∧ I (k + 1) W'))
    (h0 : I 0 w) (hl : n ≤ 1000000) :
    Calls Tryz.prog 124 #[.slice A n c, .func (.func g) #[] caps] w fun e w' => (∃ k : Nat, k < n ∧ e = .returned (.int .i64 k) ∧ J k w') ∨ (e = .returned (.int .i64 (-1)) ∧ I n w') := by
  have HI := Lib.hid hI
  have HP := Lib.hid hp
  have H0 := Lib.hid h0
  have HN := Lib.hid hn
  clear hI hp h0 hn
  unfold EntV at eg
  go_enter Tryz.func124, Tryz.ntmps124
  go_wp2_with fail
  go_loopw [8] (fun i wr => ∃ k : Nat, k ≤ n ∧ i = .int .i64 k ∧ I k wr) (fun i _ => n - (intOf i).toNat)
  case atStart => exact ⟨0, Nat.zero_le _, rfl, H0.out⟩
  case round =>
    obtain ⟨k, hk, rfl, hik⟩ := hrel
    have HK := Lib.hid hik
    clear hik
    by_cases hlk : k < n
    · have hkL : k < (L.map txC).length := by rw [List.length_map, HN.out]; exact hlk
      have hk2 : k < L.length := by rw [HN.out]; exact hlk
      have hgl : L[k]? = some L[k] := List.getElem?_eq_getElem hk2
      obtain ⟨ad, rfl, c0⟩ := (HI.out k _ hlk HK.out).at_ hkL
      have HPk := Lib.hid (HP.out k _ _ hgl HK.out)
      have hx : (L.map txC)[k] = .string (str L[k]) := by rw [List.getElem_map]; rfl
      rw [hx] at c0
      generalize str L[k] = S at *
      clear hgl hkL hx hk2
      go_wp2_with fail
      refine HPk.out.mono ?_
      rintro e w' (⟨rfl, hj⟩ | ⟨rfl, hi⟩)
      · have HJ := Lib.hid hj
        clear hj c0
        go_wp2_with fail
        go_ret
        exact .inl ⟨k, hlk, rfl, HJ.out⟩
      · have HN := Lib.hid hi
        clear hi c0
        go_wp2_with fail
        go_roundw
        case rel => exact ⟨k + 1, by omega, by go_num, HN.out⟩
        case measure => simp [intOf]; omega
    · obtain rfl : k = n := by omega
      go_wp2_with fail
      go_ret
      exact .inr ⟨rfl, HK.out⟩
set_option maxRecDepth 100000 in
/-- ContainsFunc of strings, by a closure that answers p k and keeps I; R: what stays. -/
theorem containsSf (A : Option Addr) (n c : Nat) (L : List Tx) (hn : L.length = n) (g : FuncId) (caps : Array Value) (w : World) (eg : EntV g) (p : Nat → Bool) (I : Nat → World → Prop) (R : World → Prop) (hl : n ≤ 1000000) (h0 : I 0 w) (hI : ∀ k W, I k W → R W) (hR : ∀ W, R W → RdS W A L)
    (hp : ∀ k x W, L[k]? = some x → I k W → Calls Tryz.prog g (#[.string (str x)] ++ caps) W fun e W' => e = .returned (.bool (p k)) ∧ R W' ∧ (p k = false → I (k + 1) W')) :
    Calls Tryz.prog 106 #[.slice A n c, .func (.func g) #[] caps] w fun e w' => e = .returned (.bool ((List.range n).any p)) ∧ R w' := by
  have HX := Lib.hid (indexSf A n c g caps w eg L hn (fun k W => I k W ∧ ∀ j, j < k → p j = false) (fun k W => R W ∧ p k = true) (fun k W _ hW => hR W (hI k W hW.1)) (fun k x W hx hW => by
    refine (hp k _ W hx hW.1).mono ?_
    rintro e W' ⟨rfl, hb, hi⟩
    cases hpk : p k
    · exact .inr ⟨rfl, hi hpk, fun j hj => by
        rcases Nat.lt_succ_iff_lt_or_eq.1 hj with h | h
        · exact hW.2 j h
        · rw [h]; exact hpk⟩
    · exact .inl ⟨rfl, hb, rfl⟩) ⟨h0, fun j hj => absurd hj (Nat.not_lt_zero j)⟩ hl)
  have HF := Lib.hid hI
  have hno : ∀ W, (I n W ∧ ∀ j, j < n → p j = false) → (List.range n).any p = false := fun W h => by
    rw [List.any_eq_false]
    intro j hj
    rw [h.2 j (List.mem_range.1 hj)]
    simp
  have hyes : ∀ k, k < n → p k = true → (List.range n).any p = true := fun k hk h => List.any_eq_true.2 ⟨k, List.mem_range.2 hk, h⟩
  have HN := Lib.hid (And.intro hno hyes)
  clear hno hyes hp h0 hI hl hR eg hn
  go_enter Tryz.func106, Tryz.ntmps106
  go_wp2_with fail
  refine HX.out.mono ?_
  rintro e w' (⟨k, hk, rfl, hj⟩ | ⟨rfl, hi⟩)
  · have HJ := Lib.hid (And.intro hk hj)
    clear hj hk
    go_wp2_with fail
    go_ret
    exact ⟨ret_bool8 (HN.out.2 k HJ.out.1 HJ.out.2.2).symm, HJ.out.2.1⟩
  · have HJ := Lib.hid hi
    clear hi
    go_wp2_with fail
    go_ret
    exact ⟨ret_bool8 (HN.out.1 _ HJ.out).symm, HF.out _ _ HJ.out.1⟩
theorem dup_snoc : ∀ (l : List Tx) (x : Tx), dupT (l ++ [x]) = (dupT l || l.any (· == x))
  | [], x => by simp [dupT]
  | y :: l, x => by
    rw [List.cons_append, dupT, dup_snoc l x, dupT, List.any_cons]
    have e : (l ++ [x]).contains y = (l.contains y || y == x) := by
      rw [Bool.eq_iff_iff]
      simp
    rw [e]
    cases l.contains y <;> cases (y == x) <;> cases dupT l <;> simp
theorem dup_app : ∀ (a b : List Tx), dupT a = true → dupT (a ++ b) = true
  | x :: a, b, h => by
    rw [dupT, Bool.or_eq_true] at h
    rw [List.cons_append, dupT, Bool.or_eq_true]
    rcases h with h | h
    · exact .inl (by rw [List.contains_iff_mem] at h ⊢; exact List.mem_append_left _ h)
    · exact .inr (dup_app a b h)
theorem dup_take {L : List Tx} {k : Nat} (h : dupT (L.take k) = true) : dupT L = true := by
  have := dup_app _ (L.drop k) h
  rwa [List.take_append_drop] at this
theorem range_dup (L : List Tx) : ∀ k, k ≤ L.length → (List.range k).any (fun i => (L.take i).any (· == L.getD i [])) = dupT (L.take k)
  | 0, _ => rfl
  | k + 1, hk => by
    have hgd : L.getD k [] = L[k] := by rw [List.getD_eq_getElem?_getD, List.getElem?_eq_getElem (by omega)]; rfl
    rw [List.range_succ, List.any_append, range_dup L k (by omega), List.take_succ_eq_append_getElem (by omega), dup_snoc]
    simp only [List.any_cons, List.any_nil, Bool.or_false, hgd]
theorem range_any (L : List Tx) (p : Tx → Bool) : (List.range L.length).any (fun i => p (L.getD i [])) = L.any p := by
  rw [Bool.eq_iff_iff, List.any_eq_true, List.any_eq_true]
  constructor
  · rintro ⟨i, hi, h⟩
    have hi' := List.mem_range.1 hi
    rw [List.getD_eq_getElem?_getD, List.getElem?_eq_getElem hi'] at h
    exact ⟨_, List.getElem_mem hi', h⟩
  · rintro ⟨x, hx, h⟩
    obtain ⟨i, hi, rfl⟩ := List.getElem_of_mem hx
    refine ⟨i, List.mem_range.2 hi, ?_⟩
    rw [List.getD_eq_getElem?_getD, List.getElem?_eq_getElem hi]
    exact h
/-! count's closure. -/
theorem blk_cell {W : World} {g : Nat} {cs : Array Value} {t : TypeId} {fr : Nat × Nat} (h : W.heap[g]? = some (.cells cs t fr)) (k : Nat) {v : Value} (hv : cs[k]? = some v) : W.cell? ⟨g, k, none⟩ = some v := by
  simp [World.cell?, h, hv]
theorem got_iputV (k : Bs) (c : Int) (V : List (Bs × Pay)) : ((got k (put k (cnt9 c) V)).getD (cnt9 0)).1 = .int .i64 c := by rw [got_put]; rfl
/-- What count's closure answers. -/
def Tw (W : World) (mb : Nat) (L : List Tx) (F : Tx) (e : Ending) (w' : World) : Prop :=
  e = .returned (.bool (L.any (· == F))) ∧ W.grownBy w' (some mb) ∧ (L.any (· == F) = false → NmIs w' mb (L ++ [F]))
theorem tw_of {W w' : World} {mb : Nat} {L : List Tx} {F : Tx} {B : Bool} (h : L.any (· == F) = B) (h2 : W.grownBy w' (some mb)) (h3 : L.any (· == F) = false → NmIs w' mb (L ++ [F])) : Tw W mb L F (.returned (.bool B)) w' :=
  ⟨by rw [h], h2, h3⟩
set_option maxHeartbeats 1000000 in
set_option maxRecDepth 100000 in
theorem count1_any (F : Tx) (L : List Tx) (cb mb : Nat) (W : World) (hf : F.length ≤ 1000000) (hL : L.length ≤ 1000000) (hne : cb ≠ mb) (hc : W.heap[cb]? = some (.cells #[.map (some mb)] 192 (0, 0))) (hm : NmIs W mb L) :
    Calls Tryz.prog 105 #[.string (str F), .pointer (some ⟨cb, 0, none⟩)] W (Tw W mb L F) := by
  obtain ⟨S, h1⟩ : ∃ x, str F = x := ⟨_, rfl⟩
  have HSF := Lib.hid h1
  rw [h1]
  clear h1
  have hcl := (Array.getElem?_eq_some_iff.1 hc).1
  obtain ⟨V, hV1, hV2, hV3, hV4⟩ := hm.at_ F
  have HV := Lib.hid (And.intro hV1 (And.intro hV2 hV4))
  have hlook := hV1.look (k := F) hf
  rw [hV3, HSF.out] at hlook
  have HK := Lib.hid (And.intro hf (And.intro hL hc))
  have HC2 : Hid (∀ w3 : World, W.grownBy w3 (some mb) → w3.cell? ⟨cb, 0, none⟩ = some (.map (some mb))) := fun w3 hg =>
    blk_cell ((hg.block cb hcl (by simp; exact hne)).trans hc) 0 rfl
  have k1 := blk_cell hc 0 (v := .map (some mb)) rfl
  clear hV1 hV2 hV3 hV4 hf hL hc hm hcl hne
  cases hq : L.any (· == F)
  · rw [hq] at hlook
    have HQ := Lib.hid hq
    change _ = Result.ok (Value.int .i64 0) W at hlook
    clear hq
    go_enter Tryz.func105, Tryz.ntmps105
    go_wp2_with
      (at_mapUpdate
       refine wpList_iput rfl _ _ _ rfl mb V rfl HV.out.1 (by have h1 := HV.out.2.1; have h2 := HK.out.2.1; omega) F (cnt9 1) (by rw [HSF.out]; rfl) rfl HK.out.1 ?_
       intro w3 hm hg
       have HM := Lib.hid (And.intro hm hg)
       clear hm hg
       have m1 := HC2.out _ HM.out.2
       have hl2 := HM.out.1.look (k := F) HK.out.1
       rw [got_iputV, HSF.out] at hl2)
    go_ret
    exact tw_of HQ.out HM.out.2 fun h => HV.out.2.2 _ HM.out.1 h
  · rw [hq] at hlook
    have HQ := Lib.hid hq
    change _ = Result.ok (Value.int .i64 1) W at hlook
    clear hq
    go_enter Tryz.func105, Tryz.ntmps105
    go_wp2_with
      (at_mapUpdate
       refine wpList_iput rfl _ _ _ rfl mb V rfl HV.out.1 (by have h1 := HV.out.2.1; have h2 := HK.out.2.1; omega) F (cnt9 2) (by rw [HSF.out]; rfl) rfl HK.out.1 ?_
       intro w3 hm hg
       have HM := Lib.hid (And.intro hm hg)
       clear hm hg
       have m1 := HC2.out _ HM.out.2
       have hl2 := HM.out.1.look (k := F) HK.out.1
       rw [got_iputV, HSF.out] at hl2)
    go_ret
    exact tw_of HQ.out HM.out.2 fun h => absurd (HQ.out.symm.trans h) (by decide)
/-- An error as a value: its number; 0: none. -/
def errK (n : Int) : Value := .iface 27 (.int .i64 n)
def errE (k : Nat) : Value := if k = 0 then .nilIface else errK k
theorem errE_zero : errE 0 = .nilIface := if_pos rfl
/-- What parts are told of that none is empty. -/
def cntT (L : List Tx) : Nat := if dupT L = true then 7 else if 4096 < L.length then 2 else 0
theorem entCount : EntV 105 := enters_of Tryz.func105 (by kernel_rfl) rfl
theorem ret_val {a b : Value} {w w' : World} (h : a = b) (hb : Below w.heap.size w w') : Ending.returned a = .returned b ∧ Below w.heap.size w w' := ⟨by rw [h], hb⟩
set_option maxHeartbeats 1000000 in
set_option maxRecDepth 100000 in
theorem count_any (A : Option Addr) (n c : Nat) (L : List Tx) (w : World) (hn : L.length = n) (hl : n ≤ 1000000) (hx : ∀ x ∈ L, x.length ≤ 1000000) (hr : RdS w A L) :
    Calls Tryz.prog 86 #[.slice A n c] w fun e w' => e = .returned (errE (cntT L)) ∧ Below w.heap.size w w' := by
  have HX : Hid (∀ W, (Below w.heap.size w W ∧ W.heap[w.heap.size + 1]? = some (.cells #[.map (some w.heap.size)] 192 (0, 0)) ∧ NmIs W w.heap.size []) →
      Calls Tryz.prog 106 #[.slice A n c, .func (.func 105) #[] #[.pointer (some ⟨w.heap.size + 1, 0, none⟩)]] W fun e w' => e = .returned (.bool (dupT L)) ∧ Below w.heap.size w w') := fun W hW => by
    have hR : ∀ W', (Below w.heap.size w W' ∧ W'.heap[w.heap.size + 1]? = some (.cells #[.map (some w.heap.size)] 192 (0, 0))) → RdS W' A L := fun W' h => Rd.below hr h.1
    have h := containsSf A n c L hn 105 #[.pointer (some ⟨w.heap.size + 1, 0, none⟩)] W entCount (fun i => (L.take i).any (· == L.getD i []))
      (fun k W' => (Below w.heap.size w W' ∧ W'.heap[w.heap.size + 1]? = some (.cells #[.map (some w.heap.size)] 192 (0, 0))) ∧ NmIs W' w.heap.size (L.take k))
      (fun W' => Below w.heap.size w W' ∧ W'.heap[w.heap.size + 1]? = some (.cells #[.map (some w.heap.size)] 192 (0, 0))) hl ⟨⟨hW.1, hW.2.1⟩, hW.2.2⟩ (fun _ _ h => h.1) hR (fun k x W' hf hW' => by
        have hkl : k < L.length := (List.getElem?_eq_some_iff.1 hf).1
        have hfe : L[k] = x := (List.getElem?_eq_some_iff.1 hf).2
        have hgd : L.getD k [] = x := by rw [List.getD_eq_getElem?_getD, hf]; rfl
        refine (count1_any x (L.take k) (w.heap.size + 1) w.heap.size W' (hx x (List.mem_of_getElem? hf)) (by rw [List.length_take]; omega) (by omega) hW'.1.2 hW'.2).mono ?_
        rintro e w3 ⟨rfl, hg, hno⟩
        rw [hgd]
        have hs := (Array.getElem?_eq_some_iff.1 hW'.1.2).1
        have hR3 : Below w.heap.size w w3 ∧ w3.heap[w.heap.size + 1]? = some (.cells #[.map (some w.heap.size)] 192 (0, 0)) :=
          ⟨hW'.1.1.grown hg (by omega) (fun k hk => by injection hk with hk; omega), (hg.block _ hs (by simp)).trans hW'.1.2⟩
        refine ⟨rfl, hR3, fun h => ⟨hR3, ?_⟩⟩
        rw [List.take_succ_eq_append_getElem hkl, hfe]
        exact hno h)
    refine h.mono ?_
    rintro e w' ⟨rfl, hb, _⟩
    have e1 := range_dup L n (by omega)
    rw [List.take_of_length_le (by omega)] at e1
    rw [e1]
    exact ⟨rfl, hb⟩
  have HC : Hid (∀ B, dupT L = B → errE (cntT L) = if B then errK 7 else if 4096 < n then errK 2 else .nilIface) := fun B h => by
    unfold cntT
    rw [h, hn]
    cases B
    · by_cases h4 : 4096 < n
      · simp [h4, errE]
      · simp [h4, errE]
    · simp [errE]
  have HS : Hid (∀ o, Below w.heap.size w ((w.alloc (.map #[] 0)).alloc o) ∧ (((w.alloc (.map #[] 0)).alloc o).heap[w.heap.size + 1]? = some o) ∧ NmIs ((w.alloc (.map #[] 0)).alloc o) w.heap.size []) := fun o => by
    have h1 : (w.alloc (.map #[] 0)).heap.size = w.heap.size + 1 := World.size_alloc _ _
    refine ⟨((Below.refl _ _).alloc (Nat.le_refl _) _).alloc (by omega) _, ?_, (NmIs.made w).below ((Below.refl _ _).alloc (Nat.le_refl _) _)⟩
    have h : ((w.alloc (.map #[] 0)).alloc o).heap[(w.alloc (.map #[] 0)).heap.size]? = some o := Array.getElem?_push_size
    rw [h1] at h
    exact h
  have hmm := @run_makeMap Tryz.prog
  clear hx hr hn
  cases hd : dupT L <;> rw [hd] at HX <;> (have HD := Lib.hid (HC.out _ hd); clear hd HC)
  · by_cases h4 : 4096 < n
    · have d1 : (4096 : Int) < n := by omega
      rw [if_neg (by simp), if_pos h4] at HD
      go_enter Tryz.func86, Tryz.ntmps86
      go_wp2_with fail
      refine (HX.out _ (HS.out _)).mono ?_
      rintro e w' ⟨rfl, hb⟩
      have HB := Lib.hid hb
      clear hb
      go_wp2_with fail
      go_ret
      exact ret_val HD.out.symm HB.out
    · have d1 : ¬ (4096 : Int) < n := by omega
      rw [if_neg (by simp), if_neg h4] at HD
      go_enter Tryz.func86, Tryz.ntmps86
      go_wp2_with fail
      refine (HX.out _ (HS.out _)).mono ?_
      rintro e w' ⟨rfl, hb⟩
      have HB := Lib.hid hb
      clear hb
      go_wp2_with fail
      go_ret
      exact ret_val HD.out.symm HB.out
  · rw [if_pos rfl] at HD
    go_enter Tryz.func86, Tryz.ntmps86
    go_wp2_with fail
    refine (HX.out _ (HS.out _)).mono ?_
    rintro e w' ⟨rfl, hb⟩
    have HB := Lib.hid hb
    clear hb
    go_wp2_with fail
    go_ret
    exact ret_val HD.out.symm HB.out
end Go.Proofs.YthnogakjaaopkaaGreatDoor
/- Contracts: the document's trim, check, List. -/
namespace Go.Proofs.YthnogakjaaopkaaGreatDoor
open Go.RowKit

theorem bl2_int (x : UInt8) : (bl2 x = true ∧ ((((x.toNat : Int) == 32) = true) ∨ (((x.toNat : Int) == 32) = false ∧ ((x.toNat : Int) == 9) = true))) ∨ (bl2 x = false ∧ ((x.toNat : Int) == 32) = false ∧ ((x.toNat : Int) == 9) = false) := by
  have h : ∀ k : UInt8, (((x.toNat : Int)) == ((k.toNat : Nat) : Int)) = (x == k) := fun k => by
    rw [Bool.eq_iff_iff]
    simp only [beq_iff_eq]
    exact ⟨fun e => UInt8.toNat_inj.1 (by omega), fun e => by rw [e]⟩
  have h1 : ((x.toNat : Int) == 32) = (x == 32) := h 32
  have h2 : ((x.toNat : Int) == 9) = (x == 9) := h 9
  rw [h1, h2]
  unfold bl2
  cases (x == 32) <;> cases (x == 9) <;> simp
theorem ldw_cases (t l : Tx) (ht : ldw t = ldw l) : (∃ x r, t = x :: r ∧ bl2 x = true ∧ ldw r = ldw l) ∨ (t = [] ∧ ldw l = []) ∨ ∃ x r, t = x :: r ∧ bl2 x = false ∧ ldw l = x :: r := by
  rcases t with _ | ⟨x, r⟩
  · exact .inr (.inl ⟨rfl, ht.symm⟩)
  · cases hb : bl2 x <;> rw [ldw_cons, hb] at ht
    · exact .inr (.inr ⟨x, r, rfl, hb, ht.symm⟩)
    · exact .inl ⟨x, r, rfl, hb, ht⟩
theorem rdw_cases (t l : Tx) (ht : rdw t = rdw l) : (∃ r x, t = r ++ [x] ∧ bl2 x = true ∧ rdw r = rdw l) ∨ (t = [] ∧ rdw l = []) ∨ ∃ r x, t = r ++ [x] ∧ bl2 x = false ∧ rdw l = r ++ [x] := by
  rcases List.eq_nil_or_concat t with rfl | ⟨r, x, rfl⟩
  · exact .inr (.inl ⟨rfl, ht.symm⟩)
  · rw [List.concat_eq_append] at ht ⊢
    cases hb : bl2 x <;> rw [rdw_snoc, hb] at ht
    · exact .inr (.inr ⟨r, x, rfl, hb, ht.symm⟩)
    · exact .inl ⟨r, x, rfl, hb, ht⟩
set_option maxRecDepth 100000 in
theorem refTrim_any (l : Tx) (w : World) (hl : l.length ≤ 4611686018427387904) : Calls Tryz.prog 79 #[.string (str l)] w fun e w' => e = .returned (.string (str (trw l))) ∧ w = w' := by
  have HT : Hid (trw l = rdw (ldw l)) := rfl
  obtain ⟨N, hN⟩ : ∃ N, l.length = N := ⟨_, rfl⟩
  rw [hN] at hl
  have HN := Lib.hid hN
  clear hN
  obtain ⟨Z, hZ⟩ : ∃ Z, trw l = Z := ⟨_, rfl⟩
  rw [hZ] at HT ⊢
  clear hZ
  go_enter Tryz.func79, Tryz.ntmps79
  go_wp2_with fail
  go_loop [0] (fun v => ∃ t : Tx, v = .string (str t) ∧ ldw t = ldw l ∧ t.length ≤ N) (fun v => szOf v)
  case atStart => exact ⟨l, rfl, rfl, by rw [HN.out]; exact Nat.le_refl _⟩
  case round =>
    obtain ⟨t, rfl, ht, hle⟩ := hrel
    rcases ldw_cases t l ht with ⟨x, r, rfl, hb, hr⟩ | hend
    · have HS := Lib.hid hr
      obtain ⟨m, hm⟩ : ∃ m, r.length = m := ⟨_, rfl⟩
      obtain ⟨S, hS, hsz, hx, hc⟩ := cons_facts x r m hm
      have HC := Lib.hid hc
      have hbi := bl2_int x
      rw [List.length_cons, hm] at hle
      have HM := Lib.hid hm
      rw [hS]
      rcases hbi with ⟨_, e1 | ⟨e1, e2⟩⟩ | ⟨e0, _⟩
      rotate_right
      · rw [hb] at e0; cases e0
      all_goals
        clear ht hb hm hr hS hc
        go_wp2_with fail
        go_round
        case rel => exact ⟨r, congrArg Value.string HC.out, HS.out, by rw [HM.out]; omega⟩
        case measure =>
          rw [HC.out]
          show r.length < S.size
          rw [HM.out, hsz]
          omega
    · have HE : Hid (Z = rdw t) := by
        unfold Hid
        rw [HT.out]
        rcases hend with ⟨rfl, h⟩ | ⟨x, r, rfl, _, h⟩ <;> rw [h]
      clear ht
      rcases hend with ⟨rfl, h⟩ | ⟨x, r, rfl, hb, h⟩
      case' inl =>
        have hz : (str []).size = 0 := rfl
        obtain ⟨S, hS⟩ : ∃ S, str [] = S := ⟨_, rfl⟩
        obtain ⟨T, hT⟩ : ∃ T : Tx, T = [] := ⟨_, rfl⟩
        have HS : Hid (S = str T) := by unfold Hid; rw [hT, hS]
        have HL : Hid (T.length ≤ N) := by unfold Hid; rw [hT]; exact Nat.zero_le _
        rw [← hT] at HE
        rw [hS] at hz ⊢
        clear hS h hle hT
        go_wp2_with fail
      case' inr =>
        obtain ⟨m, hm⟩ : ∃ m, r.length = m := ⟨_, rfl⟩
        obtain ⟨S, hS, hsz, hx, hc⟩ := cons_facts x r m hm
        have hbi : ((x.toNat : Int) == 32) = false ∧ ((x.toNat : Int) == 9) = false := by
          rcases bl2_int x with ⟨e0, _⟩ | ⟨_, h⟩
          · rw [hb] at e0; cases e0
          · exact h
        obtain ⟨e1, e2⟩ := hbi
        have HL := Lib.hid hle
        rw [List.length_cons, hm] at hle
        obtain ⟨T, hT⟩ : ∃ T : Tx, T = x :: r := ⟨_, rfl⟩
        have HS : Hid (S = str T) := by unfold Hid; rw [hT, hS]
        rw [← hT] at HE HL
        rw [hS]
        clear hb hm hS hc h hT
        go_wp2_with fail
      all_goals
        go_loop [0] (fun v => ∃ t : Tx, v = .string (str t) ∧ rdw t = rdw T ∧ t.length ≤ N) (fun v => szOf v)
        case atStart => exact ⟨T, congrArg Value.string HS.out, rfl, HL.out⟩
        case round =>
          obtain ⟨t, rfl, ht, hle⟩ := hrel
          rcases rdw_cases t T ht with ⟨r, x, rfl, hb, hr⟩ | ⟨rfl, h⟩ | ⟨r, x, rfl, hb, h⟩
          · have HSS := Lib.hid hr
            obtain ⟨m, hm⟩ : ∃ m, r.length = m := ⟨_, rfl⟩
            obtain ⟨S', hS', hsz', hx', hc'⟩ := snoc_facts r x m hm
            have HC := Lib.hid hc'
            have hbi := bl2_int x
            rw [List.length_append, hm] at hle
            have hle' : m + 1 ≤ N := hle
            have HM := Lib.hid hm
            rw [hS']
            rcases hbi with ⟨_, f1 | ⟨f1, f2⟩⟩ | ⟨e0, _⟩
            rotate_right
            · rw [hb] at e0; cases e0
            all_goals
              clear ht hb hm hr hS' hc' hle
              go_wp2_with fail
              go_round
              case rel => exact ⟨r, congrArg Value.string HC.out, HSS.out, by rw [HM.out]; omega⟩
              case measure =>
                rw [HC.out]
                show r.length < S'.size
                rw [HM.out, hsz']
                omega
          · have HZ : Hid (str [] = str Z) := by unfold Hid; rw [HE.out, h]
            have hz' : (str []).size = 0 := rfl
            obtain ⟨S', hS'⟩ : ∃ S', str [] = S' := ⟨_, rfl⟩
            rw [hS'] at HZ hz' ⊢
            clear hS' ht hle h
            go_wp2_with fail
            go_ret
            exact ⟨ret_str8 HZ.out, rfl⟩
          · have HZ : Hid (str (r ++ [x]) = str Z) := by unfold Hid; rw [HE.out, h]
            obtain ⟨m, hm⟩ : ∃ m, r.length = m := ⟨_, rfl⟩
            obtain ⟨S', hS', hsz', hx', hc'⟩ := snoc_facts r x m hm
            have hbi : ((x.toNat : Int) == 32) = false ∧ ((x.toNat : Int) == 9) = false := by
              rcases bl2_int x with ⟨e0, _⟩ | ⟨_, h⟩
              · rw [hb] at e0; cases e0
              · exact h
            obtain ⟨f1, f2⟩ := hbi
            rw [List.length_append, hm] at hle
            have hle' : m + 1 ≤ N := hle
            rw [hS'] at HZ ⊢
            clear ht hb hm h hS' hc' hle
            go_wp2_with fail
            go_ret
            exact ⟨ret_str8 HZ.out, rfl⟩
theorem below_dr {B : Nat} (w : World) (q : Nat) : Below B w (w.drewN q) := ⟨rfl, rfl, rfl, Nat.le_refl _, fun _ _ => rfl⟩
/-- What check answers, with draws behind it. -/
def CkE (L : List Tx) (w : World) (e : Ending) (w' : World) : Prop := e = .returned (.int .i64 (chkT L : Nat)) ∧ Below w.heap.size w w'
theorem ckE_of {L : List Tx} {w w' : World} {k : Int} {m : Nat} (h : chkT L = m) (hk : k = m) (hb : Below w.heap.size w w') : CkE L w (.returned (.int .i64 k)) w' := by
  subst h
  subst hk
  exact ⟨rfl, hb⟩
set_option maxHeartbeats 1000000 in
set_option maxRecDepth 100000 in
theorem refCheck_any (A : Option Addr) (n c : Nat) (L : List Tx) (w : World) (hn : L.length = n) (hl : n ≤ 1000000) (hr : RdS w A L) :
    Calls Tryz.prog 80 #[.slice A n c] w (CkE L w) := by
  have HS := Lib.hid (And.intro hn hr)
  clear hn hr
  have HG : Hid (∀ k W, k < n → Below w.heap.size w W → ∃ ad x, A = some ad ∧ L[k]? = some x ∧ W.cell? (ad.add k) = some (.string (str x))) := fun k W hk hb => by
    have hk2 : k < L.length := by rw [HS.out.1]; exact hk
    have hkL : k < (L.map txC).length := by rw [List.length_map]; exact hk2
    obtain ⟨ad, e, c0⟩ := (Rd.below HS.out.2 hb).at_ hkL
    exact ⟨ad, L[k], e, List.getElem?_eq_getElem hk2, by rw [c0, List.getElem_map]; rfl⟩
  go_enter Tryz.func80, Tryz.ntmps80
  go_wp2_with fail
  go_loopw [3] (fun v w' => ∃ i : Nat, v = .int .i64 i ∧ i ≤ n ∧ (∀ p ∈ L.take i, p ≠ []) ∧ Below w.heap.size w w') (fun v _ => n - (intOf v).toNat)
  case atStart => exact ⟨0, rfl, Nat.zero_le _, (fun p hp => by cases hp), Below.refl _ _⟩
  case round =>
    obtain ⟨i, rfl, hi, hne, hb⟩ := hrel
    have HB := Lib.hid (And.intro hne hb)
    clear hne hb
    rcases Nat.lt_or_ge i n with hlt | hge
    · have q0 : (0 : Int) ≤ i := by omega
      have q1 : (i : Int) < n := by omega
      obtain ⟨ad, x, rfl, hx, c0⟩ := HG.out i wr hlt HB.out.2
      have HX := Lib.hid hx
      clear hx
      rcases x with _ | ⟨y, x⟩
      · have hck : chkT L = 3 := by
          rw [chkT, if_pos (List.any_eq_true.2 ⟨[], List.mem_of_getElem? HX.out, rfl⟩)]
        have HCk := Lib.hid hck
        have t0 : str ([] : Tx) = { data := #[] } := rfl
        rw [t0] at c0
        clear t0 hck
        go_wp2_with fail
        go_ret
        exact ckE_of HCk.out rfl HB.out.2
      · have t1 : (str (y :: x)).toList.isEmpty = false := by rw [str_toList]; rfl
        generalize str (y :: x) = S at *
        go_wp2_with fail
        refine ⟨⟨i + 1, by go_num, hlt, fun p hp => ?_, HB.out.2⟩, by simp [intOf]; omega⟩
        have hiL : i < L.length := by rw [HS.out.1]; exact hlt
        rw [List.take_succ_eq_append_getElem hiL] at hp
        rcases List.mem_append.1 hp with hp | hp
        · exact HB.out.1 p hp
        · rw [List.mem_singleton.1 hp]
          have h2 := HX.out
          rw [List.getElem?_eq_getElem hiL] at h2
          rw [Option.some.inj h2]
          simp
    · obtain rfl : i = n := by omega
      have q1 : ¬ ((i : Int) < i) := by omega
      have hany : L.any List.isEmpty = false := by
        rw [List.any_eq_false]
        intro p hp he
        refine HB.out.1 p ?_ (List.isEmpty_iff.1 he)
        rw [List.take_of_length_le (by rw [HS.out.1]; exact Nat.le_refl _)]
        exact hp
      have HAny := Lib.hid hany
      have HB1 := Lib.hid HB.out.2
      clear hany HB hge hi
      go_wp2_with fail
      go_loopw [4, 5] (fun v _ w' => ∃ j : Nat, v = .int .i64 j ∧ j ≤ i ∧ dupT (L.take j) = false ∧ Below w.heap.size w w') (fun v _ _ => i - (intOf v).toNat)
      case atStart => exact ⟨0, rfl, Nat.zero_le _, rfl, HB1.out⟩
      case round =>
        obtain ⟨j, rfl, hj, hdu, hb⟩ := hrel
        have HB := Lib.hid (And.intro hdu hb)
        clear hdu hb
        rcases Nat.lt_or_ge j i with hlt | hge
        · have q0 : (0 : Int) ≤ j := by omega
          have q2 : (j : Int) < i := by omega
          obtain ⟨x, hx⟩ : ∃ x, L[j]? = some x := ⟨L[j]'(by rw [HS.out.1]; exact hlt), List.getElem?_eq_getElem _⟩
          have HX := Lib.hid hx
          clear hx
          go_wp2_with fail
          go_loopw [5] (fun v w' => ∃ k : Nat, v = .int .i64 k ∧ k ≤ j ∧ (L.take k).any (· == x) = false ∧ Below w.heap.size w w') (fun v _ => j - (intOf v).toNat)
          case atStart => exact ⟨0, rfl, Nat.zero_le _, rfl, HB.out.2⟩
          case round =>
            obtain ⟨k, rfl, hk, hno, hb⟩ := hrel
            have HC := Lib.hid (And.intro hno hb)
            clear hno hb
            rcases Nat.lt_or_ge k j with hlk | hgk
            · have q3 : (0 : Int) ≤ k := by omega
              have q4 : (k : Int) < j := by omega
              have q5 : (k : Int) < i := by omega
              obtain ⟨ad, x', rfl, hx', c0⟩ := HG.out j wr hlt HC.out.2
              obtain ⟨ad', y, hA, hy, c1⟩ := HG.out k wr (by omega) HC.out.2
              injection hA with hA
              subst hA
              obtain rfl : x' = x := Option.some.inj (hx'.symm.trans HX.out)
              have c0' : wr.drew.cell? (ad.add j) = some (.string (str x')) := c0
              have c1' : wr.drew.cell? (ad.add k) = some (.string (str y)) := c1
              have HY := Lib.hid hy
              have hkL : k < L.length := by rw [HS.out.1]; omega
              have hjL : j < L.length := by rw [HS.out.1]; omega
              have hyk : L[k] = y := by rw [List.getElem?_eq_getElem hkL] at hy; exact Option.some.inj hy
              have hxj : L[j] = x' := by rw [List.getElem?_eq_getElem hjL] at hx'; exact Option.some.inj hx'
              have htk : (L.take (k + 1)).any (· == x') = ((L.take k).any (· == x') || y == x') := by
                rw [List.take_succ_eq_append_getElem hkL, List.any_append, hyk]
                simp
              by_cases he : y = x'
              · subst he
                have e1 : ((str y).toList == (str y).toList) = true := beq_self_eq_true _
                have hck : chkT L = 7 := by
                  rw [chkT, HAny.out, if_neg (by simp), if_pos]
                  refine dup_take (k := j + 1) ?_
                  rw [List.take_succ_eq_append_getElem hjL, dup_snoc, hxj, Bool.or_eq_true]
                  right
                  refine List.any_eq_true.2 ⟨y, ?_, beq_self_eq_true _⟩
                  rw [← hyk]
                  exact List.mem_take_iff_getElem.2 ⟨k, by omega, rfl⟩
                have HCk := Lib.hid hck
                generalize str y = S at *
                clear hck htk hyk hxj hx' hy hkL hjL
                go_wp2_with fail
                go_quiet (fail)
                go_wp2_with fail
                go_ret
                exact ckE_of HCk.out rfl (HC.out.2.trans (below_dr _ _))
              · have e1 : ((str x').toList == (str y).toList) = false := by
                  rw [str_toList, str_toList]
                  exact beq_eq_false_iff_ne.2 (Ne.symm he)
                have HNo : Hid ((L.take (k + 1)).any (· == x') = false) := by
                  unfold Hid
                  rw [htk, HC.out.1, Bool.false_or]
                  exact beq_eq_false_iff_ne.2 he
                generalize str x' = S at *
                generalize str y = T at *
                clear htk hyk hxj hx' hy hkL hjL he
                go_wp2_with fail
                go_quiet (fail)
                go_wp2_with fail
                refine ⟨⟨k + 1, by go_num, hlk, HNo.out, HC.out.2.trans (below_dr _ _)⟩, by simp [intOf]; omega⟩
            · obtain rfl : k = j := by omega
              have q3 : ¬ ((k : Int) < k) := by omega
              go_wp2_with fail
              have hkL : k < L.length := by rw [HS.out.1]; omega
              refine ⟨⟨k + 1, by go_num, hlt, ?_, HC.out.2⟩, by simp [intOf]; omega⟩
              have h2 := HX.out
              rw [List.getElem?_eq_getElem hkL] at h2
              rw [List.take_succ_eq_append_getElem hkL, dup_snoc, HB.out.1, Bool.false_or, Option.some.inj h2]
              exact HC.out.1
        · obtain rfl : j = i := by omega
          have q2 : ¬ ((j : Int) < j) := by omega
          have hdup : dupT L = false := by
            have h1 := HB.out.1
            rwa [List.take_of_length_le (by rw [HS.out.1]; exact Nat.le_refl _)] at h1
          by_cases h4 : 4096 < j
          · have d1 : (4096 : Int) < j := by omega
            have HCk : Hid (chkT L = 2) := by unfold Hid; rw [chkT, HAny.out, if_neg (by simp), hdup, if_neg (by simp), if_pos (by rw [HS.out.1]; exact h4)]
            clear hdup
            go_wp2_with fail
            go_ret
            exact ckE_of HCk.out rfl HB.out.2
          · have d1 : ¬ (4096 : Int) < j := by omega
            have HCk : Hid (chkT L = 0) := by unfold Hid; rw [chkT, HAny.out, if_neg (by simp), hdup, if_neg (by simp), if_neg (by rw [HS.out.1]; exact h4)]
            clear hdup
            go_wp2_with fail
            go_ret
            exact ckE_of HCk.out rfl HB.out.2
end Go.Proofs.YthnogakjaaopkaaGreatDoor
/- Contract: the document's List. -/
namespace Go.Proofs.YthnogakjaaopkaaGreatDoor
open Go.RowKit

theorem wpList_appSt {w : World} {ops : Array Oper} {rest : List Oper} {o : Oper} {a : Go.Act} {Q : Exit → Go.Act → World → Prop} (hgd : o.guard = none) (s x : Operand)
    (ho : o.op = .call { callee := .builtin .append, args := #[s, x], argTypes := #[71, 71] })
    (base : Nat) (v : Value) (n : Nat) (us : List Value) (hs : a.eval s = v) (W : World) (hown : W.ownsRow base 9 1 v n us) (Y : ByteArray) (hw : w = W.alloc (.cells #[.string Y] 9)) (hx : a.eval x = .slice (some ⟨W.heap.size, 0, none⟩) 1 1) (hn : n ≤ 2000000) (hbase : base ≤ W.heap.size)
    (h : ∀ v' w', w'.ownsRow base 9 1 v' (n + 1) (us ++ [.string Y]) → w.grownBy w' v.ownBlock → (v'.ownBlock = v.ownBlock ∨ v'.ownBlock = some w.heap.size) → wpList Tryz.prog ops Q rest (a.put o.dst v') w') :
    wpList Tryz.prog ops Q (o :: rest) a w := by
  subst hw
  exact wpList_app hgd s x 71 ho elStr base v n us hs (hown.alloc _) (some ⟨W.heap.size, 0, none⟩) 1 1 [.string Y] hx rfl (Rd.block (MapKept.heap_alloc W (.cells #[.string Y] 9)).1) (fun u hu => by rw [List.mem_singleton.1 hu]; rfl) (by unfold maxLen; omega) (by omega) (by rw [World.size_alloc]; omega) h
theorem slice_piece (S D : ByteArray) (f i n : Nat) (hs : S.size = n) (hf : f ≤ i) (hi : i ≤ n) (_ : n ≤ 4611686018427387904) (hc : S.extract f i = D) (W : World) :
    (Instr.slice 9 (.string S) (some (.int .i64 (f : Int))) (some (.int .i64 (i : Int))) none).run Tryz.prog W = .ok (.string D) W := by
  rw [run_slice_string _ _ _ _ _ _ _ Tryz.underlying9 (by omega) (by omega) (by rw [hs]; omega)]
  rw [show ((f : Int)).toNat = f by omega, show ((i : Int)).toNat = i by omega, hc]
/-- How the document's List ends. -/
def RlE (R : List Tx × Nat) (w : World) (e : Ending) (w' : World) : Prop := ∃ v, e = .returned (.tuple #[v, .int .i64 (R.2 : Nat)]) ∧ RowS w' v R.1 ∧ Below w.heap.size w w'
theorem rlE_of {R : List Tx × Nat} {w w' : World} {v : Value} {L : List Tx} {k : Nat} {j : Int} (hR : (L, k) = R) (hj : j = k) (hv : RowS w' v L) (hb : Below w.heap.size w w') : RlE R w (.returned (.tuple #[v, .int .i64 j])) w' := by
  subst hR
  subst hj
  exact ⟨v, rfl, hv, hb⟩
theorem RowS.none (w : World) : RowS w (.slice none 0 0) [] := ⟨Option.none, 0, rfl, Nat.le_refl _, Nat.zero_le _, Rd.nil⟩
/-- A part's end: a comma, or the text's end. -/
theorem part_at (l : Tx) (f i : Nat) (hf : f ≤ i) (hi : i < l.length) (hno : 44 ∉ (l.drop f).take (i - f)) (hx : l[i] = 44) : cutAt 44 (l.drop f) = (l.drop f).take (i - f) :: cutAt 44 (l.drop (i + 1)) := by
  have e : l.drop f = (l.drop f).take (i - f) ++ 44 :: l.drop (i + 1) := by
    conv => lhs; rw [← List.take_append_drop (i - f) (l.drop f)]
    rw [List.drop_drop, show f + (i - f) = i by omega, List.drop_eq_getElem_cons hi, hx]
  conv => lhs; rw [e]
  exact cut_of_no 44 _ _ hno
theorem part_next (l : Tx) (f i : Nat) (hf : f ≤ i) (hi : i < l.length) : (l.drop f).take (i + 1 - f) = (l.drop f).take (i - f) ++ [l[i]] := by
  have hlt : i - f < (l.drop f).length := by rw [List.length_drop]; omega
  rw [show i + 1 - f = (i - f) + 1 by omega, List.take_succ_eq_append_getElem hlt, List.getElem_drop]
  congr 3
  omega
set_option maxHeartbeats 2000000 in
set_option maxRecDepth 100000 in
theorem refList_any (l : Tx) (w : World) (hl : l.length ≤ 900000) : Calls Tryz.prog 61 #[.string (str l)] w (RlE (listT l) w) := by
  obtain ⟨n, hn⟩ : ∃ n, l.length = n := ⟨_, rfl⟩
  rw [hn] at hl
  have hsz : (str l).size = n := hn
  have HT := Lib.hid (fun x w h => refTrim_any x w h)
  have HN := Lib.hid hn
  obtain ⟨R, hR⟩ : ∃ R, listT l = R := ⟨_, rfl⟩
  rw [hR]
  have HTl := Lib.hid (fun w => refTrim_any l w (by omega))
  by_cases ht : trw l = []
  · have hRR : ([], 13) = R := by rw [← hR, listT, if_pos ht]
    have HR := Lib.hid hRR
    rw [ht] at HTl
    have t0 : str ([] : Tx) = { data := #[] } := rfl
    rw [t0] at HTl
    generalize str l = S at *
    clear hn hR hRR ht t0
    go_enter Tryz.func61, Tryz.ntmps61
    go_wp2_with fail
    refine (HTl.out _).mono ?_
    rintro e w' ⟨rfl, rfl⟩
    go_wp2_with fail
    go_ret2
    exact rlE_of HR.out rfl (RowS.none _) (Below.refl _ _)
  · have hRR : (if chkT (partsT l) ≠ 0 then ([], chkT (partsT l)) else (partsT l, 0)) = R := by rw [← hR, listT, if_neg ht]
    have HR := Lib.hid hRR
    have t1 : (str (trw l)).toList.isEmpty = false := by rw [str_toList]; simpa using ht
    obtain ⟨S, hS⟩ : ∃ S, str l = S := ⟨_, rfl⟩
    have HS := Lib.hid hS
    rw [hS] at hsz HTl ⊢
    generalize str (trw l) = T at *
    clear hn hR hRR ht hS
    go_enter Tryz.func61, Tryz.ntmps61
    go_wp2_with fail
    refine (HTl.out _).mono ?_
    rintro e w' ⟨rfl, rfl⟩
    go_wp2_with fail
    go_loopw [4, 5, 6] (fun o f i wr => ∃ (a F I : Nat) (acc : List Tx), i = .int .i64 I ∧ f = .int .i64 F ∧ acc.length = a ∧ a ≤ F ∧ I ≤ n + 1 ∧ wr.ownsRow w.heap.size 9 1 o a (acc.map txC) ∧ Below w.heap.size w wr ∧
      ((I ≤ n ∧ F ≤ I ∧ 44 ∉ (l.drop F).take (I - F) ∧ acc ++ (cutAt 44 (l.drop F)).map trw = partsT l) ∨ (I = n + 1 ∧ F ≤ n + 1 ∧ acc = partsT l))) (fun _ _ i _ => n + 1 - (intOf i).toNat)
    case atStart => exact ⟨0, 0, 0, [], rfl, rfl, rfl, Nat.le_refl _, Nat.zero_le _, World.ownsRow_nil _ _ _ _, Below.refl _ _, .inl ⟨Nat.zero_le _, Nat.le_refl _, by simp, rfl⟩⟩
    case round =>
      obtain ⟨a, F, I, acc, rfl, rfl, ha, haF, hI, ho, hb, hd⟩ := hrel
      have HA := Lib.hid (And.intro ha (And.intro ho hb))
      clear ha ho hb
      rcases hd with ⟨h1, h2, h3, h4⟩ | ⟨rfl, h2, h4⟩
      · have HD := Lib.hid (And.intro h3 h4)
        clear h3 h4
        have q0 : (0 : Int) ≤ I := by omega
        have q1 : (I : Int) ≤ n := by omega
        have q2 : (0 : Int) ≤ F := by omega
        have q3 : (F : Int) ≤ I := by omega
        rcases Nat.lt_or_ge I n with hlt | hge
        · have q4 : (I : Int) < n := by omega
          have q5 : ¬ ((I : Int) = n) := by omega
          have hIl : I < l.length := by rw [HN.out]; exact hlt
          obtain ⟨x, hx⟩ : ∃ x, l[I] = x := ⟨_, rfl⟩
          have hat : S[I]'(by rw [hsz]; exact hlt) = x := by
            have := str_at l I hIl
            rw [hx] at this
            have hS := HS.out
            subst hS
            exact this
          have hnx := part_next l F I h2 hIl
          by_cases hc : x = 44
          · subst hc
            have hcut := part_at l F I h2 hIl HD.out.1 hx
            obtain ⟨P, hP⟩ : ∃ P, (l.drop F).take (I - F) = P := ⟨_, rfl⟩
            have hext : S.extract F I = str P := by
              have hS := HS.out
              subst hS
              rw [str_cut, hP]
            have hpl : P.length ≤ 900000 := by
              rw [← hP, List.length_take]
              omega
            rw [hP] at hcut
            have hsl := fun W => slice_piece S (str P) F I n hsz h2 h1 (by omega) hext W
            have HTP := Lib.hid (fun W => HT.out P W (by omega))
            have HC : Hid ((acc ++ [trw P]) ++ (cutAt 44 (l.drop (I + 1))).map trw = partsT l) := by
              unfold Hid
              rw [← HD.out.2, hcut, List.map_cons, List.append_assoc]
              rfl
            have HTX : Hid (Value.string (str (trw P)) = txC (trw P)) := rfl
            generalize str (trw P) = Y at *
            generalize str P = Z at *
            clear hx hIl hnx hP hext hpl hcut
            go_wp2_with fail
            refine (HTP.out _).mono ?_
            rintro e w' ⟨rfl, rfl⟩
            go_wp2_with
              (at_builtin
               refine wpList_appSt rfl (.tmp 27) (.tmp 33) rfl w.heap.size u4 a (acc.map txC) rfl wr HA.out.2.1 Y rfl rfl (by omega) HA.out.2.2.size ?_)
            intro v' w' ho hg hob
            have HN2 := Lib.hid (And.intro ho (And.intro hg hob))
            clear ho hg hob
            go_wp2_with fail
            refine ⟨⟨a + 1, I + 1, I + 1, acc ++ [trw P], by go_num, by go_num, by rw [List.length_append, HA.out.1]; rfl, by omega, by omega, ?_, (HA.out.2.2.alloc HA.out.2.2.size _).grown HN2.out.2.1 (by rw [World.size_alloc]; have := HA.out.2.2.size; omega) (fun k hk => (HA.out.2.1.lt k hk).1), .inl ⟨hlt, Nat.le_refl _, by simp, HC.out⟩⟩, by simp [intOf]; omega⟩
            rw [List.map_append, List.map_singleton, ← HTX.out]
            exact HN2.out.1
          · have e1 : ((x.toNat : Int) == 44) = false := by
              rw [beq_eq_false_iff_ne]
              intro h
              exact hc (UInt8.toNat_inj.1 (by have : (44 : UInt8).toNat = 44 := rfl; omega))
            have HNo : Hid (44 ∉ (l.drop F).take (I + 1 - F)) := by
              unfold Hid
              rw [hnx, hx]
              intro h
              rcases List.mem_append.1 h with h | h
              · exact HD.out.1 h
              · exact hc (List.mem_singleton.1 h).symm
            clear hx hIl hnx hc
            go_wp2_with fail
            refine ⟨⟨a, F, I + 1, acc, by go_num, rfl, HA.out.1, haF, by omega, HA.out.2.1, HA.out.2.2, .inl ⟨hlt, by omega, HNo.out, HD.out.2⟩⟩, by simp [intOf]; omega⟩
        · obtain rfl : I = n := by omega
          have q4 : ((I : Int) == (I : Int)) = true := beq_self_eq_true _
          have hP : (l.drop F).take (I - F) = l.drop F := by rw [List.take_of_length_le]; rw [List.length_drop, HN.out]; exact Nat.le_refl _
          have hcut : cutAt 44 (l.drop F) = [l.drop F] := cut_no 44 _ (hP ▸ HD.out.1)
          have hext : S.extract F I = str (l.drop F) := by
            have hS := HS.out
            subst hS
            rw [str_cut, hP]
          have hpl : (l.drop F).length ≤ 900000 := by
            rw [List.length_drop, HN.out]
            omega
          have hsl := fun W => slice_piece S (str (l.drop F)) F I I hsz h2 h1 (by omega) hext W
          have HTP := Lib.hid (fun W => HT.out (l.drop F) W (by omega))
          have HC : Hid (acc ++ [trw (l.drop F)] = partsT l) := by
            unfold Hid
            rw [← HD.out.2, hcut]
            rfl
          have HTX : Hid (Value.string (str (trw (l.drop F))) = txC (trw (l.drop F))) := rfl
          generalize str (trw (l.drop F)) = Y at *
          generalize str (l.drop F) = Z at *
          clear hP hext hpl hcut
          go_wp2_with fail
          refine (HTP.out _).mono ?_
          rintro e w' ⟨rfl, rfl⟩
          go_wp2_with
            (at_builtin
             refine wpList_appSt rfl (.tmp 27) (.tmp 33) rfl w.heap.size u4 a (acc.map txC) rfl wr HA.out.2.1 Y rfl rfl (by omega) HA.out.2.2.size ?_)
          intro v' w' ho hg hob
          have HN2 := Lib.hid (And.intro ho (And.intro hg hob))
          clear ho hg hob
          go_wp2_with fail
          refine ⟨⟨a + 1, I + 1, I + 1, acc ++ [trw (l.drop F)], by go_num, by go_num, by rw [List.length_append, HA.out.1]; rfl, by omega, by omega, ?_, (HA.out.2.2.alloc HA.out.2.2.size _).grown HN2.out.2.1 (by rw [World.size_alloc]; have := HA.out.2.2.size; omega) (fun k hk => (HA.out.2.1.lt k hk).1), .inr ⟨rfl, Nat.le_refl _, HC.out⟩⟩, by simp [intOf]⟩
          rw [List.map_append, List.map_singleton, ← HTX.out]
          exact HN2.out.1
      · have q1 : ¬ ((n : Int) + 1 ≤ n) := by omega
        have ho2 := HA.out.2.1
        obtain ⟨A, c, rfl, hc1, hc2, hln, hrd, hbl⟩ := owns_form ho2
        have hCk := Lib.hid (refCheck_any A a c acc wr HA.out.1 (by omega) hrd)
        have HE := Lib.hid (And.intro hc1 (And.intro hc2 hrd))
        have HRk : Hid ((if chkT acc ≠ 0 then ([], chkT acc) else (acc, 0)) = R) := by
          have := HR.out
          rw [← h4] at this
          exact this
        obtain ⟨k, hk⟩ : ∃ k, chkT acc = k := ⟨_, rfl⟩
        unfold CkE at hCk
        rw [hk] at HRk hCk
        have hk7 : k ≤ 7 := by
          rw [← hk, chkT]
          repeat' split
          all_goals omega
        clear ho2 hc1 hc2 hln hrd hbl hk h4
        go_wp2_with fail
        refine hCk.out.mono ?_
        rintro e w5 ⟨rfl, hb5⟩
        have HB5 := Lib.hid (And.intro (HA.out.2.2.trans (hb5.mono HA.out.2.2.size)) (Rd.below HE.out.2.2 hb5))
        clear hb5
        by_cases hk0 : k = 0
        · subst hk0
          have HRk0 : Hid ((acc, 0) = R) := HRk.out
          clear HRk
          go_wp2_with fail
          go_ret2
          exact rlE_of (v := .slice A a c) HRk0.out rfl ⟨A, c, by rw [HA.out.1], by rw [HA.out.1]; exact HE.out.1, HE.out.2.1, HB5.out.2⟩ HB5.out.1
        · have HRk0 : Hid (([], k) = R) := by have h1 := HRk.out; rw [if_pos hk0] at h1; exact h1
          have q6 : ((k : Int) == 0) = false := beq_eq_false_iff_ne.2 (by omega)
          have q7 : ¬ ((k : Int) = 0) := by omega
          clear HRk hk0
          go_wp2_with fail
          go_ret2
          exact rlE_of HRk0.out rfl (RowS.none _) HB5.out.1
end Go.Proofs.YthnogakjaaopkaaGreatDoor

/- Contracts: check: which blocks can't be told; tell: a field's line. -/
import Derived.Test.YtbeehedppofpnaaGreatDoorBkCA
import Derived.Test.YtbeehedppofpnaaGreatDoorBkFn
import Derived.Test.YtbeehedppofpnaaGreatDoorBkMap
import Derived.Test.YtbeehedppofpnaaGreatDoorBkC
import Derived.Deep.RegionHeld3
namespace Go.Proofs.YtbeehedppofpnaaGreatDoor
open Go.RowKit Go.Maps

/-- A field as it lies in memory, as a value. -/
def fdV (f : MF) : Value := .agg #[.int .i64 f.1, .string (str f.2.1), .string (str f.2.2)]
theorem range_any {α : Type} (L : List α) (d : α) (q : α → Bool) : (List.range L.length).any (fun k => q (L.getD k d)) = L.any q := by
  rw [Bool.eq_iff_iff, List.any_eq_true, List.any_eq_true]
  constructor
  · rintro ⟨k, hk, h⟩
    have hk := List.mem_range.1 hk
    rw [List.getD_eq_getElem?_getD, List.getElem?_eq_getElem hk] at h
    exact ⟨_, List.getElem_mem hk, h⟩
  · rintro ⟨x, hx, h⟩
    obtain ⟨k, hk, rfl⟩ := List.getElem_of_mem hx
    refine ⟨k, List.mem_range.2 hk, ?_⟩
    rw [List.getD_eq_getElem?_getD, List.getElem?_eq_getElem hk]
    exact h
/-- ContainsFunc of fields, by a closure that answers q and reads. -/
theorem containsF0 {v : Value} {L : List MF} (g : FuncId) (caps : Array Value) (w : World) (eg : Ent1 g) (q : MF → Bool) (hl : L.length ≤ 1000000) (hv : RowF w v L)
    (hp : ∀ f W, f ∈ L → Below w.heap.size w W → Calls Tryz.prog g (#[fdV f] ++ caps) W fun e W' => e = .returned (.bool (q f)) ∧ Below W.heap.size W W') :
    Calls Tryz.prog 46 #[v, .func (.func g) #[] caps] w fun e w' => e = .returned (.bool (L.any q)) ∧ Below w.heap.size w w' := by
  have h := containsF g caps w eg (fun k => q (L.getD k (0, [], []))) (fun _ W => Below w.heap.size w W) hl hv (Below.refl _ _) (fun _ _ h => h) (fun k f W hf hW => by
    have hgd : L.getD k (0, [], []) = f := by rw [List.getD_eq_getElem?_getD, hf]; rfl
    refine (hp f W (List.mem_of_getElem? hf) hW).mono ?_
    rintro e W' ⟨rfl, hb⟩
    have hb' := hW.trans (hb.mono hW.size)
    rw [hgd]
    exact ⟨rfl, hb', fun _ => hb'⟩)
  rw [range_any] at h
  exact h
set_option maxRecDepth 100000 in
theorem noWord_any (f : MF) (w : World) (hl : f.2.1.length ≤ 1000000) : Calls Tryz.prog 43 #[fdV f] w fun e w' => e = .returned (.bool (!wordT f.2.1)) ∧ Below w.heap.size w w' := by
  have HW := Lib.hid (fun W => isWord_any f.2.1 W (by omega))
  unfold fdV
  generalize wordT f.2.1 = B at *
  generalize f.1 = a at *
  generalize str f.2.1 = S at *
  generalize str f.2.2 = V at *
  clear hl
  go_enter Tryz.func43, Tryz.ntmps43
  go_wp2_with fail
  refine (HW.out _).mono ?_
  rintro e w' ⟨rfl, rfl⟩
  go_wp2_with fail
  go_ret
  exact ⟨rfl, (Below.refl _ _).alloc (Nat.le_refl _) _⟩
theorem libHasSuf_any (l : Tx) (p : ByteArray) (w : World) (hp : p = str [92]) (hs : l.length ≤ 1000000) :
    Calls Tryz.prog 68 #[.string (str l), .string p] w fun e w' => e = .returned (.bool (goes l)) ∧ w = w' := by
  subst hp
  refine (show Calls Tryz.prog 68 #[.string (str l), .string (str [92])] w _ from Any.strings_HasSuffix Tryz.hasSufL (str l) (str [92]) w (by rw [str_size]; omega)).mono ?_
  rintro e w' ⟨rfl, rfl⟩
  exact ⟨ret_bool8 (hasSuffix_goes l), rfl⟩
/-- What isOther answers. -/
def OtP (b : Bool) (w : World) (e : Ending) (w' : World) : Prop := e = .returned (.bool b) ∧ Below w.heap.size w w'
theorem otP {b : Bool} {w w' : World} {B : Bool} (hb : B = b) (h : Below w.heap.size w w') : OtP b w (.returned (.bool B)) w' := ⟨by rw [hb], h⟩
set_option maxHeartbeats 4000000 in
set_option maxRecDepth 100000 in
theorem isOther_any (f : MF) (w : World) (hl : f.2.1.length ≤ 1000000) (hv : f.2.2.length ≤ 1000000) : Calls Tryz.prog 48 #[fdV f] w (OtP (badV (zF f)) w) := by
  have HD : Hid (badV (zF f) = (f.2.2.any sem || f.2.1 == defineT || goes f.2.2 || decide (trim f.2.2 ≠ f.2.2))) := badV_split (zF f)
  have hd : ((str f.2.1).toList == [100, 101, 102, 105, 110, 101]) = (f.2.1 == defineT) := by rw [str_toList]; rfl
  have HC := Lib.hid (fun W M hM => containsAny_any f.2.2 M W hM hv)
  have HS := Lib.hid (fun W p hp => libHasSuf_any f.2.2 p W hp hv)
  have HT := Lib.hid (fun W => trim_any f.2.2 W hv)
  have hE : ((str (trim f.2.2)).toList == (str f.2.2).toList) = decide (trim f.2.2 = f.2.2) := by
    rw [str_toList, str_toList]
    exact Bool.eq_iff_iff.2 (by simp)
  unfold fdV
  generalize badV (zF f) = R at *
  generalize f.1 = a at *
  generalize f.2.1 = N at *
  generalize f.2.2 = V at *
  obtain ⟨S1, h1⟩ : ∃ x, str N = x := ⟨_, rfl⟩
  obtain ⟨S2, h2⟩ : ∃ x, str V = x := ⟨_, rfl⟩
  obtain ⟨S3, h3⟩ : ∃ x, str (trim V) = x := ⟨_, rfl⟩
  rw [h1] at hd ⊢
  rw [h2] at HC HS HT hE ⊢
  rw [h3] at HT hE
  clear h1 h2 h3 hl hv
  obtain ⟨w1, hw1⟩ : ∃ x, w.alloc (.cells #[.int .i64 a, .string S1, .string S2] 48) = x := ⟨_, rfl⟩
  have hb0 : Below w.heap.size w w1 := by rw [← hw1]; exact (Below.refl _ _).alloc (Nat.le_refl _) _
  have hc0 : w1.heap[w.heap.size]? = some (.cells #[.int .i64 a, .string S1, .string S2] 48 (0, 0)) := by rw [← hw1]; exact (MapKept.heap_alloc w _).1
  have HB := Lib.hid (And.intro hb0 hc0)
  have HCl : Hid (∀ W, Below w1.heap.size w1 W → W.cell? ⟨w.heap.size, 1, none⟩ = some (.string S1) ∧ W.cell? ⟨w.heap.size, 2, none⟩ = some (.string S2)) := fun W hW => by
    have h := (hW.block _ (blk9_lt HB.out.2)).trans HB.out.2
    exact ⟨cell9_blk h 1 rfl, cell9_blk h 2 rfl⟩
  obtain ⟨k1, k2⟩ := HCl.out w1 (Below.refl _ _)
  clear hb0 hc0
  by_cases hN : N = defineT
  · have hd1 : (S1.toList == [100, 101, 102, 105, 110, 101]) = true := by rw [hd]; simpa using hN
    have hd2 : S1.toList = [100, 101, 102, 105, 110, 101] := by simpa using hd1
    have HR : Hid (true = R) := by unfold Hid; rw [HD.out, hN]; simp
    clear HD hN hd hE
    go_enter Tryz.func48, Tryz.ntmps48
    go_wp2_with fail
    go_quiet (fail)
    go_wp2_with fail
    go_ret
    exact otP HR.out (HB.out.1.trans ((below_dr _ _).mono HB.out.1.size))
  · have hd1 : (S1.toList == [100, 101, 102, 105, 110, 101]) = false := by rw [hd]; simpa using hN
    have hd2 : ¬ S1.toList = [100, 101, 102, 105, 110, 101] := by simpa using hd1
    have hNb : (N == defineT) = false := by simpa using hN
    clear hd hN
    have HSt : Hid (∀ W W', (Below w1.heap.size w1 W ∧ W.cell? ⟨w.heap.size, 1, none⟩ = some (.string S1) ∧ W.cell? ⟨w.heap.size, 2, none⟩ = some (.string S2)) → Below W.heap.size W W' → (Below w1.heap.size w1 W' ∧ W'.cell? ⟨w.heap.size, 1, none⟩ = some (.string S1) ∧ W'.cell? ⟨w.heap.size, 2, none⟩ = some (.string S2))) := fun W W' h hb => by
      have h1 := h.1.trans (hb.mono h.1.size)
      exact ⟨h1, HCl.out _ h1⟩
    have HDr : Hid (Below w1.heap.size w1 w1.drew ∧ w1.drew.cell? ⟨w.heap.size, 1, none⟩ = some (.string S1) ∧ w1.drew.cell? ⟨w.heap.size, 2, none⟩ = some (.string S2)) := ⟨below_dr _ _, HCl.out _ (below_dr _ _)⟩
    have HO : Hid (∀ W, (Below w1.heap.size w1 W ∧ W.cell? ⟨w.heap.size, 1, none⟩ = some (.string S1) ∧ W.cell? ⟨w.heap.size, 2, none⟩ = some (.string S2)) → Below w.heap.size w W) := fun W h => HB.out.1.trans (h.1.mono HB.out.1.size)
    clear HCl HB
    cases hA : V.any sem
    · rw [hA] at HC
      cases hG : goes V
      · rw [hG] at HS
        by_cases hT : trim V = V
        · have hE1 : (S3.toList == S2.toList) = true := by rw [hE]; simpa using hT
          have hE2 : S3.toList = S2.toList := by simpa using hE1
          have HR2 : Hid (false = R) := by unfold Hid; rw [HD.out, hA, hNb, hG]; simp [hT]
          clear HD hNb hA hG hE hT
          go_enter Tryz.func48, Tryz.ntmps48
          go_wp2_with fail
          go_region_held3 (fun W => Below w1.heap.size w1 W ∧ W.cell? ⟨w.heap.size, 1, none⟩ = some (.string S1) ∧ W.cell? ⟨w.heap.size, 2, none⟩ = some (.string S2)) (first | exact HDr.out | assumption | exact HSt.out _ _ (by assumption) (by assumption)) (first
            | (go_at_call 67
               refine (HC.out _ _ rfl).mono ?_
               rintro e w2 ⟨rfl, hb2⟩)
            | (go_at_call 68
               refine (HS.out _ _ rfl).mono ?_
               rintro e w3 ⟨rfl, rfl⟩)
            | (go_at_call 57
               refine (HT.out _).mono ?_
               rintro e w4 ⟨rfl, hb4⟩))
          go_wp2_with fail
          go_ret
          exact otP HR2.out (HO.out _ (by assumption))
        · have hE1 : (S3.toList == S2.toList) = false := by rw [hE]; simpa using hT
          have hE2 : ¬ S3.toList = S2.toList := by simpa using hE1
          have HR2 : Hid (true = R) := by unfold Hid; rw [HD.out, hA, hNb, hG]; simp [hT]
          clear HD hNb hA hG hE hT
          go_enter Tryz.func48, Tryz.ntmps48
          go_wp2_with fail
          go_region_held3 (fun W => Below w1.heap.size w1 W ∧ W.cell? ⟨w.heap.size, 1, none⟩ = some (.string S1) ∧ W.cell? ⟨w.heap.size, 2, none⟩ = some (.string S2)) (first | exact HDr.out | assumption | exact HSt.out _ _ (by assumption) (by assumption)) (first
            | (go_at_call 67
               refine (HC.out _ _ rfl).mono ?_
               rintro e w2 ⟨rfl, hb2⟩)
            | (go_at_call 68
               refine (HS.out _ _ rfl).mono ?_
               rintro e w3 ⟨rfl, rfl⟩)
            | (go_at_call 57
               refine (HT.out _).mono ?_
               rintro e w4 ⟨rfl, hb4⟩))
          go_wp2_with fail
          go_ret
          exact otP HR2.out (HO.out _ (by assumption))
      · rw [hG] at HS
        have HR2 : Hid (true = R) := by unfold Hid; rw [HD.out, hA, hNb, hG]; simp
        clear HD hNb hA hG hE HT
        go_enter Tryz.func48, Tryz.ntmps48
        go_wp2_with fail
        first
        | go_region_with (first
          | (go_at_call 67
             refine (HC.out _ _ rfl).mono ?_
             rintro e w2 ⟨rfl, hb2⟩
             obtain ⟨m0, m1, m2⟩ := HSt.out _ _ HDr.out hb2)
          | (go_at_call 68
             refine (HS.out _ _ rfl).mono ?_
             rintro e w3 ⟨rfl, rfl⟩))
        | fail
        all_goals
          go_wp2_with fail
          go_ret
          exact otP HR2.out (HO.out _ ⟨by assumption, by assumption, by assumption⟩)
    · rw [hA] at HC
      have HR2 : Hid (true = R) := by unfold Hid; rw [HD.out, hA, hNb]; simp
      clear HD hNb hA hE HS HT
      go_enter Tryz.func48, Tryz.ntmps48
      go_wp2_with fail
      first
      | go_region_with (first
        | (go_at_call 67
           refine (HC.out _ _ rfl).mono ?_
           rintro e w2 ⟨rfl, hb2⟩
           obtain ⟨m0, m1, m2⟩ := HSt.out _ _ HDr.out hb2))
      | fail
      all_goals
        go_wp2_with fail
        go_ret
        exact otP HR2.out (HO.out _ ⟨by assumption, by assumption, by assumption⟩)
end Go.Proofs.YtbeehedppofpnaaGreatDoor

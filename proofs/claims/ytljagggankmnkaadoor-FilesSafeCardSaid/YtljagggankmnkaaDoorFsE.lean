/- Package files: Names (the library's sort by its contract), Clone. -/
import Derived.Test.YtljagggankmnkaaDoorFsD
import Derived.Test.YtljagggankmnkaaDoorShelf
import Derived.TacticsIn
import Derived.Maps.Ext
namespace Go.Proofs.YtljagggankmnkaaDoor
open Go.RowKit Go.Maps Go.Sort Go.Shelf

theorem sortsL (m : Nat) : AnyZ.SortsIn Tryd.prog Tryd.sortedL_ren Fence.wide m :=
  ⟨fun blk off cap ss W hH hblk hsz => callsIn_wide.2 (AnyM.slices_Sort_string Tryd.sortL blk off cap ss W hH hblk hsz),
   fun p cap W => callsIn_wide.2 (AnyM.slices_Sort_string_none Tryd.sortL p cap W)⟩
theorem keysL_is (mb : Option Nat) (W : World) : CallsIn Fence.wide 5 Tryd.prog 33 #[.map mb] W fun e w' => e = .returned (.func (.func 45) #[] #[.pointer (some ⟨W.heap.size, 0, none⟩)]) ∧ w' = W.alloc (.cells #[.map mb] 58) :=
  AnyZ.keys_in Tryd.keysL Fence.wide 5 trivial rfl mb W
set_option maxHeartbeats 1000000 in
theorem sortedL_is {H : Type} (b nn : Nat) (D0 : DataW H) (R : Value → Option (DataW H × List MemPlace)) (w : World) (hown : w.ownsMap Tryd.prog 9 R b nn D0) (hmax : Maps.size D0 ≤ maxLen) (hbytes : Maps.size D0 * 16 ≤ 140737488355328) :
    CallsIn Fence.wide 5 Tryd.prog 32 #[.func (.func 45) #[] #[.pointer (some ⟨w.heap.size, 0, none⟩)]] (w.alloc (.cells #[.map (some b)] 58)) fun e w' => ∃ (v : Value) (ss : List (List UInt8)), e = .returned v ∧ ss.Perm (strKeys D0) ∧
      w'.ownsRow (w.alloc (.cells #[.map (some b)] 58)).heap.size 9 1 v ss.length ((ss.mergeSort (fun x y => decide (x ≤ y))).map encStr) ∧ (v = .slice none 0 0 ↔ ss = []) ∧ Below (w.alloc (.cells #[.map (some b)] 58)).heap.size (w.alloc (.cells #[.map (some b)] 58)) w' := by
  have hbl := hown.lt
  have hseq : SeqGives Fence.wide 2 Tryd.prog 45 #[.pointer (some ⟨w.heap.size, 0, none⟩)] encStr (fun ss => ss.Perm (strKeys D0)) (Maps.size D0) (w.alloc (.cells #[.map (some b)] 58)) :=
    AnyZ.keys_gives (ρ := Tryd.keysL_ren) { Tryd.keysL with } Fence.wide _ trivial rfl (by omega) w.heap.size b nn D0 _ (by simp) (by simp) (by
      obtain ⟨es, clock, hb, Ft, hs, hD⟩ := hown
      exact ⟨es, clock, (Below.heap_alloc _ _ b hbl).trans hb, Ft, hs, hD⟩)
  exact AnyZ.sorted_in Tryd.sortedL Fence.wide 5 trivial trivial trivial trivial rfl (by omega) (sortsL _) (enters_of Tryd.func44 (by kernel_rfl) rfl) 45 #[.pointer (some ⟨w.heap.size, 0, none⟩)] trivial (enters_of Tryd.func45 (by kernel_rfl) rfl) _ _ hmax hbytes _ hseq

set_option maxHeartbeats 1000000 in
theorem names_map {p : Nat} (b nn : Nat) (ma sv : Value) (D0 : DataW Value) (w : World) (hc : w.heap[p]? = some (.cells #[ma, .map (some b), sv] 61)) (hown : w.ownsMap Tryd.prog 9 rv b nn D0) (hmax : Maps.size D0 ≤ maxLen) (hbytes : Maps.size D0 * 16 ≤ 140737488355328) :
    Calls Tryd.prog 18 #[.pointer (some ⟨p, 0, none⟩)] w fun e w' => ∃ (v : Value) (ss : List (List UInt8)), e = .returned v ∧ ss.Perm (strKeys D0) ∧
      w'.ownsRow w.heap.size 9 1 v ss.length ((ss.mergeSort (fun x y => decide (x ≤ y))).map encStr) ∧ Below w.heap.size w w' := by
  have c1 := cell_blk hc 1 (v := .map (some b)) rfl
  clear hc
  refine (callsIn_wide (n := 6)).1 ?_
  have hfK : Fence.wide.fn 33 := trivial
  have hfS : Fence.wide.fn 32 := trivial
  refine callsIn_of_wp Tryd.func18 rfl trivial ?_ rfl
  simp only [Tryd.ntmps18, List.size_toArray, List.length_cons, List.length_nil, Nat.reduceAdd, Nat.reduceSub, Array.replicate_succ, Array.replicate_zero, List.push_toArray, List.append_toArray, List.nil_append, List.cons_append]
  gi_wp2_with (first
    | (gi_at_call 33; refine (keysL_is _ _).mono ?_; rintro e w' ⟨rfl, rfl⟩)
    | (gi_at_call 32; refine (sortedL_is b nn D0 rv w hown hmax hbytes).mono ?_; rintro e w' ⟨v, ss, rfl, hS, hrow, hnil, hb⟩))
  go_ret
  exact ⟨v, ss, rfl, hS, ownsRow_base_a hrow (by simp), ((Below.refl _ w).alloc (Nat.le_refl _) _).trans (hb.mono (by simp))⟩

theorem clone_is (b : Nat) (V : List (Bs × Pay)) (w : World) (hm : MapIs w b V) :
    Calls Tryd.prog 36 #[.map (some b)] w fun e w' => e = .returned (.map (some w.heap.size)) ∧ MapIs w' w.heap.size V ∧ Below w.heap.size w w' := by
  have h := AnyW.maps_Clone_owns Tryd.cloneL 9 rv b V.length (mp V) w hm
  change Calls Tryd.prog 36 _ _ _ at h
  exact h.mono fun e w' ⟨h1, h2, _, h3⟩ => ⟨h1, h2, h3⟩

/-! ### the keys stand in their order -/
theorem before_iff (x y : Bs) : bytesBefore x y = decide (x < y) := by
  induction x generalizing y with
  | nil => cases y <;> simp [bytesBefore]
  | cons a r ih =>
    cases y with
    | nil => simp [bytesBefore]
    | cons b s =>
      simp only [bytesBefore, ih, List.cons_lt_cons_iff]
      rw [Bool.eq_iff_iff]
      simp
theorem keys_rise {w : World} {b : Nat} {V : List (Bs × Pay)} (hm : MapIs w b V) : (V.map (·.1)).Pairwise (fun x y => x < y) := by
  obtain ⟨es, h1, h2, _⟩ := World.ownsMap.canon hm keyLaw
  simp only [mp, DataW.map.injEq] at h1
  rw [← h1, List.pairwise_map] at h2
  rw [List.pairwise_map]
  refine h2.imp fun {x y} h => ?_
  simp only [Lit.before] at h
  rw [before_iff] at h
  simpa using h
theorem keys_sort {w : World} {b : Nat} {V : List (Bs × Pay)} (hm : MapIs w b V) {ss : List Bs} (hp : ss.Perm (strKeys (mp V))) : ss.mergeSort (fun x y => decide (x ≤ y)) = V.map (·.1) := by
  rw [mp_keys] at hp
  have h1 : ss.mergeSort leB = (V.map (·.1)).mergeSort leB := mergeSort_of_perm hp
  refine h1.trans (List.mergeSort_of_pairwise ?_)
  refine (keys_rise hm).imp fun {x y} h => ?_
  simp only [leB, decide_eq_true_eq]
  exact List.le_of_lt h
theorem names_is {B p : Nat} {F : Nat → Prop} {su no : List (Bs × Bs)} {st : List (Stp Bs)} (w : World) (hd : Disk w B p F su no st) :
    Calls Tryd.prog 18 #[.pointer (some ⟨p, 0, none⟩)] w fun e w' => ∃ v : Value, e = .returned v ∧ Below w.heap.size w w' ∧
      w'.ownsRow w.heap.size 9 1 v no.length (no.map fun t => .string (str t.1)) := by
  obtain ⟨ba, bb, sv, Vs, Vn, T, hd, _, rfl, _⟩ := hd
  have hn := hd.no_le
  refine (names_map bb Vn.length (.map (some ba)) sv (mp Vn) w hd.cell hd.mn (by rw [mp_size]; unfold maxLen; omega) (by rw [mp_size]; omega)).mono ?_
  rintro e w' ⟨v, ss, rfl, hp, hr, hb⟩
  refine ⟨v, rfl, hb, ?_⟩
  have hs := keys_sort hd.mn hp
  rw [hs] at hr
  have hl : ss.length = Vn.length := by have := congrArg List.length hs; simpa [List.length_mergeSort] using this
  rw [hl] at hr
  rw [on2_len]
  have e1 : (on2 Prod.snd Vn).map (fun t => Value.string (str t.1)) = (Vn.map (·.1)).map encStr := by simp [on2, encStr, str, Function.comp_def]
  rw [e1]
  exact hr
/-- What is there has each name but once, and they rise. -/
theorem disk_rise {w : World} {B p : Nat} {F : Nat → Prop} {su no : List (Bs × Bs)} {st : List (Stp Bs)} (hd : Disk w B p F su no st) : (no.map (·.1)).Pairwise (fun x y => x < y) := by
  obtain ⟨ba, bb, sv, Vs, Vn, T, hd, _, rfl, _⟩ := hd
  have := keys_rise hd.mn
  simpa [on2, Function.comp_def] using this
end Go.Proofs.YtljagggankmnkaaDoor

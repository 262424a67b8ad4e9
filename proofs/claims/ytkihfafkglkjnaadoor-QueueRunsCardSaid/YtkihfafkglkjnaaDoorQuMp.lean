/- Layer 15: the map of places: which event stands where, by its kind and id. -/
import Derived.Test.YtkihfafkglkjnaaDoorQuLp
import Derived.Test.YtkihfafkglkjnaaDoorQuH
import Derived.DeepKeys4
import Derived.MapViews
import Derived.Maps.OwnOps
import Derived.Maps.OwnSet
import Derived.Maps.Views
namespace Go.Proofs.YtkihfafkglkjnaaDoor
open Go.RowKit Go.Maps Go.ChangeMaps Go.WideMaps

theorem kqLaid : laidOutB Tryd.prog = true := by kernel_rfl
theorem kqRow : 62 < Tryd.prog.types.size := of_decide_eq_true (by kernel_rfl)
theorem kqWide : (match Tryd.prog.underlying 62 with | some (.array _ _) | some (.struct _) => true | _ => false) = true := by kernel_rfl
theorem kqDeep : Tryd.prog.keyTypeAt (Tryd.prog.types.size + 1) 62 = true := by kernel_rfl
theorem kqDeep3 : Tryd.prog.keyTypeAt 3 62 = true := by kernel_rfl
theorem kqCells : Tryd.prog.cellsOf 62 = 2 := by kernel_rfl
theorem kqCellsI : Tryd.prog.cellsOf 3 = 1 := by kernel_rfl
theorem kqM : 3 + 1 ≤ 10000 := by decide
set_option maxRecDepth 100000 in
theorem kqLaw : Keyed Tryd.prog 62 := Keyed.of_law (deep_law_laid (m := 3) (k := 62) kqLaid kqM kqRow kqDeep3 kqWide)
def kqL (k i : Int) : Lit := .string (keyBytes [.int .i64 k, .int .i64 i])
def kqV (k i : Int) : Value := .agg #[.int .i64 k, .int .i64 i]
theorem wf64 {k : Int} (h : In64 k) : (Lit.int .i64 k).wf = true := by
  have e : (Lit.int .i64 k).wf = (decide ((-9223372036854775808 : Int) ≤ k) && decide (k ≤ 9223372036854775807)) := rfl
  rw [e, decide_eq_true h.1, decide_eq_true h.2]
  rfl
theorem kqLits {k i : Int} (h1 : In64 k) (h2 : In64 i) (d : Nat) : Tryd.prog.keyLits (d + 2) 62 [.int .i64 k, .int .i64 i] = some [.int .i64 k, .int .i64 i] := by
  simp [Program.keyLits, Tryd.underlying62, Tryd.underlying3, wf64 h1, wf64 h2, kqCells, kqCellsI]
theorem kqOf {k i : Int} (h1 : In64 k) (h2 : In64 i) : keyOf Tryd.prog 62 (kqV k i) = some (kqL k i) := by
  obtain ⟨d, hd⟩ : ∃ d, Tryd.prog.types.size + 1 = d + 2 := ⟨Tryd.prog.types.size - 1, by have := kqRow; omega⟩
  have hf : (kqV k i).formed Tryd.prog 62 = true := by
    simp [Value.formed, kqV, Tryd.underlying62, kqCells]
  unfold keyOf
  rw [Tryd.underlying62]
  simp only
  rw [if_pos (by rw [hf, show Tryd.prog.keyType 62 = true from kqDeep]; rfl), hd]
  have h := kqLits h1 h2 d
  have hc : (kqV k i).cells.toList = [.int .i64 k, .int .i64 i] := rfl
  rw [hc, h]
  rfl
theorem kq_inj {k i k' i' : Int} (h1 : In64 k) (h2 : In64 i) (h1' : In64 k') (h2' : In64 i') (h : kqL k i = kqL k' i') : k = k' ∧ i = i' := by
  have h1 := kqLaw.inj (kqOf h1 h2) (by rw [h]; exact kqOf h1' h2')
  unfold kqV at h1
  injection h1 with h1
  have e0 := congrArg (fun a : Array Value => a[0]?) h1
  have e1 := congrArg (fun a : Array Value => a[1]?) h1
  simp at e0 e1
  exact ⟨e0, e1⟩
theorem kq_key {k i : Int} (h1 : In64 k) (h2 : In64 i) : WideAt.IsKeyLit (kqL k i) := kqLaw.key (kqOf h1 h2)
def rvQ (v : Value) : Option (DataW Value × List MemPlace) := some (.held v, [])
def hdQ (j : Nat) : DataW Value := .held (.int .i64 (j : Int))
theorem zeroQ (w : World) : (zeroValue 3).run Tryd.prog w = .ok (.int .i64 0) w := by kernel_rfl
/-- Block b tells of each key where it stands; it has so many entries at most. -/
def MapQ (w : World) (b c : Nat) (f : Int × Int → Option Nat) : Prop := ∃ D, w.ownsMap Tryd.prog 62 rvQ b c D ∧ ∀ k i, In64 k → In64 i →
  match f (k, i) with
  | none => Maps.has D (kqL k i) = false
  | some j => Maps.has D (kqL k i) = true ∧ ∀ z, D.atKey (kqL k i) z = hdQ j
section
variable {w w' : World} {b c : Nat} {f : Int × Int → Option Nat}
theorem MapQ.lt (h : MapQ w b c f) : b < w.heap.size := by
  obtain ⟨D, h1, _⟩ := h
  exact h1.lt
theorem MapQ.block (h : MapQ w b c f) (hb : w'.heap[b]? = w.heap[b]?) : MapQ w' b c f := by
  obtain ⟨D, ⟨es, clock, h1, h2⟩, h3⟩ := h
  exact ⟨D, ⟨es, clock, hb.trans h1, h2⟩, h3⟩
theorem MapQ.made (w : World) : MapQ (w.alloc (.map #[] 0)) w.heap.size 0 (fun _ => none) :=
  ⟨.map [], World.ownsMap_made w _ _ _, fun _ _ _ _ => rfl⟩
theorem MapQ.look (h : MapQ w b c f) {k i : Int} (hk : In64 k) (hi : In64 i) :
    (Instr.lookup 54 (.map (some b)) (kqV k i) true).run Tryd.prog w = .ok (.tuple #[.int .i64 (((f (k, i)).getD 0 : Nat) : Int), .bool (f (k, i)).isSome]) w := by
  obtain ⟨D, h1, h3⟩ := h
  obtain ⟨v, ps, hr, hv⟩ := World.ownsMap.look_ok h1 kqLaw Tryd.underlying54 (zeroQ w) (zd := .held (.int .i64 0)) rfl (kqOf hk hi)
  have h4 := h3 k i hk hi
  cases hf : f (k, i) with
  | none =>
    rw [hf] at h4
    dsimp only at h4
    rw [h4] at hr
    rw [atKey_of_not_has h4] at hv
    unfold rvQ at hv
    simp only [Option.some.injEq, Prod.mk.injEq, DataW.held.injEq] at hv
    rw [hr, hv.1]
    rfl
  | some j =>
    rw [hf] at h4
    dsimp only at h4
    rw [h4.1] at hr
    rw [h4.2] at hv
    unfold rvQ hdQ at hv
    simp only [Option.some.injEq, Prod.mk.injEq, DataW.held.injEq] at hv
    rw [hr, hv.1]
    rfl
theorem ownQ_size {n : Nat} {D : DataW Value} (h : w.ownsMap Tryd.prog 62 rvQ b n D) {m : Nat} (hs : Maps.size D ≤ m) : w.ownsMap Tryd.prog 62 rvQ b m D := by
  obtain ⟨es, clock, hb, F, _, hD⟩ := h
  refine ⟨es, clock, hb, F, ?_, hD⟩
  have h1 := congrArg Maps.size hD
  have e : Maps.size (DataW.map ((es.toList.map (Go.WideElems.rg Tryd.prog 62 rvQ)).foldr DataW.insert [])) = es.size := by simp [Maps.size, length_sorted]
  rw [e] at h1
  omega
theorem MapQ.upd (h : MapQ w b c f) {k i : Int} (hk : In64 k) (hi : In64 i) (hc : c ≤ 1000000) (j : Nat) :
    ∃ w', (Instr.mapUpdate 54 (.map (some b)) (kqV k i) (.int .i64 (j : Int))).run Tryd.prog w = .ok () w' ∧ MapQ w' b (if (f (k, i)).isSome = true then c else c + 1) (fun x => if x = (k, i) then some j else f x) ∧ w.grownBy w' (some b) := by
  obtain ⟨D, h1, h3⟩ := h
  obtain ⟨w', hr, ho, hg⟩ := World.ownsMap.update (d := hdQ j) (ps := []) (val := .int .i64 (j : Int)) h1 kqLaw Tryd.underlying54 (by unfold maxLen; omega) (kqOf hk hi) rfl
  refine ⟨w', hr, ⟨_, ownQ_size ho ?_, fun k' i' hk' hi' => ?_⟩, hg⟩
  · rw [size_put (h1.tidy kqLaw)]
    have hsz := h1.size_le
    have h4 := h3 k i hk hi
    cases hf : f (k, i) with
    | none => rw [hf] at h4; dsimp only at h4; rw [h4]; simp; exact hsz
    | some j => rw [hf] at h4; dsimp only at h4; rw [h4.1]; simp; exact hsz
  · dsimp only
    by_cases e : (k', i') = (k, i)
    · injection e with e1 e2
      subst e1 e2
      rw [if_pos rfl]
      exact ⟨has_put_same h1.isMap (kq_key hk hi) _, fun z => atKey_put_same h1.isMap (kq_key hk hi) _ _⟩
    · have hne : kqL k' i' ≠ kqL k i := fun h => e (by obtain ⟨e1, e2⟩ := kq_inj hk' hi' hk hi h; rw [e1, e2])
      have h4 := h3 k' i' hk' hi'
      rw [if_neg e]
      cases hf : f (k', i') with
      | none =>
        rw [hf] at h4
        dsimp only at h4 ⊢
        rw [has_put_other hne]
        exact h4
      | some j =>
        rw [hf] at h4
        dsimp only at h4 ⊢
        rw [has_put_other hne]
        exact ⟨h4.1, fun z => by rw [atKey_put_other hne]; exact h4.2 z⟩
theorem MapQ.del (h : MapQ w b c f) {k i : Int} (hk : In64 k) (hi : In64 i) (ty : TypeId) :
    ∃ w', (Builtin.delete_ #[54, 62] ty #[.map (some b), kqV k i]).run Tryd.prog w = .ok (.tuple #[]) w' ∧ MapQ w' b (if (f (k, i)).isSome = true then c - 1 else c) (fun x => if x = (k, i) then none else f x) ∧ w.grownBy w' (some b) := by
  obtain ⟨D, h1, h3⟩ := h
  obtain ⟨w', hr, ho, hg⟩ := World.ownsMap.drop h1 kqLaw Tryd.underlying54 (kqOf hk hi) ty
  refine ⟨w', hr, ⟨_, ownQ_size ho ?_, fun k' i' hk' hi' => ?_⟩, hg.grown⟩
  · have hsz := h1.size_le
    have h5 := size_del (k := kqL k i) (h1.tidy kqLaw)
    have h4 := h3 k i hk hi
    cases hf : f (k, i) with
    | none => rw [hf] at h4; dsimp only at h4; rw [h4] at h5; simp at h5 ⊢; omega
    | some j => rw [hf] at h4; dsimp only at h4; rw [h4.1] at h5; simp at h5 ⊢; omega
  · dsimp only
    by_cases e : (k', i') = (k, i)
    · injection e with e1 e2
      subst e1 e2
      rw [if_pos rfl]
      exact has_del_same
    · have hne : kqL k' i' ≠ kqL k i := fun h => e (by obtain ⟨e1, e2⟩ := kq_inj hk' hi' hk hi h; rw [e1, e2])
      have h4 := h3 k' i' hk' hi'
      rw [if_neg e]
      cases hf : f (k', i') with
      | none =>
        rw [hf] at h4
        dsimp only at h4 ⊢
        rw [has_del_other hne]
        exact h4
      | some j =>
        rw [hf] at h4
        dsimp only at h4 ⊢
        rw [has_del_other hne]
        exact ⟨h4.1, fun z => by rw [atKey_del_other hne]; exact h4.2 z⟩
theorem MapQ.congr (h : MapQ w b c f) {g : Int × Int → Option Nat} (he : ∀ x, f x = g x) : MapQ w b c g := by
  have : f = g := funext he
  rw [← this]
  exact h
end
/-! What the heap's steps do to the places. -/
theorem PosE.iff {H : List Ev} (h : KeyE H) {x : Int × Int} {j : Nat} : PosE H x = some j ↔ j < H.length ∧ (evA H j).2 = x := by
  refine ⟨PosE.at_, fun ⟨h1, h2⟩ => ?_⟩
  rw [← h2]
  exact PosE.hit h h1
theorem posE_sw {H : List Ev} (h : KeyE H) {a b : Nat} (ha : a < H.length) (hb : b < H.length) (x : Int × Int) :
    (if x = (evA (swL H a b) b).2 then some b else if x = (evA (swL H a b) a).2 then some a else PosE H x) = PosE (swL H a b) x := by
  have hk : KeyE (swL H a b) := h.perm (swL_perm ha hb)
  have hl := swL_len H a b
  by_cases e1 : x = (evA (swL H a b) b).2
  · rw [if_pos e1, (PosE.iff hk).2 ⟨by rw [hl]; exact hb, e1.symm⟩]
  · rw [if_neg e1]
    by_cases e2 : x = (evA (swL H a b) a).2
    · rw [if_pos e2, (PosE.iff hk).2 ⟨by rw [hl]; exact ha, e2.symm⟩]
    · rw [if_neg e2]
      have hS := evA_sw ha hb
      cases hp : PosE H x with
      | none =>
        have h0 := PosE.none hp
        refine (PosE.none_of fun y hy => ?_).symm
        exact h0 y ((swL_perm ha hb).mem_iff.1 hy)
      | some j =>
        obtain ⟨h1, h2⟩ := PosE.at_ hp
        refine ((PosE.iff hk).2 ⟨by rw [hl]; exact h1, ?_⟩).symm
        rw [hS]
        rw [hS, if_pos rfl] at e1
        rw [hS] at e2
        have n1 : j ≠ a := fun e => e1 (by rw [← e, h2])
        have n2 : j ≠ b := fun e => by
          by_cases e3 : a = b
          · exact n1 (e.trans e3.symm)
          · rw [if_neg e3, if_pos rfl, ← e, h2] at e2
            exact e2 rfl
        rw [if_neg n2, if_neg n1]
        exact h2
theorem posE_add {H : List Ev} {e : Ev} (h : PosE H e.2 = none) (x : Int × Int) : (if x = e.2 then some H.length else PosE H x) = PosE (H ++ [e]) x := by
  unfold PosE at h ⊢
  rw [List.findIdx?_append, List.findIdx?_cons, List.findIdx?_nil]
  by_cases e1 : x = e.2
  · subst e1
    rw [if_pos rfl, h]
    simp
  · have h2 : (e.2 == x) = false := beq_eq_false_iff_ne.2 (fun h => e1 h.symm)
    rw [if_neg e1, h2]
    simp
theorem posE_put {H : List Ev} (h : KeyE H) {j : Nat} (hj : j < H.length) {e : Ev} (he : e.2 = (evA H j).2) (x : Int × Int) : PosE H x = PosE (H.set j e) x := by
  have hk := h.set hj he
  cases hp : PosE H x with
  | none =>
    refine (PosE.none_of fun y hy => ?_).symm
    rcases (mem_set h hj he).1 hy with rfl | ⟨hy, _⟩
    · rw [he]
      exact PosE.none hp _ (evA_mem hj)
    · exact PosE.none hp y hy
  | some i =>
    obtain ⟨h1, h2⟩ := PosE.at_ hp
    refine ((PosE.iff hk).2 ⟨by rw [List.length_set]; exact h1, ?_⟩).symm
    rw [evA_set hj]
    by_cases e1 : i = j
    · rw [if_pos e1, he, ← e1, h2]
    · rw [if_neg e1, h2]
theorem posE_tk {H : List Ev} (h : KeyE H) {j : Nat} (hj : j < H.length) (x : Int × Int) :
    (if x = (evA (swL H j (H.length - 1)) (H.length - 1)).2 then none else PosE (swL H j (H.length - 1)) x) = PosE (tkL H j) x := by
  have hl : H.length - 1 < H.length := by omega
  have hk := h.perm (swL_perm hj hl)
  have e0 : evA (swL H j (H.length - 1)) (H.length - 1) = evA H j := by rw [evA_sw hj hl, if_pos rfl]
  rw [e0]
  by_cases e1 : x = (evA H j).2
  · rw [if_pos e1]
    exact (PosE.none_of fun y hy => by rw [e1]; exact ((mem_tk h hj).1 hy).2).symm
  · rw [if_neg e1]
    cases hp : PosE (swL H j (H.length - 1)) x with
    | none =>
      exact (PosE.none_of fun y hy => PosE.none hp y (List.mem_of_mem_take hy)).symm
    | some i =>
      obtain ⟨h1, h2⟩ := PosE.at_ hp
      rw [swL_len] at h1
      have hi : i < H.length - 1 := Nat.lt_of_le_of_ne (by omega) fun e => e1 (by rw [← h2, e, e0])
      refine ((PosE.iff (h.tk hj)).2 ⟨by rw [tkL_len hj]; exact hi, ?_⟩).symm
      unfold tkL
      rw [evA_take hi, h2]
end Go.Proofs.YtkihfafkglkjnaaDoor

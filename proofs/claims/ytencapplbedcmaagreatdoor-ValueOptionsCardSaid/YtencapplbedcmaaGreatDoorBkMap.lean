/- Layer 9: names counted in a map. -/
import Derived.Test.YtencapplbedcmaaGreatDoorFsMath
import Derived.Test.YtencapplbedcmaaGreatDoorLxMath
import Derived.Maps.OwnOps
namespace Go.Proofs.YtencapplbedcmaaGreatDoor
open Go.RowKit Go.Maps Go.ChangeMaps Go.WideMaps

theorem keyLaw9 : Keyed Tryz.prog 9 := string_keyed Tryz.underlying9
theorem zeroI9 (w : World) : (zeroValue 3).run Tryz.prog w = .ok (.int .i64 0) w := by kernel_rfl
theorem keyS9 {k : Tx} (h : k.length ≤ 1000000) : keyOf Tryz.prog 9 (.string (str k)) = some (.string k) :=
  keyOf_string_mk Tryz.underlying9 (s := str k) (by rw [str_size]; unfold maxLen; omega)
/-- Block b is a map with the entries V. -/
def MapI (w : World) (b : Nat) (V : List (Bs × Pay)) : Prop := w.ownsMap Tryz.prog 9 rv b V.length (mp V)
def cnt9 (n : Int) : Pay := (.int .i64 n, [])
theorem got_put (k : Bs) (a : Pay) (V : List (Bs × Pay)) : got k (put k a V) = some a := by
  have h : (got k (put k a V)).isSome = true := by
    rw [got_has, hasF_mem]
    exact ⟨(k, a), mem_put.2 (.inl rfl), rfl⟩
  obtain ⟨x, hx⟩ := Option.isSome_iff_exists.1 h
  rw [hx]
  rcases mem_put.1 (got_mem hx) with h1 | h1
  · injection h1 with _ h1
    rw [h1]
  · exact absurd rfl h1.2
section
variable {w w' : World} {b n : Nat} {V : List (Bs × Pay)}
theorem MapI.of (h : w.ownsMap Tryz.prog 9 rv b n (mp V)) : MapI w b V := by
  obtain ⟨es, clock, hb, F, hs, hD⟩ := h
  refine ⟨es, clock, hb, F, ?_, hD⟩
  have h1 := congrArg Maps.size hD
  rw [mp_size] at h1
  rw [h1]
  simp [Maps.size, length_sorted]
theorem MapI.lt (h : MapI w b V) : b < w.heap.size := World.ownsMap.lt h
theorem MapI.block (h : MapI w b V) (hb : w'.heap[b]? = w.heap[b]?) : MapI w' b V := by
  obtain ⟨es, clock, h1, h2⟩ := h
  exact ⟨es, clock, hb.trans h1, h2⟩
theorem mp_atI (k : Bs) (V : List (Bs × Pay)) : (mp V).atKey (.string k) (.held (.int .i64 0)) = .held ((got k V).getD (cnt9 0)).1 := by
  rw [mp_at]
  cases got k V <;> rfl
theorem MapI.look (h : MapI w b V) {k : Bs} (hk : k.length ≤ 1000000) : (Instr.lookup 93 (.map (some b)) (.string (str k)) false).run Tryz.prog w = .ok ((got k V).getD (cnt9 0)).1 w := by
  obtain ⟨v, ps, h1, h2⟩ := World.ownsMap.lookup h keyLaw9 Tryz.underlying93 (zeroI9 w) (zd := .held (.int .i64 0)) rfl (keyS9 hk)
  rw [mp_atI] at h2
  simp only [rv, Option.some.injEq, Prod.mk.injEq, DataW.held.injEq] at h2
  rw [h1, h2.1]
variable {ops : Array Oper} {rest : List Oper} {o : Oper} {a : Act} {Q : Exit → Act → World → Prop}
theorem wpList_iput (hg : o.guard = none) (m x v : Operand) (hop : o.op = Op.mapUpdate 93 m x v) (b : Nat) (V : List (Bs × Pay)) (hm : a.eval m = .map (some b)) (hown : MapI w b V) (hl : V.length ≤ 1000000)
    (k : Bs) (p : Pay) (hx : a.eval x = .string (str k)) (hv : a.eval v = p.1) (hk : k.length ≤ 1000000)
    (hK : ∀ w', MapI w' b (put k p V) → w.grownBy w' (some b) → wpList Tryz.prog ops Q rest (a.put o.dst undef) w') : wpList Tryz.prog ops Q (o :: rest) a w :=
  wpList_mapUpdate_own w hg m x v 93 hop 9 3 keyLaw9 Tryz.underlying93 rv b V.length (mp V) hm hown (by unfold maxLen; omega) (.string (str k)) p.1 (.string k) hx hv (keyS9 hk) (.held p.1) [] rfl
    (fun w' h1 h2 => hK w' (MapI.of (by rw [← mp_put]; exact h1)) h2)
end
/-- Block b counts these names, each once. -/
def NmIs (w : World) (b : Nat) (L : List Tx) : Prop := ∃ V, MapI w b V ∧ V.length ≤ L.length ∧ (∀ p ∈ V, p.2 = cnt9 1) ∧ ∀ k, hasF k V = L.any (· == k)
section
variable {w w' : World} {b : Nat} {L : List Tx}
theorem NmIs.block (h : NmIs w b L) (hb : w'.heap[b]? = w.heap[b]?) : NmIs w' b L := by
  obtain ⟨V, h1, h2⟩ := h
  exact ⟨V, h1.block hb, h2⟩
theorem NmIs.lt (h : NmIs w b L) : b < w.heap.size := by
  obtain ⟨V, h1, _⟩ := h
  exact h1.lt
theorem NmIs.below (h : NmIs w b L) (hb : Below w.heap.size w w') : NmIs w' b L := h.block (hb.block b h.lt)
theorem NmIs.grown (h : NmIs w b L) {row : Option Nat} (hg : w.grownBy w' row) (hr : row ≠ some b) : NmIs w' b L := h.block (hg.block b h.lt fun e => hr e.symm)
theorem NmIs.made (w : World) : NmIs (w.alloc (.map #[] 0)) w.heap.size [] :=
  ⟨[], World.ownsMap_made w _ _ _, Nat.le_refl _, (fun p hp => by cases hp), fun k => rfl⟩
/-- What a map of names is, with what is read of one name. -/
theorem NmIs.at_ (h : NmIs w b L) (k : Tx) : ∃ V, MapI w b V ∧ V.length ≤ L.length ∧ ((got k V).getD (cnt9 0)) = cnt9 (if L.any (· == k) then 1 else 0) ∧
    ∀ w', MapI w' b (put k (cnt9 1) V) → L.any (· == k) = false → NmIs w' b (L ++ [k]) := by
  obtain ⟨V, h1, h2, h3, h4⟩ := h
  refine ⟨V, h1, h2, ?_, fun w' hw hno => ⟨_, hw, ?_, ?_, ?_⟩⟩
  · rw [← h4 k, ← got_has]
    cases hg : got k V with
    | none => rfl
    | some a => exact h3 _ (got_mem hg)
  · rw [len_put, List.length_append]
    exact Nat.add_le_add_right (Nat.le_trans (len_del _ _) h2) 1
  · intro p hp
    rcases mem_put.1 hp with rfl | ⟨hp, _⟩
    · rfl
    · exact h3 p hp
  · intro q
    rw [List.any_append, ← h4 q, Bool.eq_iff_iff, Bool.or_eq_true, hasF_mem, hasF_mem]
    constructor
    · rintro ⟨p, hp, rfl⟩
      rcases mem_put.1 hp with rfl | ⟨hp, _⟩
      · exact .inr (by simp)
      · exact .inl ⟨p, hp, rfl⟩
    · rintro (⟨p, hp, rfl⟩ | hq)
      · by_cases e : p.1 = k
        · exact ⟨(k, cnt9 1), mem_put.2 (.inl rfl), e.symm⟩
        · exact ⟨p, mem_put.2 (.inr ⟨hp, e⟩), rfl⟩
      · have e : k = q := by simpa using hq
        exact ⟨(k, cnt9 1), mem_put.2 (.inl rfl), e⟩
end
end Go.Proofs.YtencapplbedcmaaGreatDoor

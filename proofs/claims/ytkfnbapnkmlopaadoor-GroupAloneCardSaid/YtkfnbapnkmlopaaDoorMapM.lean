/- FsMath, BkMap, in one text. -/
import Derived.Test.YtkfnbapnkmlopaaDoorBase
import Derived.Maps.OwnSet
import Derived.Sort.KeysCollected
import Derived.Test.YtkfnbapnkmlopaaDoorLx8
import Derived.Maps.OwnOps
/- Files as lists of names and what they hold, in the order of names; the same as a map's entries. No text of the program is walked here. -/
namespace Go.Proofs.YtkfnbapnkmlopaaDoor
open Go.RowKit Go.Maps Go.Sort

abbrev Bs := List UInt8
section
variable {α β : Type}
def ins (x : Bs × α) : List (Bs × α) → List (Bs × α)
  | [] => [x]
  | y :: r => if bytesBefore x.1 y.1 then x :: y :: r else y :: ins x r
def del (k : Bs) (l : List (Bs × α)) : List (Bs × α) := l.filter fun p => !(p.1 == k)
def put (k : Bs) (a : α) (l : List (Bs × α)) : List (Bs × α) := ins (k, a) (del k l)
def got (k : Bs) (l : List (Bs × α)) : Option α := (l.find? fun p => p.1 == k).map (·.2)
def hasF (k : Bs) (l : List (Bs × α)) : Bool := l.any fun p => p.1 == k
/-- A step: 0 a write, 1 a rename, else a file taken away. -/
structure Stp (α : Type) where
  k : Nat
  nm : Bs
  to : Bs
  b : α
def actF (z : α) (l : List (Bs × α)) (s : Stp α) : List (Bs × α) :=
  if s.k = 0 then put s.nm s.b l else if s.k = 1 then put s.to ((got s.nm l).getD z) (del s.nm l) else del s.nm l

/-! ### what a map on the second part does -/
def on2 (f : α → β) (l : List (Bs × α)) : List (Bs × β) := l.map fun p => (p.1, f p.2)
theorem on2_ins (f : α → β) (k : Bs) (a : α) : ∀ l : List (Bs × α), on2 f (ins (k, a) l) = ins (k, f a) (on2 f l)
  | [] => rfl
  | y :: r => by
    have ih := on2_ins f k a r
    simp only [on2] at ih ⊢
    simp only [ins, List.map_cons]
    split <;> simp_all
theorem on2_del (f : α → β) (k : Bs) (l : List (Bs × α)) : on2 f (del k l) = del k (on2 f l) := by
  simp [on2, del, List.filter_map, Function.comp_def]
theorem on2_put (f : α → β) (k : Bs) (a : α) (l : List (Bs × α)) : on2 f (put k a l) = put k (f a) (on2 f l) := by
  rw [put, on2_ins, on2_del]; rfl
theorem on2_got (f : α → β) (k : Bs) (l : List (Bs × α)) : got k (on2 f l) = (got k l).map f := by
  simp only [got, on2, List.find?_map, Option.map_map, Function.comp_def]
theorem on2_has (f : α → β) (k : Bs) (l : List (Bs × α)) : hasF k (on2 f l) = hasF k l := by
  simp [hasF, on2, List.any_map, Function.comp_def]
theorem on2_len (f : α → β) (l : List (Bs × α)) : (on2 f l).length = l.length := by simp [on2]
def Stp.map (f : α → β) (s : Stp α) : Stp β := ⟨s.k, s.nm, s.to, f s.b⟩
theorem on2_act (f : α → β) (z : α) (l : List (Bs × α)) (s : Stp α) : on2 f (actF z l s) = actF (f z) (on2 f l) (s.map f) := by
  unfold actF Stp.map
  dsimp only
  split
  · exact on2_put f _ _ l
  · split
    · rw [on2_put, on2_del, on2_got]
      cases got s.nm l <;> rfl
    · exact on2_del f _ l

/-! ### members -/
theorem mem_ins {x p : Bs × α} : ∀ {l : List (Bs × α)}, p ∈ ins x l ↔ p = x ∨ p ∈ l
  | [] => by simp [ins]
  | y :: r => by
    unfold ins
    split
    · simp
    · simp only [List.mem_cons, mem_ins (l := r)]
      constructor <;> (rintro (h | h | h) <;> simp [h])
theorem mem_del {k : Bs} {p : Bs × α} {l : List (Bs × α)} : p ∈ del k l ↔ p ∈ l ∧ p.1 ≠ k := by simp [del]
theorem mem_put {k : Bs} {a : α} {p : Bs × α} {l : List (Bs × α)} : p ∈ put k a l ↔ p = (k, a) ∨ (p ∈ l ∧ p.1 ≠ k) := by
  rw [put, mem_ins, mem_del]
theorem got_mem {k : Bs} {a : α} {l : List (Bs × α)} (h : got k l = some a) : (k, a) ∈ l := by
  unfold got at h
  obtain ⟨p, hp, rfl⟩ := Option.map_eq_some_iff.1 h
  have h1 := List.find?_some hp
  have h2 := List.mem_of_find?_eq_some hp
  have e : p.1 = k := by simpa using h1
  rw [← e]
  exact h2
theorem mem_act {z : α} {l : List (Bs × α)} {s : Stp α} {p : Bs × α} (h : p ∈ actF z l s) : p ∈ l ∨ p.2 = s.b ∨ p.2 = z ∨ ∃ q ∈ l, q.2 = p.2 := by
  unfold actF at h
  split at h
  · rcases mem_put.1 h with rfl | h
    · exact .inr (.inl rfl)
    · exact .inl h.1
  · split at h
    · rcases mem_put.1 h with rfl | h
      · cases hg : got s.nm l with
        | none => exact .inr (.inr (.inl rfl))
        | some a => exact .inr (.inr (.inr ⟨_, got_mem hg, rfl⟩))
      · exact .inl (mem_del.1 h.1).1
    · exact .inl (mem_del.1 h).1

/-! ### how many -/
theorem len_ins (x : Bs × α) : ∀ l : List (Bs × α), (ins x l).length = l.length + 1
  | [] => rfl
  | y :: r => by unfold ins; split <;> simp [len_ins x r]
theorem len_del (k : Bs) (l : List (Bs × α)) : (del k l).length ≤ l.length := List.length_filter_le _ _
theorem hasF_mem {k : Bs} {l : List (Bs × α)} : hasF k l = true ↔ ∃ p ∈ l, p.1 = k := by simp [hasF]
theorem hasF_false {k : Bs} {l : List (Bs × α)} : hasF k l = false ↔ ∀ p ∈ l, p.1 ≠ k := by simp [hasF]
theorem len_del_has {k : Bs} : ∀ {l : List (Bs × α)}, hasF k l = true → (del k l).length < l.length := by
  intro l h
  obtain ⟨p, hp, hk⟩ := hasF_mem.1 h
  unfold del
  rcases Nat.lt_or_ge (l.filter fun p => !(p.1 == k)).length l.length with h1 | h1
  · exact h1
  · have h2 : (l.filter fun p => !(p.1 == k)) = l := (List.filter_sublist).eq_of_length (Nat.le_antisymm (List.length_filter_le _ _) h1)
    have h3 := List.filter_eq_self.1 h2 p hp
    simp [hk] at h3
theorem len_put (k : Bs) (a : α) (l : List (Bs × α)) : (put k a l).length = (del k l).length + 1 := len_ins _ _
theorem got_has {k : Bs} {l : List (Bs × α)} : (got k l).isSome = hasF k l := by
  unfold got hasF
  rw [Option.isSome_map, Bool.eq_iff_iff]
  simp [List.find?_isSome]
end

/-! ### as a map's entries -/
/-- A map's element: the value that stands there, and what it holds. -/
abbrev Pay := Value × Bs
def nilPay : Pay := (.slice none 0 0, [])
def mp (V : List (Bs × Pay)) : DataW Value := .map (V.map fun t => (.string t.1, .held t.2.1))
def rv (v : Value) : Option (DataW Value × List MemPlace) := some (.held v, [])
theorem mp_insert (k : Bs) (a : Pay) : ∀ V : List (Bs × Pay), DataW.insert ((.string k, .held a.1) : Lit × DataW Value) (V.map fun t => ((.string t.1, .held t.2.1) : Lit × DataW Value)) = (ins (k, a) V).map fun t => (.string t.1, .held t.2.1)
  | [] => rfl
  | y :: r => by
    have ih := mp_insert k a r
    by_cases h : bytesBefore k y.1 = true
    · simp only [List.map_cons, ins, DataW.insert, Lit.before, h, if_true]
    · simp only [List.map_cons, ins, DataW.insert, Lit.before, h, ih, Bool.false_eq_true, if_false]
theorem mp_del (k : Bs) (V : List (Bs × Pay)) : (mp V).del (.string k) = mp (del k V) := by
  simp only [mp, DataW.del, del, List.filter_map, Function.comp_def, Lit.sameKey]
theorem mp_put (k : Bs) (a : Pay) (V : List (Bs × Pay)) : (mp V).put (.string k) (.held a.1) = mp (put k a V) := by
  simp only [mp, DataW.put, put, del, List.filter_map, Function.comp_def, Lit.sameKey, mp_insert]
theorem mp_at (k : Bs) (V : List (Bs × Pay)) (z : DataW Value) : (mp V).atKey (.string k) z = match got k V with | some a => .held a.1 | none => z := by
  simp only [mp, DataW.atKey, got, List.find?_map, Function.comp_def, Lit.sameKey]
  cases List.find? (fun t => t.1 == k) V <;> rfl
theorem mp_atD (k : Bs) (V : List (Bs × Pay)) : (mp V).atKey (.string k) (.held nilPay.1) = .held ((got k V).getD nilPay).1 := by
  rw [mp_at]
  cases got k V <;> rfl
theorem mp_has (k : Bs) (V : List (Bs × Pay)) : Maps.has (mp V) (.string k) = hasF k V := by
  simp only [mp, Maps.has_eq, hasF, List.any_map, Function.comp_def, Lit.sameKey]
theorem mp_size (V : List (Bs × Pay)) : Maps.size (mp V) = V.length := by simp [mp, Maps.size_eq]
theorem mp_keys (V : List (Bs × Pay)) : strKeys (mp V) = V.map (·.1) := by
  simp [mp, strKeys, strOf, List.map_map, Function.comp_def]
end Go.Proofs.YtkfnbapnkmlopaaDoor
/- Layer 9: names counted in a map. -/
namespace Go.Proofs.YtkfnbapnkmlopaaDoor
open Go.RowKit Go.Maps Go.ChangeMaps Go.WideMaps

theorem keyLaw9 : Keyed Tryd.prog 9 := string_keyed Tryd.underlying9
theorem zeroI9 (w : World) : (zeroValue 3).run Tryd.prog w = .ok (.int .i64 0) w := by kernel_rfl
theorem keyS9 {k : Tx} (h : k.length ≤ 1000000) : keyOf Tryd.prog 9 (.string (str k)) = some (.string k) :=
  keyOf_string_mk Tryd.underlying9 (s := str k) (by rw [str_size]; unfold maxLen; omega)
/-- Block b is a map with the entries V. -/
def MapI (w : World) (b : Nat) (V : List (Bs × Pay)) : Prop := w.ownsMap Tryd.prog 9 rv b V.length (mp V)
def cnt9 (n : Int) : Pay := (.int .i64 n, [])
theorem got_put (k : Bs) (a : Pay) (V : List (Bs × Pay)) : got k (put k a V) = some a := by
  have h : (got k (put k a V)).isSome = true := by
    rw [got_has, hasF_mem]
    exact ⟨(k, a), mem_put.2 (.inl rfl), rfl⟩
  obtain ⟨x, hx⟩ := Option.isSome_iff_exists.1 h
  rw [hx]
  rcases mem_put.1 (got_mem hx) with h1 | h1
  · injection h1 with _ h1
    rw [h1]
  · exact absurd rfl h1.2
section
variable {w w' : World} {b n : Nat} {V : List (Bs × Pay)}
theorem MapI.of (h : w.ownsMap Tryd.prog 9 rv b n (mp V)) : MapI w b V := by
  obtain ⟨es, clock, hb, F, hs, hD⟩ := h
  refine ⟨es, clock, hb, F, ?_, hD⟩
  have h1 := congrArg Maps.size hD
  rw [mp_size] at h1
  rw [h1]
  simp [Maps.size, length_sorted]
theorem MapI.lt (h : MapI w b V) : b < w.heap.size := World.ownsMap.lt h
theorem MapI.block (h : MapI w b V) (hb : w'.heap[b]? = w.heap[b]?) : MapI w' b V := by
  obtain ⟨es, clock, h1, h2⟩ := h
  exact ⟨es, clock, hb.trans h1, h2⟩
theorem mp_atI (k : Bs) (V : List (Bs × Pay)) : (mp V).atKey (.string k) (.held (.int .i64 0)) = .held ((got k V).getD (cnt9 0)).1 := by
  rw [mp_at]
  cases got k V <;> rfl
theorem MapI.look (h : MapI w b V) {k : Bs} (hk : k.length ≤ 1000000) : (Instr.lookup 56 (.map (some b)) (.string (str k)) false).run Tryd.prog w = .ok ((got k V).getD (cnt9 0)).1 w := by
  obtain ⟨v, ps, h1, h2⟩ := World.ownsMap.lookup h keyLaw9 Tryd.underlying56 (zeroI9 w) (zd := .held (.int .i64 0)) rfl (keyS9 hk)
  rw [mp_atI] at h2
  simp only [rv, Option.some.injEq, Prod.mk.injEq, DataW.held.injEq] at h2
  rw [h1, h2.1]
variable {ops : Array Oper} {rest : List Oper} {o : Oper} {a : Act} {Q : Exit → Act → World → Prop}
theorem wpList_iput (hg : o.guard = none) (m x v : Operand) (hop : o.op = Op.mapUpdate 56 m x v) (b : Nat) (V : List (Bs × Pay)) (hm : a.eval m = .map (some b)) (hown : MapI w b V) (hl : V.length ≤ 1000000)
    (k : Bs) (p : Pay) (hx : a.eval x = .string (str k)) (hv : a.eval v = p.1) (hk : k.length ≤ 1000000)
    (hK : ∀ w', MapI w' b (put k p V) → w.grownBy w' (some b) → wpList Tryd.prog ops Q rest (a.put o.dst undef) w') : wpList Tryd.prog ops Q (o :: rest) a w :=
  wpList_mapUpdate_own w hg m x v 56 hop 9 3 keyLaw9 Tryd.underlying56 rv b V.length (mp V) hm hown (by unfold maxLen; omega) (.string (str k)) p.1 (.string k) hx hv (keyS9 hk) (.held p.1) [] rfl
    (fun w' h1 h2 => hK w' (MapI.of (by rw [← mp_put]; exact h1)) h2)
end
/-- Block b counts these names, each once. -/
def NmIs (w : World) (b : Nat) (L : List Tx) : Prop := ∃ V, MapI w b V ∧ V.length ≤ L.length ∧ (∀ p ∈ V, p.2 = cnt9 1) ∧ ∀ k, hasF k V = L.any (· == k)
section
variable {w w' : World} {b : Nat} {L : List Tx}
theorem NmIs.block (h : NmIs w b L) (hb : w'.heap[b]? = w.heap[b]?) : NmIs w' b L := by
  obtain ⟨V, h1, h2⟩ := h
  exact ⟨V, h1.block hb, h2⟩
theorem NmIs.lt (h : NmIs w b L) : b < w.heap.size := by
  obtain ⟨V, h1, _⟩ := h
  exact h1.lt
theorem NmIs.below (h : NmIs w b L) (hb : Below w.heap.size w w') : NmIs w' b L := h.block (hb.block b h.lt)
theorem NmIs.grown (h : NmIs w b L) {row : Option Nat} (hg : w.grownBy w' row) (hr : row ≠ some b) : NmIs w' b L := h.block (hg.block b h.lt fun e => hr e.symm)
theorem NmIs.made (w : World) : NmIs (w.alloc (.map #[] 0)) w.heap.size [] :=
  ⟨[], World.ownsMap_made w _ _ _, Nat.le_refl _, (fun p hp => by cases hp), fun k => rfl⟩
/-- What a map of names is, with what is read of one name. -/
theorem NmIs.at_ (h : NmIs w b L) (k : Tx) : ∃ V, MapI w b V ∧ V.length ≤ L.length ∧ ((got k V).getD (cnt9 0)) = cnt9 (if L.any (· == k) then 1 else 0) ∧
    ∀ w', MapI w' b (put k (cnt9 1) V) → L.any (· == k) = false → NmIs w' b (L ++ [k]) := by
  obtain ⟨V, h1, h2, h3, h4⟩ := h
  refine ⟨V, h1, h2, ?_, fun w' hw hno => ⟨_, hw, ?_, ?_, ?_⟩⟩
  · rw [← h4 k, ← got_has]
    cases hg : got k V with
    | none => rfl
    | some a => exact h3 _ (got_mem hg)
  · rw [len_put, List.length_append]
    exact Nat.add_le_add_right (Nat.le_trans (len_del _ _) h2) 1
  · intro p hp
    rcases mem_put.1 hp with rfl | ⟨hp, _⟩
    · rfl
    · exact h3 p hp
  · intro q
    rw [List.any_append, ← h4 q, Bool.eq_iff_iff, Bool.or_eq_true, hasF_mem, hasF_mem]
    constructor
    · rintro ⟨p, hp, rfl⟩
      rcases mem_put.1 hp with rfl | ⟨hp, _⟩
      · exact .inr (by simp)
      · exact .inl ⟨p, hp, rfl⟩
    · rintro (⟨p, hp, rfl⟩ | hq)
      · by_cases e : p.1 = k
        · exact ⟨(k, cnt9 1), mem_put.2 (.inl rfl), e.symm⟩
        · exact ⟨p, mem_put.2 (.inr ⟨hp, e⟩), rfl⟩
      · have e : k = q := by simpa using hq
        exact ⟨(k, cnt9 1), mem_put.2 (.inl rfl), e⟩
end
end Go.Proofs.YtkfnbapnkmlopaaDoor

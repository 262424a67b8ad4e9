/- Files as lists of names and what they hold, in the order of names; the same as a map's entries. No text of the program is walked here. -/
import Derived.Test.YtencapplbedcmaaGreatDoorBase
import Derived.Maps.OwnSet
import Derived.Sort.KeysCollected
namespace Go.Proofs.YtencapplbedcmaaGreatDoor
open Go.RowKit Go.Maps Go.Sort

abbrev Bs := List UInt8
section
variable {α β : Type}
def ins (x : Bs × α) : List (Bs × α) → List (Bs × α)
  | [] => [x]
  | y :: r => if bytesBefore x.1 y.1 then x :: y :: r else y :: ins x r
def del (k : Bs) (l : List (Bs × α)) : List (Bs × α) := l.filter fun p => !(p.1 == k)
def put (k : Bs) (a : α) (l : List (Bs × α)) : List (Bs × α) := ins (k, a) (del k l)
def got (k : Bs) (l : List (Bs × α)) : Option α := (l.find? fun p => p.1 == k).map (·.2)
def hasF (k : Bs) (l : List (Bs × α)) : Bool := l.any fun p => p.1 == k
/-- A step: 0 a write, 1 a rename, else a file taken away. -/
structure Stp (α : Type) where
  k : Nat
  nm : Bs
  to : Bs
  b : α
def actF (z : α) (l : List (Bs × α)) (s : Stp α) : List (Bs × α) :=
  if s.k = 0 then put s.nm s.b l else if s.k = 1 then put s.to ((got s.nm l).getD z) (del s.nm l) else del s.nm l

/-! ### what a map on the second part does -/
def on2 (f : α → β) (l : List (Bs × α)) : List (Bs × β) := l.map fun p => (p.1, f p.2)
theorem on2_ins (f : α → β) (k : Bs) (a : α) : ∀ l : List (Bs × α), on2 f (ins (k, a) l) = ins (k, f a) (on2 f l)
  | [] => rfl
  | y :: r => by
    have ih := on2_ins f k a r
    simp only [on2] at ih ⊢
    simp only [ins, List.map_cons]
    split <;> simp_all
theorem on2_del (f : α → β) (k : Bs) (l : List (Bs × α)) : on2 f (del k l) = del k (on2 f l) := by
  simp [on2, del, List.filter_map, Function.comp_def]
theorem on2_put (f : α → β) (k : Bs) (a : α) (l : List (Bs × α)) : on2 f (put k a l) = put k (f a) (on2 f l) := by
  rw [put, on2_ins, on2_del]; rfl
theorem on2_got (f : α → β) (k : Bs) (l : List (Bs × α)) : got k (on2 f l) = (got k l).map f := by
  simp only [got, on2, List.find?_map, Option.map_map, Function.comp_def]
theorem on2_has (f : α → β) (k : Bs) (l : List (Bs × α)) : hasF k (on2 f l) = hasF k l := by
  simp [hasF, on2, List.any_map, Function.comp_def]
theorem on2_len (f : α → β) (l : List (Bs × α)) : (on2 f l).length = l.length := by simp [on2]
def Stp.map (f : α → β) (s : Stp α) : Stp β := ⟨s.k, s.nm, s.to, f s.b⟩
theorem on2_act (f : α → β) (z : α) (l : List (Bs × α)) (s : Stp α) : on2 f (actF z l s) = actF (f z) (on2 f l) (s.map f) := by
  unfold actF Stp.map
  dsimp only
  split
  · exact on2_put f _ _ l
  · split
    · rw [on2_put, on2_del, on2_got]
      cases got s.nm l <;> rfl
    · exact on2_del f _ l

/-! ### members -/
theorem mem_ins {x p : Bs × α} : ∀ {l : List (Bs × α)}, p ∈ ins x l ↔ p = x ∨ p ∈ l
  | [] => by simp [ins]
  | y :: r => by
    unfold ins
    split
    · simp
    · simp only [List.mem_cons, mem_ins (l := r)]
      constructor <;> (rintro (h | h | h) <;> simp [h])
theorem mem_del {k : Bs} {p : Bs × α} {l : List (Bs × α)} : p ∈ del k l ↔ p ∈ l ∧ p.1 ≠ k := by simp [del]
theorem mem_put {k : Bs} {a : α} {p : Bs × α} {l : List (Bs × α)} : p ∈ put k a l ↔ p = (k, a) ∨ (p ∈ l ∧ p.1 ≠ k) := by
  rw [put, mem_ins, mem_del]
theorem got_mem {k : Bs} {a : α} {l : List (Bs × α)} (h : got k l = some a) : (k, a) ∈ l := by
  unfold got at h
  obtain ⟨p, hp, rfl⟩ := Option.map_eq_some_iff.1 h
  have h1 := List.find?_some hp
  have h2 := List.mem_of_find?_eq_some hp
  have e : p.1 = k := by simpa using h1
  rw [← e]
  exact h2
theorem mem_act {z : α} {l : List (Bs × α)} {s : Stp α} {p : Bs × α} (h : p ∈ actF z l s) : p ∈ l ∨ p.2 = s.b ∨ p.2 = z ∨ ∃ q ∈ l, q.2 = p.2 := by
  unfold actF at h
  split at h
  · rcases mem_put.1 h with rfl | h
    · exact .inr (.inl rfl)
    · exact .inl h.1
  · split at h
    · rcases mem_put.1 h with rfl | h
      · cases hg : got s.nm l with
        | none => exact .inr (.inr (.inl rfl))
        | some a => exact .inr (.inr (.inr ⟨_, got_mem hg, rfl⟩))
      · exact .inl (mem_del.1 h.1).1
    · exact .inl (mem_del.1 h).1

/-! ### how many -/
theorem len_ins (x : Bs × α) : ∀ l : List (Bs × α), (ins x l).length = l.length + 1
  | [] => rfl
  | y :: r => by unfold ins; split <;> simp [len_ins x r]
theorem len_del (k : Bs) (l : List (Bs × α)) : (del k l).length ≤ l.length := List.length_filter_le _ _
theorem hasF_mem {k : Bs} {l : List (Bs × α)} : hasF k l = true ↔ ∃ p ∈ l, p.1 = k := by simp [hasF]
theorem hasF_false {k : Bs} {l : List (Bs × α)} : hasF k l = false ↔ ∀ p ∈ l, p.1 ≠ k := by simp [hasF]
theorem len_del_has {k : Bs} : ∀ {l : List (Bs × α)}, hasF k l = true → (del k l).length < l.length := by
  intro l h
  obtain ⟨p, hp, hk⟩ := hasF_mem.1 h
  unfold del
  rcases Nat.lt_or_ge (l.filter fun p => !(p.1 == k)).length l.length with h1 | h1
  · exact h1
  · have h2 : (l.filter fun p => !(p.1 == k)) = l := (List.filter_sublist).eq_of_length (Nat.le_antisymm (List.length_filter_le _ _) h1)
    have h3 := List.filter_eq_self.1 h2 p hp
    simp [hk] at h3
theorem len_put (k : Bs) (a : α) (l : List (Bs × α)) : (put k a l).length = (del k l).length + 1 := len_ins _ _
theorem got_has {k : Bs} {l : List (Bs × α)} : (got k l).isSome = hasF k l := by
  unfold got hasF
  rw [Option.isSome_map, Bool.eq_iff_iff]
  simp [List.find?_isSome]
end

/-! ### as a map's entries -/
/-- A map's element: the value that stands there, and what it holds. -/
abbrev Pay := Value × Bs
def nilPay : Pay := (.slice none 0 0, [])
def mp (V : List (Bs × Pay)) : DataW Value := .map (V.map fun t => (.string t.1, .held t.2.1))
def rv (v : Value) : Option (DataW Value × List MemPlace) := some (.held v, [])
theorem mp_insert (k : Bs) (a : Pay) : ∀ V : List (Bs × Pay), DataW.insert ((.string k, .held a.1) : Lit × DataW Value) (V.map fun t => ((.string t.1, .held t.2.1) : Lit × DataW Value)) = (ins (k, a) V).map fun t => (.string t.1, .held t.2.1)
  | [] => rfl
  | y :: r => by
    have ih := mp_insert k a r
    by_cases h : bytesBefore k y.1 = true
    · simp only [List.map_cons, ins, DataW.insert, Lit.before, h, if_true]
    · simp only [List.map_cons, ins, DataW.insert, Lit.before, h, ih, Bool.false_eq_true, if_false]
theorem mp_del (k : Bs) (V : List (Bs × Pay)) : (mp V).del (.string k) = mp (del k V) := by
  simp only [mp, DataW.del, del, List.filter_map, Function.comp_def, Lit.sameKey]
theorem mp_put (k : Bs) (a : Pay) (V : List (Bs × Pay)) : (mp V).put (.string k) (.held a.1) = mp (put k a V) := by
  simp only [mp, DataW.put, put, del, List.filter_map, Function.comp_def, Lit.sameKey, mp_insert]
theorem mp_at (k : Bs) (V : List (Bs × Pay)) (z : DataW Value) : (mp V).atKey (.string k) z = match got k V with | some a => .held a.1 | none => z := by
  simp only [mp, DataW.atKey, got, List.find?_map, Function.comp_def, Lit.sameKey]
  cases List.find? (fun t => t.1 == k) V <;> rfl
theorem mp_atD (k : Bs) (V : List (Bs × Pay)) : (mp V).atKey (.string k) (.held nilPay.1) = .held ((got k V).getD nilPay).1 := by
  rw [mp_at]
  cases got k V <;> rfl
theorem mp_has (k : Bs) (V : List (Bs × Pay)) : Maps.has (mp V) (.string k) = hasF k V := by
  simp only [mp, Maps.has_eq, hasF, List.any_map, Function.comp_def, Lit.sameKey]
theorem mp_size (V : List (Bs × Pay)) : Maps.size (mp V) = V.length := by simp [mp, Maps.size_eq]
theorem mp_keys (V : List (Bs × Pay)) : strKeys (mp V) = V.map (·.1) := by
  simp [mp, strKeys, strOf, List.map_map, Function.comp_def]
end Go.Proofs.YtencapplbedcmaaGreatDoor

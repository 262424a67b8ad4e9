/- VaMath, VaNum, VaInt, in one text. -/
import Derived.Test.YthnogakjaaopkaaGreatDoorLx8
import Derived.Lib.Atoi
import Derived.Lib.ItoaNum
import Derived.Lib.AtoiAllCases
import Derived.Shelf.GgClosure.StringsIndexFunc
/- Plain lists of layer 10 (chapter 10's words; of no program). -/
namespace Go.Proofs.YthnogakjaaopkaaGreatDoor
open Go.RowKit

def bl2 (c : UInt8) : Bool := c == 32 || c == 9
def ldw (l : Tx) : Tx := l.dropWhile bl2
def rdw (l : Tx) : Tx := (l.reverse.dropWhile bl2).reverse
def trw (l : Tx) : Tx := rdw (ldw l)
theorem rdw_nil : rdw [] = [] := rfl
theorem rdw_snoc (l : Tx) (x : UInt8) : rdw (l ++ [x]) = if bl2 x then rdw l else l ++ [x] := by
  unfold rdw
  rw [List.reverse_append, List.reverse_singleton, List.singleton_append, List.dropWhile_cons]
  split <;> simp
theorem rdw_cons (x : UInt8) (l : Tx) : rdw (x :: l) = if rdw l = [] ∧ bl2 x = true then [] else x :: rdw l := by
  unfold rdw
  rw [List.reverse_cons, List.dropWhile_append]
  cases h : (l.reverse.dropWhile bl2).isEmpty
  · have hne : l.reverse.dropWhile bl2 ≠ [] := by simpa using h
    rw [if_neg (by simp), if_neg (by simp [hne])]
    simp
  · have he : l.reverse.dropWhile bl2 = [] := by simpa using h
    rw [if_pos rfl, he, List.dropWhile_cons]
    cases hb : bl2 x <;> simp
theorem ldw_cons (x : UInt8) (l : Tx) : ldw (x :: l) = if bl2 x then ldw l else x :: l := by unfold ldw; rw [List.dropWhile_cons]
theorem trw_comm : ∀ l : Tx, rdw (ldw l) = ldw (rdw l)
  | [] => rfl
  | x :: l => by
    have ih := trw_comm l
    rw [ldw_cons, rdw_cons]
    cases hb : bl2 x
    · simp only [Bool.false_eq_true, if_false, and_false]
      rw [rdw_cons, hb, ldw_cons, hb]
      simp
    · simp only [if_true, and_true]
      by_cases he : rdw l = []
      · rw [if_pos he, ih, he]
      · rw [if_neg he, ldw_cons, hb, if_pos rfl, ih]
theorem ldw_pad : ∀ (b l : Tx), (∀ x ∈ b, bl2 x = true) → ldw (b ++ l) = ldw l
  | [], _, _ => rfl
  | x :: b, l, h => by
    rw [List.cons_append, ldw_cons, h x (by simp), if_pos rfl]
    exact ldw_pad b l fun y hy => h y (by simp [hy])
theorem rdw_pad (b l : Tx) (h : ∀ x ∈ b, bl2 x = true) : rdw (l ++ b) = rdw l := by
  have := ldw_pad b.reverse l.reverse (fun x hx => h x (by simpa using hx))
  unfold ldw at this
  unfold rdw
  rw [List.reverse_append, this]
theorem trw_pad (a l b : Tx) (ha : ∀ x ∈ a, bl2 x = true) (hb : ∀ x ∈ b, bl2 x = true) : trw (a ++ l ++ b) = trw l := by
  unfold trw
  rw [trw_comm, rdw_pad b _ hb, ← trw_comm, ldw_pad a l ha]
theorem ldw_split (l : Tx) : ∃ a, l = a ++ ldw l ∧ ∀ x ∈ a, bl2 x = true := by
  refine ⟨l.takeWhile bl2, (List.takeWhile_append_dropWhile).symm, fun x hx => ?_⟩
  exact mem_tw hx
theorem rdw_split (l : Tx) : ∃ b, l = rdw l ++ b ∧ ∀ x ∈ b, bl2 x = true := by
  obtain ⟨a, h1, h2⟩ := ldw_split l.reverse
  refine ⟨a.reverse, ?_, fun x hx => h2 x (by simpa using hx)⟩
  have := congrArg List.reverse h1
  rw [List.reverse_reverse, List.reverse_append] at this
  exact this
theorem trw_split (l : Tx) : ∃ a b, l = a ++ trw l ++ b ∧ (∀ x ∈ a, bl2 x = true) ∧ ∀ x ∈ b, bl2 x = true := by
  obtain ⟨a, h1, h2⟩ := ldw_split l
  obtain ⟨b, h3, h4⟩ := rdw_split (ldw l)
  refine ⟨a, b, ?_, h2, h4⟩
  unfold trw
  rw [List.append_assoc, ← h3]
  exact h1
theorem trw_trim (l : Tx) : trw (trw l) = trw l := by
  obtain ⟨a, b, h, ha, hb⟩ := trw_split l
  have := trw_pad a (trw l) b ha hb
  rw [← h] at this
  exact this.symm
theorem trw_len (l : Tx) : (trw l).length ≤ l.length := by
  obtain ⟨a, b, h, _⟩ := trw_split l
  have := congrArg List.length h
  simp only [List.length_append] at this
  omega
theorem trw_mem {l : Tx} {x : UInt8} (h : x ∈ trw l) : x ∈ l := by
  obtain ⟨a, b, e, _⟩ := trw_split l
  rw [e]
  simp [h]


/-! Parts. -/
def partsT (s : Tx) : List Tx := (cutAt 44 s).map trw
def badPart (p : Tx) : Bool := p.isEmpty || p.contains 44 || decide (trw p ≠ p)
def dupT : List Tx → Bool
  | [] => false
  | p :: l => l.contains p || dupT l
def chkT (l : List Tx) : Nat := if l.any List.isEmpty = true then 3 else if dupT l = true then 7 else if 4096 < l.length then 2 else 0
def listT (s : Tx) : List Tx × Nat := if trw s = [] then ([], 13) else if chkT (partsT s) ≠ 0 then ([], chkT (partsT s)) else (partsT s, 0)
def joinC : List Tx → Tx
  | [] => []
  | [p] => p
  | p :: q :: r => p ++ 44 :: joinC (q :: r)
def joinedT (l : List Tx) : Tx × Nat := if l = [] then ([], 13) else if l.any badPart = true then ([], 3) else if chkT l ≠ 0 then ([], chkT l) else (joinC l, 0)
theorem cut_join : ∀ l : List Tx, l ≠ [] → (∀ p ∈ l, 44 ∉ p) → cutAt 44 (joinC l) = l
  | [], h, _ => absurd rfl h
  | [p], _, h => cut_no 44 p (h p (by simp))
  | p :: q :: r, _, h => by
    rw [joinC, cut_of_no 44 p _ (h p (by simp)), cut_join (q :: r) (by simp) fun x hx => h x (by simp [hx])]
theorem badPart_no {p : Tx} (h : badPart p = false) : p ≠ [] ∧ 44 ∉ p ∧ trw p = p := by
  unfold badPart at h
  simp only [Bool.or_eq_false_iff, decide_eq_false_iff_not, Decidable.not_not] at h
  obtain ⟨⟨h1, h2⟩, h3⟩ := h
  refine ⟨fun e => ?_, fun e => ?_, h3⟩
  · rw [e] at h1
    cases h1
  · rw [List.contains_iff_mem.2 e] at h2
    cases h2
theorem trw_nil {s : Tx} (h : trw s = []) : ∀ x ∈ s, bl2 x = true := by
  obtain ⟨a, b, e, ha, hb⟩ := trw_split s
  rw [h, List.append_nil] at e
  intro x hx
  rw [e] at hx
  rcases List.mem_append.1 hx with hx | hx
  · exact ha x hx
  · exact hb x hx
theorem trw_blank {s : Tx} (h : ∀ x ∈ s, bl2 x = true) : trw s = [] := by
  have := trw_pad s [] [] h (fun x hx => by cases hx)
  rw [List.append_nil, List.append_nil] at this
  exact this
theorem join_mem : ∀ (l : List Tx) (p : Tx), p ∈ l → ∀ x ∈ p, x ∈ joinC l
  | [q], p, hp, x, hx => by
    rw [List.mem_singleton.1 hp] at hx
    exact hx
  | q :: q' :: r, p, hp, x, hx => by
    rw [joinC]
    rcases List.mem_cons.1 hp with rfl | hp
    · exact List.mem_append.2 (.inl hx)
    · exact List.mem_append.2 (.inr (List.mem_cons_of_mem _ (join_mem (q' :: r) p hp x hx)))
/-- What a text reads as, whose parts are these, with blanks about them. -/
theorem list_of (l L : List Tx) (hne : l ≠ []) (hb : ∀ p ∈ l, badPart p = false) (hc : chkT l = 0) (hL : ∀ p ∈ L, 44 ∉ p) (hm : L.map trw = l) : listT (joinC L) = (l, 0) := by
  have hLne : L ≠ [] := fun e => hne (by rw [← hm, e]; rfl)
  have hp : partsT (joinC L) = l := by rw [partsT, cut_join L hLne hL, hm]
  unfold listT
  rw [hp, if_neg, if_neg (by rw [hc]; simp)]
  intro h
  have hall := trw_nil h
  obtain ⟨p, r, rfl⟩ := List.exists_cons_of_ne_nil hLne
  have h1 : trw p = [] := trw_blank fun x hx => hall x (join_mem (p :: r) p (by simp) x hx)
  have h2 := (badPart_no (hb (trw p) (by rw [← hm]; simp))).1
  exact h2 h1
theorem joined_facts {l : List Tx} {t : Tx} (h : joinedT l = (t, 0)) : l ≠ [] ∧ (∀ p ∈ l, badPart p = false) ∧ chkT l = 0 ∧ t = joinC l := by
  unfold joinedT at h
  split at h
  · cases h
  · rename_i h1
    split at h
    · cases h
    · rename_i h2
      split at h
      · rename_i h3
        exact absurd (Prod.mk.inj h).2 h3
      · rename_i h3
        refine ⟨h1, fun p hp => ?_, Decidable.not_not.1 h3, (Prod.mk.inj h).1.symm⟩
        cases hb : badPart p
        · rfl
        · exact absurd (List.any_eq_true.2 ⟨p, hp, hb⟩) h2
/-- VA4: the parts of parts joined are these. -/
theorem list_joined {l : List Tx} {t : Tx} (h : joinedT l = (t, 0)) : listT t = (l, 0) := by
  obtain ⟨h1, h2, h3, rfl⟩ := joined_facts h
  refine list_of l l h1 h2 h3 (fun p hp => (badPart_no (h2 p hp)).2.1) ?_
  have : l.map trw = l.map id := List.map_congr_left fun p hp => (badPart_no (h2 p hp)).2.2
  rw [this, List.map_id]
/-- The parts with blanks about the commas. -/
def wideP : Tx → List Tx → List Tx
  | _, [] => []
  | a, [p] => [a ++ p ++ [32]]
  | a, p :: q :: r => (a ++ p ++ [32]) :: wideP [9] (q :: r)
def wideT : List Tx → Tx
  | [] => []
  | [p] => p
  | p :: q :: r => p ++ [32, 44, 9] ++ wideT (q :: r)
theorem wide_join : ∀ (l : List Tx) (a : Tx), l ≠ [] → joinC (wideP a l) = a ++ wideT l ++ [32]
  | [], _, h => absurd rfl h
  | [p], a, _ => by simp [wideP, joinC, wideT]
  | p :: q :: r, a, _ => by
    have ih := wide_join (q :: r) [9] (by simp)
    obtain ⟨x, y, hxy⟩ : ∃ x y, wideP [9] (q :: r) = x :: y := by
      cases r with
      | nil => exact ⟨_, _, rfl⟩
      | cons b c => exact ⟨_, _, rfl⟩
    rw [wideP, hxy, joinC, ← hxy, ih, wideT]
    simp
theorem wide_map : ∀ (l : List Tx) (a : Tx), (∀ x ∈ a, bl2 x = true) → (wideP a l).map trw = l.map trw
  | [], _, _ => rfl
  | [p], a, h => by
    simp only [wideP, List.map_cons, List.map_nil]
    rw [trw_pad a p [32] h (by simp [bl2])]
  | p :: q :: r, a, h => by
    rw [wideP, List.map_cons, List.map_cons, trw_pad a p [32] h (by simp [bl2]), wide_map (q :: r) [9] (by simp [bl2])]
theorem wide_no : ∀ (l : List Tx) (a : Tx), 44 ∉ a → (∀ p ∈ l, 44 ∉ p) → ∀ p ∈ wideP a l, 44 ∉ p
  | [], _, _, _, p, hp => by cases hp
  | [q], a, ha, h, p, hp => by
    rw [List.mem_singleton.1 hp]
    have := h q (by simp)
    simp [ha, this]
  | q :: q' :: r, a, ha, h, p, hp => by
    rcases List.mem_cons.1 hp with rfl | hp
    · have := h q (by simp)
      simp [ha, this]
    · exact wide_no (q' :: r) [9] (by simp) (fun x hx => h x (by simp [hx])) p hp
/-- VA4: blanks about the commas change nothing. -/
theorem list_wide {l : List Tx} {t : Tx} (h : joinedT l = (t, 0)) : listT ([32] ++ wideT l ++ [32]) = (l, 0) := by
  obtain ⟨h1, h2, h3, rfl⟩ := joined_facts h
  rw [← wide_join l [32] h1]
  refine list_of l _ h1 h2 h3 (wide_no l [32] (by simp) fun p hp => (badPart_no (h2 p hp)).2.1) ?_
  rw [wide_map l [32] (by simp [bl2])]
  have : l.map trw = l.map id := List.map_congr_left fun p hp => (badPart_no (h2 p hp)).2.2
  rw [this, List.map_id]
/-! Letters. -/
def mayT (L : Tx) : Bool := L.all (fun c => decide (97 ≤ c) && decide (c ≤ 122)) && !dupT (L.map fun c => [c]) && decide (L.length ≤ 16)
/-- The place of a letter; L.length: none. -/
def idxT : Tx → UInt8 → Nat
  | [], _ => 0
  | d :: L, c => if d = c then 0 else idxT L c + 1
def oddP (L : Tx) (p : Tx) : Bool := match p with
  | [c] => !L.contains c
  | _ => true
def bitT (L : Tx) (p : Tx) : Nat := match p with
  | [c] => 2 ^ idxT L c
  | _ => 0
def optT (s L : Tx) : Nat × Nat :=
  if mayT L = false then (0, 1)
  else if (listT s).2 ≠ 0 then (0, (listT s).2)
  else if (listT s).1 = [[110]] ∧ 110 ∉ L then (0, 0)
  else if (listT s).1.any (oddP L) = true then (0, 3)
  else (((listT s).1.map (bitT L)).sum, 0)
/-- The letters of bits. -/
def chosen : Nat → Tx → List Tx
  | _, [] => []
  | b, c :: L => if b % 2 = 1 then [c] :: chosen (b / 2) L else chosen (b / 2) L
def letT (b : Int) (L : Tx) : Tx × Nat :=
  if mayT L = false ∨ 110 ∈ L ∨ b < 0 then ([], 1)
  else if 2 ^ L.length ≤ b.toNat then ([], 1)
  else if chosen b.toNat L = [] then ([110], 0)
  else (joinC (chosen b.toNat L), 0)
theorem chosen_mem : ∀ (L : Tx) (b : Nat) (p : Tx), p ∈ chosen b L → ∃ c ∈ L, p = [c]
  | c :: L, b, p, h => by
    rw [chosen] at h
    split at h
    · rcases List.mem_cons.1 h with rfl | h
      · exact ⟨c, by simp, rfl⟩
      · obtain ⟨d, hd, e⟩ := chosen_mem L _ p h
        exact ⟨d, by simp [hd], e⟩
    · obtain ⟨d, hd, e⟩ := chosen_mem L _ p h
      exact ⟨d, by simp [hd], e⟩
theorem chosen_len : ∀ (L : Tx) (b : Nat), (chosen b L).length ≤ L.length
  | [], _ => Nat.le_refl _
  | c :: L, b => by
    have := chosen_len L (b / 2)
    rw [chosen]
    split <;> simp <;> omega
theorem chosen_dup : ∀ (L : Tx) (b : Nat), dupT (L.map fun c => [c]) = false → dupT (chosen b L) = false
  | [], _, _ => rfl
  | c :: L, b, h => by
    rw [List.map_cons, dupT, Bool.or_eq_false_iff] at h
    have ih := chosen_dup L (b / 2) h.2
    rw [chosen]
    split
    · rw [dupT, ih, Bool.or_false]
      cases hc : (chosen (b / 2) L).contains [c]
      · rfl
      · obtain ⟨d, hd, e⟩ := chosen_mem L _ _ (List.contains_iff_mem.1 hc)
        have h1 := h.1
        rw [List.contains_iff_mem.2 (List.mem_map.2 ⟨d, hd, e.symm⟩)] at h1
        cases h1
    · exact ih
theorem chosen_sum : ∀ (L : Tx) (b : Nat), dupT (L.map fun c => [c]) = false → b < 2 ^ L.length → ((chosen b L).map (bitT L)).sum = b
  | [], b, _, h => by
    simp at h
    subst h
    rfl
  | c :: L, b, h, hb => by
    rw [List.map_cons, dupT, Bool.or_eq_false_iff] at h
    have hb2 : b / 2 < 2 ^ L.length := by
      rw [List.length_cons, Nat.pow_succ] at hb
      omega
    have ih := chosen_sum L (b / 2) h.2 hb2
    have hstep : (chosen (b / 2) L).map (bitT (c :: L)) = ((chosen (b / 2) L).map (bitT L)).map (2 * ·) := by
      rw [List.map_map]
      refine List.map_congr_left fun p hp => ?_
      obtain ⟨d, hd, rfl⟩ := chosen_mem L _ p hp
      have hcd : ¬ c = d := by
        rintro rfl
        have h1 := h.1
        rw [List.contains_iff_mem.2 (List.mem_map.2 ⟨c, hd, rfl⟩)] at h1
        cases h1
      show 2 ^ idxT (c :: L) d = 2 * 2 ^ idxT L d
      rw [idxT, if_neg hcd, Nat.pow_succ, Nat.mul_comm]
    have hsum : ∀ l : List Nat, (l.map (2 * ·)).sum = 2 * l.sum := fun l => by
      induction l with
      | nil => rfl
      | cons x l ih => rw [List.map_cons, List.sum_cons, ih, List.sum_cons]; omega
    rw [chosen]
    split
    · rename_i ho
      rw [List.map_cons, List.sum_cons, hstep, hsum, ih]
      show 2 ^ idxT (c :: L) c + _ = b
      rw [idxT, if_pos rfl]
      omega
    · rename_i ho
      rw [hstep, hsum, ih]
      omega
theorem may_facts {L : Tx} (h : mayT L = true) : (∀ c ∈ L, 97 ≤ c ∧ c ≤ 122) ∧ dupT (L.map fun c => [c]) = false ∧ L.length ≤ 16 := by
  unfold mayT at h
  simp only [Bool.and_eq_true, List.all_eq_true, decide_eq_true_eq, Bool.not_eq_true'] at h
  exact ⟨h.1.1, h.1.2, h.2⟩
theorem small_part {c : UInt8} (h : 97 ≤ c ∧ c ≤ 122) : badPart [c] = false := by
  have h1 : c ≠ 44 := by rintro rfl; exact absurd h.1 (by decide)
  have h2 : bl2 c = false := by
    unfold bl2
    simp only [Bool.or_eq_false_iff, beq_eq_false_iff_ne]
    exact ⟨by rintro rfl; exact absurd h.1 (by decide), by rintro rfl; exact absurd h.1 (by decide)⟩
  have h3 : trw [c] = [c] := by
    unfold trw ldw rdw
    simp [h2]
  unfold badPart
  rw [h3]
  simp [Ne.symm h1]
/-- VA4: the bits of bits' letters are these. -/
theorem opt_let {b : Int} {L t : Tx} (h : letT b L = (t, 0)) : optT t L = (b.toNat, 0) ∧ 0 ≤ b := by
  unfold letT at h
  split at h
  · cases h
  · rename_i h1
    split at h
    · cases h
    · rename_i h2
      have hm : mayT L = true := by
        cases hm : mayT L
        · exact absurd (.inl hm) h1
        · rfl
      have hn : 110 ∉ L := fun e => h1 (.inr (.inl e))
      have hb0 : 0 ≤ b := by
        have : ¬ b < 0 := fun e => h1 (.inr (.inr e))
        omega
      refine ⟨?_, hb0⟩
      obtain ⟨f1, f2, f3⟩ := may_facts hm
      have hsum := chosen_sum L b.toNat f2 (by omega)
      unfold optT
      rw [hm, if_neg (by simp)]
      split at h
      · rename_i h3
        obtain rfl : [110] = t := (Prod.mk.inj h).1
        have e : listT [110] = ([[110]], 0) := by rfl
        rw [e, if_neg (by simp), if_pos ⟨rfl, hn⟩]
        rw [h3] at hsum
        rw [← hsum]
        rfl
      · rename_i h3
        obtain rfl : joinC (chosen b.toNat L) = t := (Prod.mk.inj h).1
        have hpart : ∀ p ∈ chosen b.toNat L, badPart p = false := fun p hp => by
          obtain ⟨c, hc, rfl⟩ := chosen_mem L _ p hp
          exact small_part (f1 c hc)
        have hchk : chkT (chosen b.toNat L) = 0 := by
          unfold chkT
          rw [if_neg, if_neg, if_neg]
          · have := chosen_len L b.toNat
            omega
          · rw [chosen_dup L _ f2]
            simp
          · intro h
            obtain ⟨p, hp, h⟩ := List.any_eq_true.1 h
            obtain ⟨c, _, rfl⟩ := chosen_mem L _ p hp
            cases h
        have hj : joinedT (chosen b.toNat L) = (joinC (chosen b.toNat L), 0) := by
          unfold joinedT
          rw [if_neg h3, if_neg, if_neg (by rw [hchk]; simp)]
          intro h
          obtain ⟨p, hp, h⟩ := List.any_eq_true.1 h
          rw [hpart p hp] at h
          cases h
        rw [list_joined hj, if_neg (by simp), if_neg, if_neg, hsum]
        · intro h
          obtain ⟨p, hp, h⟩ := List.any_eq_true.1 h
          obtain ⟨c, hc, rfl⟩ := chosen_mem L _ p hp
          have h' : (!L.contains c) = true := h
          rw [List.contains_iff_mem.2 hc] at h'
          cases h'
        · rintro ⟨h, _⟩
          have : ([110] : Tx) ∈ chosen b.toNat L := by
            have h' : chosen b.toNat L = [[110]] := h
            rw [h']
            simp
          obtain ⟨c, hc, e⟩ := chosen_mem L _ _ this
          have : c = 110 := (List.cons.inj e).1.symm
          exact hn (this ▸ hc)
end Go.Proofs.YthnogakjaaopkaaGreatDoor
/- Plain numbers of layer 10 (chapter 10's words; of no program). -/
namespace Go.Proofs.YthnogakjaaopkaaGreatDoor
open Go.RowKit

def intT (s : Tx) (lo hi : Int) : Int × Nat :=
  if s = [] then (0, 13)
  else
    let m := s.head? == some 45
    let d := if m then s.tail else s
    if d = [] ∨ 19 < s.length ∨ (d.head? = some 48 ∧ (1 < d.length ∨ m = true)) then (0, 3)
    else match Lib.decFrom 0 d with
      | none => (0, 3)
      | some n =>
        if 9223372036854775807 < n then (0, 5)
        else if (if m then -(n : Int) else (n : Int)) < lo ∨ hi < (if m then -(n : Int) else (n : Int)) then (0, 5)
        else (if m then -(n : Int) else (n : Int), 0)
def flagT (s : Tx) : Bool × Nat := if s = [] then (false, 13) else if s = [48] then (false, 0) else if s = [49] then (true, 0) else (false, 3)
/-- A unit's seconds; 0: no unit. -/
def unitT (c : UInt8) : Nat := if c = 115 then 1 else if c = 109 then 60 else if c = 104 then 3600 else if c = 100 then 86400 else 0
def secT (s : Tx) : Int × Nat :=
  if s = [] then (0, 13)
  else match s.getLast? with
    | none => (0, 13)
    | some c => if unitT c = 0 then intT s 0 10000000 else ((intT s.dropLast 0 10000000).1 * unitT c, (intT s.dropLast 0 10000000).2)
/-! Digits. -/
theorem digitVal_nat (d : Nat) (h : d < 10) : Lib.digitVal (UInt8.ofNat (48 + d)) = some d := by
  have : ∀ i : Fin 10, Lib.digitVal (UInt8.ofNat (48 + i.val)) = some i.val := by decide
  exact this ⟨d, h⟩
theorem decFrom_app (l r : Tx) : ∀ acc, Lib.decFrom acc (l ++ r) = (Lib.decFrom acc l).bind fun a => Lib.decFrom a r := by
  induction l with
  | nil => intro acc; rfl
  | cons b l ih =>
    intro acc
    simp only [List.cons_append, Lib.decFrom]
    cases Lib.digitVal b with
    | none => rfl
    | some d => exact ih _
theorem dec_small {u : Nat} (h : u < 10) : Lib.decDigits u = [UInt8.ofNat (48 + u)] := by rw [Lib.decDigits.eq_1 u, dif_pos h]
theorem dec_big {u : Nat} (h : ¬ u < 10) : Lib.decDigits u = Lib.decDigits (u / 10) ++ [UInt8.ofNat (48 + u % 10)] := by rw [Lib.decDigits.eq_1 u, dif_neg h]
theorem decFrom_dec (u : Nat) : Lib.decFrom 0 (Lib.decDigits u) = some u := by
  induction u using Nat.strongRecOn with
  | ind u ih =>
    by_cases h : u < 10
    · rw [dec_small h, Lib.decFrom, digitVal_nat u h]
      simp [Lib.decFrom]
    · rw [dec_big h, decFrom_app, ih (u / 10) (by omega)]
      simp only [Option.bind_some, Lib.decFrom, digitVal_nat (u % 10) (by omega)]
      congr 1
      omega
theorem dec_ne (u : Nat) : Lib.decDigits u ≠ [] := by
  by_cases h : u < 10
  · rw [dec_small h]; simp
  · rw [dec_big h]; simp
theorem byte_dg (d : Nat) (h : d < 10) : 48 ≤ UInt8.ofNat (48 + d) ∧ UInt8.ofNat (48 + d) ≤ 57 := by
  have : ∀ i : Fin 10, 48 ≤ UInt8.ofNat (48 + i.val) ∧ UInt8.ofNat (48 + i.val) ≤ 57 := by decide
  exact this ⟨d, h⟩
theorem dec_all (u : Nat) : ∀ c ∈ Lib.decDigits u, 48 ≤ c ∧ c ≤ 57 := by
  induction u using Nat.strongRecOn with
  | ind u ih =>
    by_cases h : u < 10
    · rw [dec_small h]
      intro c hc
      rw [List.mem_singleton.1 hc]
      exact byte_dg u h
    · rw [dec_big h]
      intro c hc
      rcases List.mem_append.1 hc with h1 | h1
      · exact ih (u / 10) (by omega) c h1
      · rw [List.mem_singleton.1 h1]
        exact byte_dg _ (by omega)
theorem dec_head (u : Nat) : ∀ c l, Lib.decDigits u = c :: l → u ≠ 0 → c ≠ 48 := by
  induction u using Nat.strongRecOn with
  | ind u ih =>
    intro c l e h0
    by_cases h : u < 10
    · rw [dec_small h] at e
      injection e with e1 e2
      rw [← e1]
      have : ∀ i : Fin 10, i.val ≠ 0 → UInt8.ofNat (48 + i.val) ≠ 48 := by decide
      exact this ⟨u, h⟩ h0
    · rw [dec_big h] at e
      rcases hd : Lib.decDigits (u / 10) with _ | ⟨c', l'⟩
      · exact absurd hd (dec_ne _)
      · rw [hd] at e
        injection e with e1 e2
        rw [← e1]
        exact ih (u / 10) (by omega) c' l' hd (by omega)
theorem dec_len (u : Nat) : ∀ k, u < 10 ^ (k + 1) → (Lib.decDigits u).length ≤ k + 1 := by
  intro k
  induction k generalizing u with
  | zero =>
    intro h
    rw [dec_small (by simpa using h)]
    exact Nat.le_refl _
  | succ k ih =>
    intro h
    by_cases h1 : u < 10
    · rw [dec_small h1]
      simp
    · rw [dec_big h1, List.length_append]
      have := ih (u / 10) (by rw [Nat.pow_succ] at h; omega)
      simp only [List.length_cons, List.length_nil]
      omega
/-- A number's digits are that number. -/
theorem int_dec (k : Nat) (hk : k ≤ 10000000) : intT (Lib.decDigits k) 0 10000000 = ((k : Int), 0) := by
  obtain ⟨c, l, e⟩ := List.exists_cons_of_ne_nil (dec_ne k)
  have hc : 48 ≤ c ∧ c ≤ 57 := dec_all k c (by rw [e]; simp)
  have hm : ((Lib.decDigits k).head? == some 45) = false := by
    rw [e]
    simp only [List.head?_cons, beq_eq_false_iff_ne, ne_eq, Option.some.injEq]
    rintro rfl
    exact absurd hc.1 (by decide)
  have hl : (Lib.decDigits k).length ≤ 8 := dec_len k 7 (by omega)
  unfold intT
  rw [if_neg (dec_ne k)]
  simp only [hm]
  rw [if_neg, if_neg (by simp), decFrom_dec]
  · simp only [Bool.false_eq_true, if_false]
    rw [if_neg (by omega), if_neg (by omega)]
  · simp only [Bool.false_eq_true, if_false, or_false]
    rintro (h | h | ⟨h1, h2⟩)
    · exact dec_ne k h
    · omega
    · have h0 : k ≠ 0 := by
        rintro rfl
        rw [dec_small (by omega)] at h2
        simp at h2
      rw [e] at h1
      exact dec_head k c l e h0 (by simpa using h1)
/-! Seconds. -/
theorem last_ne : ∀ {l : Tx} (h : l ≠ []), l.getLast? = some (l.getLast h)
  | _ :: _, _ => rfl
theorem unit_dg {c : UInt8} (h : 48 ≤ c ∧ c ≤ 57) : unitT c = 0 := by
  unfold unitT
  rw [if_neg, if_neg, if_neg, if_neg] <;> (rintro rfl; exact absurd h.2 (by decide))
theorem sec_dec (k : Nat) (hk : k ≤ 10000000) : secT (Lib.decDigits k) = ((k : Int), 0) := by
  unfold secT
  rw [if_neg (dec_ne k), last_ne (dec_ne k)]
  simp only []
  rw [if_pos (unit_dg (dec_all k _ (List.getLast_mem (dec_ne k)))), int_dec k hk]
theorem sec_unit (k : Nat) (c : UInt8) (hk : k ≤ 10000000) (hc : unitT c ≠ 0) : secT (Lib.decDigits k ++ [c]) = ((k : Int) * unitT c, 0) := by
  unfold secT
  rw [if_neg (by simp), List.getLast?_concat, List.dropLast_concat]
  simp only []
  rw [if_neg hc, int_dec k hk]
theorem int_form {s : Tx} {lo hi : Int} (h1 : s ≠ []) (h2 : (s.head? == some 45) = false) (h3 : Lib.decFrom 0 s = none) : intT s lo hi = (0, 3) := by
  unfold intT
  rw [if_neg h1]
  simp only [h2, Bool.false_eq_true, if_false, h3]
  split <;> rfl
theorem dec_head45 (k : Nat) (r : Tx) : ((Lib.decDigits k ++ r).head? == some 45) = false := by
  obtain ⟨c, l, e⟩ := List.exists_cons_of_ne_nil (dec_ne k)
  have hc : 48 ≤ c ∧ c ≤ 57 := dec_all k c (by rw [e]; simp)
  rw [e]
  simp only [List.cons_append, List.head?_cons, beq_eq_false_iff_ne, ne_eq, Option.some.injEq]
  rintro rfl
  exact absurd hc.1 (by decide)
theorem sec_w (k : Nat) : secT (Lib.decDigits k ++ [119]) = (0, 3) := by
  unfold secT
  rw [if_neg (by simp), List.getLast?_concat]
  simp only []
  rw [if_pos (by decide)]
  refine int_form (by simp) (dec_head45 k _) ?_
  rw [decFrom_app, decFrom_dec]
  rfl
theorem sec_nought (k : Nat) : secT (48 :: Lib.decDigits k) = (0, 3) := by
  unfold secT
  have hne : (48 :: Lib.decDigits k) ≠ [] := by simp
  have hall : ∀ c ∈ (48 :: Lib.decDigits k), 48 ≤ c ∧ c ≤ 57 := fun c hc => by
    rcases List.mem_cons.1 hc with rfl | hc
    · exact ⟨by decide, by decide⟩
    · exact dec_all k c hc
  rw [if_neg hne, last_ne hne]
  simp only []
  rw [if_pos (unit_dg (hall _ (List.getLast_mem hne)))]
  unfold intT
  rw [if_neg (by simp)]
  have h45 : ((48 :: Lib.decDigits k).head? == some 45) = false := rfl
  simp only [h45, Bool.false_eq_true, if_false]
  rw [if_pos]
  refine .inr (.inr ⟨rfl, .inl ?_⟩)
  have := List.length_pos_iff.2 (dec_ne k)
  simp only [List.length_cons]
  omega
theorem sec_big : secT [49, 48, 48, 48, 48, 48, 48, 49, 115] = (0, 5) := by decide
end Go.Proofs.YthnogakjaaopkaaGreatDoor
/- Plain numbers of layer 10, second part: which texts are a number's, and how the library reads them; of no program. -/
namespace Go.Proofs.YthnogakjaaopkaaGreatDoor
open Go.RowKit

def dgB (c : UInt8) : Bool := decide (48 ≤ c.toNat) && decide (c.toNat ≤ 57)
def digs (s : Tx) : Tx := if (s.head? == some 45) = true then s.tail else s
def numT (s : Tx) : Bool := s == [48] || (!(digs s).isEmpty && !((digs s).head? == some 48) && (digs s).all dgB)
def noDg (r : Nat) : Bool := decide (r < 48) || decide (57 < r)
theorem noDg_byte (c : UInt8) : noDg c.toNat = !dgB c := by
  unfold noDg dgB
  rw [Bool.eq_iff_iff]
  simp
theorem digit_some {c : UInt8} (h : dgB c = true) : Lib.digitVal c = some (c.toNat - 48) := by
  unfold dgB at h
  simp only [Bool.and_eq_true, decide_eq_true_eq] at h
  unfold Lib.digitVal
  rw [if_pos h]
theorem digit_none {c : UInt8} (h : dgB c = false) : Lib.digitVal c = none := by
  unfold dgB at h
  unfold Lib.digitVal
  rw [if_neg]
  rintro ⟨h1, h2⟩
  simp [h1, h2] at h
theorem dec_some : ∀ (l : Tx) (acc k : Nat), l.all dgB = true → acc < 10 ^ k → ∃ n, Lib.decFrom acc l = some n ∧ n < 10 ^ (l.length + k)
  | [], acc, k, _, h => ⟨acc, rfl, by simpa using h⟩
  | c :: l, acc, k, h, ha => by
    rw [List.all_cons, Bool.and_eq_true] at h
    obtain ⟨n, h1, h2⟩ := dec_some l (acc * 10 + (c.toNat - 48)) (k + 1) h.2 (by
      have h3 := h.1
      unfold dgB at h3
      simp only [Bool.and_eq_true, decide_eq_true_eq] at h3
      rw [Nat.pow_succ]
      omega)
    refine ⟨n, ?_, ?_⟩
    · rw [Lib.decFrom, digit_some h.1]
      exact h1
    · rw [List.length_cons, Nat.add_assoc, Nat.add_comm 1 k]
      exact h2
theorem dec_none : ∀ (l : Tx) (acc : Nat), l.all dgB = false → Lib.decFrom acc l = none
  | c :: l, acc, h => by
    rw [List.all_cons] at h
    cases hc : dgB c
    · rw [Lib.decFrom, digit_none hc]
    · rw [hc, Bool.true_and] at h
      rw [Lib.decFrom, digit_some hc]
      exact dec_none l _ h
theorem parse_some : ∀ (l : Tx) (acc k n : Nat), l.all dgB = true → acc < 10 ^ k → l.length + k ≤ 19 → Lib.decFrom acc l = some n → Lib.parseUint10 acc l = .ok n
  | [], acc, k, n, _, _, _, h => by
    rw [Lib.decFrom] at h
    rw [Lib.parseUint10, Option.some.inj h]
  | c :: l, acc, k, n, h, ha, hk, hd => by
    rw [List.all_cons, Bool.and_eq_true] at h
    have h3 := h.1
    unfold dgB at h3
    simp only [Bool.and_eq_true, decide_eq_true_eq] at h3
    rw [Lib.decFrom, digit_some h.1] at hd
    rw [List.length_cons] at hk
    have hp : 10 ^ k ≤ 10 ^ 18 := Nat.pow_le_pow_right (by decide) (by omega)
    have e18 : (10 : Nat) ^ 18 = 1000000000000000000 := by decide
    rw [Lib.parseUint10, if_pos h3, if_neg (by omega), if_neg (by omega)]
    exact parse_some l _ (k + 1) n h.2 (by rw [Nat.pow_succ]; omega) (by omega) hd
theorem mag_some {l : Tx} {n : Nat} (hne : l ≠ []) (hall : l.all dgB = true) (hk : l.length ≤ 19) (h : Lib.decFrom 0 l = some n) : Lib.parseMag l = .ok n := by
  unfold Lib.parseMag
  rw [if_neg hne]
  exact parse_some l 0 0 n hall (by decide) (by omega) h
/-- A text that is no number's. -/
theorem int_bad {s : Tx} {lo hi : Int} (hs : s ≠ []) (h : 19 < s.length ∨ numT s = false) : intT s lo hi = (0, 3) := by
  unfold intT
  rw [if_neg hs]
  simp only []
  have hd : (if (s.head? == some 45) = true then s.tail else s) = digs s := rfl
  rw [hd]
  by_cases hf : digs s = [] ∨ 19 < s.length ∨ ((digs s).head? = some 48 ∧ (1 < (digs s).length ∨ (s.head? == some 45) = true))
  · rw [if_pos hf]
  · rw [if_neg hf]
    have hn : numT s = false := by
      rcases h with h | h
      · exact absurd (.inr (.inl h)) hf
      · exact h
    unfold numT at hn
    rw [Bool.or_eq_false_iff] at hn
    obtain ⟨h0, hn⟩ := hn
    have h1 : (digs s).isEmpty = false := by
      cases hq : (digs s).isEmpty
      · rfl
      · exact absurd (.inl (List.isEmpty_iff.1 hq)) hf
    have h2 : ((digs s).head? == some 48) = false := by
      cases hq : (digs s).head? == some 48
      · rfl
      · exfalso
        have hq' : (digs s).head? = some 48 := by simpa using hq
        have hh : ¬ (1 < (digs s).length ∨ (s.head? == some 45) = true) := fun h => hf (.inr (.inr ⟨hq', h⟩))
        have hm : (s.head? == some 45) = false := by
          cases hm : (s.head? == some 45)
          · rfl
          · exact absurd (.inr hm) hh
        have hds : digs s = s := by unfold digs; rw [hm, if_neg (by simp)]
        rw [hds] at hq' hh
        rcases s with _ | ⟨c, _ | ⟨d, s⟩⟩
        · exact hs rfl
        · have : c = 48 := by simpa using hq'
          subst this
          simp at h0
        · exact hh (.inl (by simp))
    rw [h1, h2] at hn
    have h3 : (digs s).all dgB = false := by simpa using hn
    rw [dec_none _ 0 h3]
/-- A number's text, as the library reads it. -/
theorem int_num {s : Tx} (lo hi : Int) (hs : s ≠ []) (hl : s.length ≤ 19) (hn : numT s = true) :
    (∃ v, Lib.atoiAll s = .ok v ∧ intT s lo hi = (if v < lo ∨ hi < v then (0, 5) else (v, 0)) ∧ -9223372036854775808 ≤ v ∧ v ≤ 9223372036854775807) ∨ (Lib.atoiAll s = .range ∧ intT s lo hi = (0, 5)) := by
  unfold numT at hn
  rw [Bool.or_eq_true] at hn
  rcases hn with hn | hn
  · have : s = [48] := by simpa using hn
    subst this
    refine .inl ⟨0, by decide, ?_, by decide, by decide⟩
    unfold intT
    rw [if_neg (by simp)]
    have e1 : (([48] : Tx).head? == some 45) = false := by decide
    simp only [e1, Bool.false_eq_true, if_false]
    rw [if_neg (by simp)]
    have e2 : Lib.decFrom 0 [48] = some 0 := by decide
    rw [e2]
    simp only []
    rw [if_neg (by decide)]
    rfl
  · simp only [Bool.and_eq_true, Bool.not_eq_true'] at hn
    obtain ⟨⟨h1, h2⟩, h3⟩ := hn
    have hne : digs s ≠ [] := fun h => by rw [h] at h1; cases h1
    obtain ⟨n, hd, hb⟩ := dec_some (digs s) 0 0 h3 (by decide)
    have hform : ¬ (digs s = [] ∨ 19 < s.length ∨ ((digs s).head? = some 48 ∧ (1 < (digs s).length ∨ (s.head? == some 45) = true))) := by
      rintro (h | h | ⟨h, _⟩)
      · exact hne h
      · omega
      · rw [h] at h2
        simp at h2
    have hint : intT s lo hi = if 9223372036854775807 < n then (0, 5) else if (if (s.head? == some 45) = true then -(n : Int) else (n : Int)) < lo ∨ hi < (if (s.head? == some 45) = true then -(n : Int) else (n : Int)) then (0, 5) else (if (s.head? == some 45) = true then -(n : Int) else (n : Int), 0) := by
      unfold intT
      rw [if_neg hs]
      simp only []
      have hdd : (if (s.head? == some 45) = true then s.tail else s) = digs s := rfl
      rw [hdd, if_neg hform, hd]
    cases hm : (s.head? == some 45)
    · have hds : digs s = s := by unfold digs; rw [hm, if_neg (by simp)]
      rw [hds] at h3 hd hb hne
      rw [hm] at hint
      simp only [Bool.false_eq_true, if_false] at hint
      rcases s with _ | ⟨c, r⟩
      · exact absurd rfl hs
      have hc : dgB c = true := by
        rw [List.all_cons, Bool.and_eq_true] at h3
        exact h3.1
      unfold dgB at hc
      simp only [Bool.and_eq_true, decide_eq_true_eq] at hc
      rw [Lib.atoiAll_plain c r (by omega) (by omega), mag_some hne h3 hl hd]
      by_cases h63 : 9223372036854775808 ≤ n
      · right
        refine ⟨by rw [Lib.signless, if_pos h63], ?_⟩
        rw [hint, if_pos (by omega)]
      · left
        refine ⟨n, by rw [Lib.signless, if_neg h63], ?_, by omega, by omega⟩
        rw [hint, if_neg (by omega)]
    · have hds : digs s = s.tail := by unfold digs; rw [hm, if_pos rfl]
      rw [hds] at h3 hd hb hne
      rw [hm] at hint
      simp only [if_true] at hint
      rcases s with _ | ⟨c, r⟩
      · exact absurd rfl hs
      have hc : c = 45 := by simpa using hm
      subst hc
      rw [List.tail_cons] at h3 hd hb hne
      rw [List.length_cons] at hl
      have hp : 10 ^ (r.length + 0) ≤ 10 ^ 18 := Nat.pow_le_pow_right (by decide) (by omega)
      have e18 : (10 : Nat) ^ 18 = 1000000000000000000 := by decide
      rw [Lib.atoiAll_minus, mag_some hne h3 (by omega) hd]
      left
      refine ⟨-(n : Int), by rw [Lib.signed, if_neg (by omega)], ?_, by omega, by omega⟩
      rw [hint, if_neg (by omega)]
/-- What ContainsFunc finds. -/
theorem idx_from (s : ByteArray) : ∀ (f pos : Nat), s.size ≤ pos + f → decide (0 ≤ Lib.idxFuncFrom noDg true s f pos) = (s.data.toList.drop pos).any (fun c => !dgB c)
  | 0, pos, h => by
    have hd : s.data.toList.drop pos = [] := List.drop_eq_nil_of_le (by rw [← Lib.size_eq]; omega)
    rw [hd]
    rfl
  | f + 1, pos, h => by
    unfold Lib.idxFuncFrom
    by_cases hlt : pos < s.size
    · rw [if_pos hlt]
      have hl : pos < s.data.toList.length := by rw [← Lib.size_eq]; exact hlt
      have g0 : s.get! pos = s.data.toList[pos]'hl := by
        rw [← Lib.getD_get!', List.getD_eq_getElem?_getD, List.getElem?_eq_getElem hl]
        rfl
      have hat := Lib.decode_at s pos
      rw [List.drop_eq_getElem_cons hl, List.any_cons, ← g0]
      by_cases hb : (s.get! pos).toNat < 128
      · rw [Lib.decodeN_ascii _ _ _ _ _ hb] at hat
        rw [hat]
        simp only [noDg_byte]
        cases hq : dgB (s.get! pos)
        · rw [if_pos (by rfl), Bool.not_false, Bool.true_or]
          exact decide_eq_true (by omega)
        · rw [if_neg (by simp), Bool.not_true, Bool.false_or]
          exact idx_from s f (pos + 1) (by omega)
      · obtain ⟨h1, _⟩ := dec_bytes (s.size - pos) (s.get! pos).toNat (s.get! (pos + 1)).toNat (s.get! (pos + 2)).toNat (s.get! (pos + 3)).toNat (by omega)
        rw [← hat] at h1
        have hp : noDg (Utf8.decode s pos).1 = true := by unfold noDg; rw [Bool.or_eq_true]; right; exact decide_eq_true (by omega)
        have hq : dgB (s.get! pos) = false := by
          unfold dgB
          rw [decide_eq_false (show ¬ (s.get! pos).toNat ≤ 57 by omega), Bool.and_false]
        rw [if_pos hp, hq, Bool.not_false, Bool.true_or]
        exact decide_eq_true (by omega)
    · rw [if_neg hlt]
      have hd : s.data.toList.drop pos = [] := List.drop_eq_nil_of_le (by rw [← Lib.size_eq]; omega)
      rw [hd]
      rfl
theorem idx_noDg (l : Tx) : decide (0 ≤ Lib.idxFunc noDg true (str l)) = !(l.all dgB) := by
  unfold Lib.idxFunc
  rw [idx_from (str l) _ 0 (by omega), List.drop_zero]
  show l.any _ = _
  rw [List.any_eq_not_all_not]
  simp
end Go.Proofs.YthnogakjaaopkaaGreatDoor

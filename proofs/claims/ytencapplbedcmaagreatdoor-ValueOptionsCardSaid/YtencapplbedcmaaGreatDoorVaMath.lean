/- Plain lists of layer 10 (chapter 10's words; of no program). -/
import Derived.Test.YtencapplbedcmaaGreatDoorLxMath
namespace Go.Proofs.YtencapplbedcmaaGreatDoor
open Go.RowKit

def bl2 (c : UInt8) : Bool := c == 32 || c == 9
def ldw (l : Tx) : Tx := l.dropWhile bl2
def rdw (l : Tx) : Tx := (l.reverse.dropWhile bl2).reverse
def trw (l : Tx) : Tx := rdw (ldw l)
theorem rdw_nil : rdw [] = [] := rfl
theorem rdw_snoc (l : Tx) (x : UInt8) : rdw (l ++ [x]) = if bl2 x then rdw l else l ++ [x] := by
  unfold rdw
  rw [List.reverse_append, List.reverse_singleton, List.singleton_append, List.dropWhile_cons]
  split <;> simp
theorem rdw_cons (x : UInt8) (l : Tx) : rdw (x :: l) = if rdw l = [] ∧ bl2 x = true then [] else x :: rdw l := by
  unfold rdw
  rw [List.reverse_cons, List.dropWhile_append]
  cases h : (l.reverse.dropWhile bl2).isEmpty
  · have hne : l.reverse.dropWhile bl2 ≠ [] := by simpa using h
    rw [if_neg (by simp), if_neg (by simp [hne])]
    simp
  · have he : l.reverse.dropWhile bl2 = [] := by simpa using h
    rw [if_pos rfl, he, List.dropWhile_cons]
    cases hb : bl2 x <;> simp
theorem ldw_cons (x : UInt8) (l : Tx) : ldw (x :: l) = if bl2 x then ldw l else x :: l := by unfold ldw; rw [List.dropWhile_cons]
theorem trw_comm : ∀ l : Tx, rdw (ldw l) = ldw (rdw l)
  | [] => rfl
  | x :: l => by
    have ih := trw_comm l
    rw [ldw_cons, rdw_cons]
    cases hb : bl2 x
    · simp only [Bool.false_eq_true, if_false, and_false]
      rw [rdw_cons, hb, ldw_cons, hb]
      simp
    · simp only [if_true, and_true]
      by_cases he : rdw l = []
      · rw [if_pos he, ih, he]
      · rw [if_neg he, ldw_cons, hb, if_pos rfl, ih]
theorem ldw_pad : ∀ (b l : Tx), (∀ x ∈ b, bl2 x = true) → ldw (b ++ l) = ldw l
  | [], _, _ => rfl
  | x :: b, l, h => by
    rw [List.cons_append, ldw_cons, h x (by simp), if_pos rfl]
    exact ldw_pad b l fun y hy => h y (by simp [hy])
theorem rdw_pad (b l : Tx) (h : ∀ x ∈ b, bl2 x = true) : rdw (l ++ b) = rdw l := by
  have := ldw_pad b.reverse l.reverse (fun x hx => h x (by simpa using hx))
  unfold ldw at this
  unfold rdw
  rw [List.reverse_append, this]
theorem trw_pad (a l b : Tx) (ha : ∀ x ∈ a, bl2 x = true) (hb : ∀ x ∈ b, bl2 x = true) : trw (a ++ l ++ b) = trw l := by
  unfold trw
  rw [trw_comm, rdw_pad b _ hb, ← trw_comm, ldw_pad a l ha]
theorem ldw_split (l : Tx) : ∃ a, l = a ++ ldw l ∧ ∀ x ∈ a, bl2 x = true := by
  refine ⟨l.takeWhile bl2, (List.takeWhile_append_dropWhile).symm, fun x hx => ?_⟩
  exact mem_tw hx
theorem rdw_split (l : Tx) : ∃ b, l = rdw l ++ b ∧ ∀ x ∈ b, bl2 x = true := by
  obtain ⟨a, h1, h2⟩ := ldw_split l.reverse
  refine ⟨a.reverse, ?_, fun x hx => h2 x (by simpa using hx)⟩
  have := congrArg List.reverse h1
  rw [List.reverse_reverse, List.reverse_append] at this
  exact this
theorem trw_split (l : Tx) : ∃ a b, l = a ++ trw l ++ b ∧ (∀ x ∈ a, bl2 x = true) ∧ ∀ x ∈ b, bl2 x = true := by
  obtain ⟨a, h1, h2⟩ := ldw_split l
  obtain ⟨b, h3, h4⟩ := rdw_split (ldw l)
  refine ⟨a, b, ?_, h2, h4⟩
  unfold trw
  rw [List.append_assoc, ← h3]
  exact h1
theorem trw_trim (l : Tx) : trw (trw l) = trw l := by
  obtain ⟨a, b, h, ha, hb⟩ := trw_split l
  have := trw_pad a (trw l) b ha hb
  rw [← h] at this
  exact this.symm
theorem trw_len (l : Tx) : (trw l).length ≤ l.length := by
  obtain ⟨a, b, h, _⟩ := trw_split l
  have := congrArg List.length h
  simp only [List.length_append] at this
  omega
theorem trw_mem {l : Tx} {x : UInt8} (h : x ∈ trw l) : x ∈ l := by
  obtain ⟨a, b, e, _⟩ := trw_split l
  rw [e]
  simp [h]


/-! Parts. -/
def partsT (s : Tx) : List Tx := (cutAt 44 s).map trw
def badPart (p : Tx) : Bool := p.isEmpty || p.contains 44 || decide (trw p ≠ p)
def dupT : List Tx → Bool
  | [] => false
  | p :: l => l.contains p || dupT l
def chkT (l : List Tx) : Nat := if l.any List.isEmpty = true then 3 else if dupT l = true then 7 else if 4096 < l.length then 2 else 0
def listT (s : Tx) : List Tx × Nat := if trw s = [] then ([], 13) else if chkT (partsT s) ≠ 0 then ([], chkT (partsT s)) else (partsT s, 0)
def joinC : List Tx → Tx
  | [] => []
  | [p] => p
  | p :: q :: r => p ++ 44 :: joinC (q :: r)
def joinedT (l : List Tx) : Tx × Nat := if l = [] then ([], 13) else if l.any badPart = true then ([], 3) else if chkT l ≠ 0 then ([], chkT l) else (joinC l, 0)
theorem cut_join : ∀ l : List Tx, l ≠ [] → (∀ p ∈ l, 44 ∉ p) → cutAt 44 (joinC l) = l
  | [], h, _ => absurd rfl h
  | [p], _, h => cut_no 44 p (h p (by simp))
  | p :: q :: r, _, h => by
    rw [joinC, cut_of_no 44 p _ (h p (by simp)), cut_join (q :: r) (by simp) fun x hx => h x (by simp [hx])]
theorem badPart_no {p : Tx} (h : badPart p = false) : p ≠ [] ∧ 44 ∉ p ∧ trw p = p := by
  unfold badPart at h
  simp only [Bool.or_eq_false_iff, decide_eq_false_iff_not, Decidable.not_not] at h
  obtain ⟨⟨h1, h2⟩, h3⟩ := h
  refine ⟨fun e => ?_, fun e => ?_, h3⟩
  · rw [e] at h1
    cases h1
  · rw [List.contains_iff_mem.2 e] at h2
    cases h2
theorem trw_nil {s : Tx} (h : trw s = []) : ∀ x ∈ s, bl2 x = true := by
  obtain ⟨a, b, e, ha, hb⟩ := trw_split s
  rw [h, List.append_nil] at e
  intro x hx
  rw [e] at hx
  rcases List.mem_append.1 hx with hx | hx
  · exact ha x hx
  · exact hb x hx
theorem trw_blank {s : Tx} (h : ∀ x ∈ s, bl2 x = true) : trw s = [] := by
  have := trw_pad s [] [] h (fun x hx => by cases hx)
  rw [List.append_nil, List.append_nil] at this
  exact this
theorem join_mem : ∀ (l : List Tx) (p : Tx), p ∈ l → ∀ x ∈ p, x ∈ joinC l
  | [q], p, hp, x, hx => by
    rw [List.mem_singleton.1 hp] at hx
    exact hx
  | q :: q' :: r, p, hp, x, hx => by
    rw [joinC]
    rcases List.mem_cons.1 hp with rfl | hp
    · exact List.mem_append.2 (.inl hx)
    · exact List.mem_append.2 (.inr (List.mem_cons_of_mem _ (join_mem (q' :: r) p hp x hx)))
/-- What a text reads as, whose parts are these, with blanks about them. -/
theorem list_of (l L : List Tx) (hne : l ≠ []) (hb : ∀ p ∈ l, badPart p = false) (hc : chkT l = 0) (hL : ∀ p ∈ L, 44 ∉ p) (hm : L.map trw = l) : listT (joinC L) = (l, 0) := by
  have hLne : L ≠ [] := fun e => hne (by rw [← hm, e]; rfl)
  have hp : partsT (joinC L) = l := by rw [partsT, cut_join L hLne hL, hm]
  unfold listT
  rw [hp, if_neg, if_neg (by rw [hc]; simp)]
  intro h
  have hall := trw_nil h
  obtain ⟨p, r, rfl⟩ := List.exists_cons_of_ne_nil hLne
  have h1 : trw p = [] := trw_blank fun x hx => hall x (join_mem (p :: r) p (by simp) x hx)
  have h2 := (badPart_no (hb (trw p) (by rw [← hm]; simp))).1
  exact h2 h1
theorem joined_facts {l : List Tx} {t : Tx} (h : joinedT l = (t, 0)) : l ≠ [] ∧ (∀ p ∈ l, badPart p = false) ∧ chkT l = 0 ∧ t = joinC l := by
  unfold joinedT at h
  split at h
  · cases h
  · rename_i h1
    split at h
    · cases h
    · rename_i h2
      split at h
      · rename_i h3
        exact absurd (Prod.mk.inj h).2 h3
      · rename_i h3
        refine ⟨h1, fun p hp => ?_, Decidable.not_not.1 h3, (Prod.mk.inj h).1.symm⟩
        cases hb : badPart p
        · rfl
        · exact absurd (List.any_eq_true.2 ⟨p, hp, hb⟩) h2
/-- VA4: the parts of parts joined are these. -/
theorem list_joined {l : List Tx} {t : Tx} (h : joinedT l = (t, 0)) : listT t = (l, 0) := by
  obtain ⟨h1, h2, h3, rfl⟩ := joined_facts h
  refine list_of l l h1 h2 h3 (fun p hp => (badPart_no (h2 p hp)).2.1) ?_
  have : l.map trw = l.map id := List.map_congr_left fun p hp => (badPart_no (h2 p hp)).2.2
  rw [this, List.map_id]
/-- The parts with blanks about the commas. -/
def wideP : Tx → List Tx → List Tx
  | _, [] => []
  | a, [p] => [a ++ p ++ [32]]
  | a, p :: q :: r => (a ++ p ++ [32]) :: wideP [9] (q :: r)
def wideT : List Tx → Tx
  | [] => []
  | [p] => p
  | p :: q :: r => p ++ [32, 44, 9] ++ wideT (q :: r)
theorem wide_join : ∀ (l : List Tx) (a : Tx), l ≠ [] → joinC (wideP a l) = a ++ wideT l ++ [32]
  | [], _, h => absurd rfl h
  | [p], a, _ => by simp [wideP, joinC, wideT]
  | p :: q :: r, a, _ => by
    have ih := wide_join (q :: r) [9] (by simp)
    obtain ⟨x, y, hxy⟩ : ∃ x y, wideP [9] (q :: r) = x :: y := by
      cases r with
      | nil => exact ⟨_, _, rfl⟩
      | cons b c => exact ⟨_, _, rfl⟩
    rw [wideP, hxy, joinC, ← hxy, ih, wideT]
    simp
theorem wide_map : ∀ (l : List Tx) (a : Tx), (∀ x ∈ a, bl2 x = true) → (wideP a l).map trw = l.map trw
  | [], _, _ => rfl
  | [p], a, h => by
    simp only [wideP, List.map_cons, List.map_nil]
    rw [trw_pad a p [32] h (by simp [bl2])]
  | p :: q :: r, a, h => by
    rw [wideP, List.map_cons, List.map_cons, trw_pad a p [32] h (by simp [bl2]), wide_map (q :: r) [9] (by simp [bl2])]
theorem wide_no : ∀ (l : List Tx) (a : Tx), 44 ∉ a → (∀ p ∈ l, 44 ∉ p) → ∀ p ∈ wideP a l, 44 ∉ p
  | [], _, _, _, p, hp => by cases hp
  | [q], a, ha, h, p, hp => by
    rw [List.mem_singleton.1 hp]
    have := h q (by simp)
    simp [ha, this]
  | q :: q' :: r, a, ha, h, p, hp => by
    rcases List.mem_cons.1 hp with rfl | hp
    · have := h q (by simp)
      simp [ha, this]
    · exact wide_no (q' :: r) [9] (by simp) (fun x hx => h x (by simp [hx])) p hp
/-- VA4: blanks about the commas change nothing. -/
theorem list_wide {l : List Tx} {t : Tx} (h : joinedT l = (t, 0)) : listT ([32] ++ wideT l ++ [32]) = (l, 0) := by
  obtain ⟨h1, h2, h3, rfl⟩ := joined_facts h
  rw [← wide_join l [32] h1]
  refine list_of l _ h1 h2 h3 (wide_no l [32] (by simp) fun p hp => (badPart_no (h2 p hp)).2.1) ?_
  rw [wide_map l [32] (by simp [bl2])]
  have : l.map trw = l.map id := List.map_congr_left fun p hp => (badPart_no (h2 p hp)).2.2
  rw [this, List.map_id]
/-! Letters. -/
def mayT (L : Tx) : Bool := L.all (fun c => decide (97 ≤ c) && decide (c ≤ 122)) && !dupT (L.map fun c => [c]) && decide (L.length ≤ 16)
/-- The place of a letter; L.length: none. -/
def idxT : Tx → UInt8 → Nat
  | [], _ => 0
  | d :: L, c => if d = c then 0 else idxT L c + 1
def oddP (L : Tx) (p : Tx) : Bool := match p with
  | [c] => !L.contains c
  | _ => true
def bitT (L : Tx) (p : Tx) : Nat := match p with
  | [c] => 2 ^ idxT L c
  | _ => 0
def optT (s L : Tx) : Nat × Nat :=
  if mayT L = false then (0, 1)
  else if (listT s).2 ≠ 0 then (0, (listT s).2)
  else if (listT s).1 = [[110]] ∧ 110 ∉ L then (0, 0)
  else if (listT s).1.any (oddP L) = true then (0, 3)
  else (((listT s).1.map (bitT L)).sum, 0)
/-- The letters of bits. -/
def chosen : Nat → Tx → List Tx
  | _, [] => []
  | b, c :: L => if b % 2 = 1 then [c] :: chosen (b / 2) L else chosen (b / 2) L
def letT (b : Int) (L : Tx) : Tx × Nat :=
  if mayT L = false ∨ 110 ∈ L ∨ b < 0 then ([], 1)
  else if 2 ^ L.length ≤ b.toNat then ([], 1)
  else if chosen b.toNat L = [] then ([110], 0)
  else (joinC (chosen b.toNat L), 0)
theorem chosen_mem : ∀ (L : Tx) (b : Nat) (p : Tx), p ∈ chosen b L → ∃ c ∈ L, p = [c]
  | c :: L, b, p, h => by
    rw [chosen] at h
    split at h
    · rcases List.mem_cons.1 h with rfl | h
      · exact ⟨c, by simp, rfl⟩
      · obtain ⟨d, hd, e⟩ := chosen_mem L _ p h
        exact ⟨d, by simp [hd], e⟩
    · obtain ⟨d, hd, e⟩ := chosen_mem L _ p h
      exact ⟨d, by simp [hd], e⟩
theorem chosen_len : ∀ (L : Tx) (b : Nat), (chosen b L).length ≤ L.length
  | [], _ => Nat.le_refl _
  | c :: L, b => by
    have := chosen_len L (b / 2)
    rw [chosen]
    split <;> simp <;> omega
theorem chosen_dup : ∀ (L : Tx) (b : Nat), dupT (L.map fun c => [c]) = false → dupT (chosen b L) = false
  | [], _, _ => rfl
  | c :: L, b, h => by
    rw [List.map_cons, dupT, Bool.or_eq_false_iff] at h
    have ih := chosen_dup L (b / 2) h.2
    rw [chosen]
    split
    · rw [dupT, ih, Bool.or_false]
      cases hc : (chosen (b / 2) L).contains [c]
      · rfl
      · obtain ⟨d, hd, e⟩ := chosen_mem L _ _ (List.contains_iff_mem.1 hc)
        have h1 := h.1
        rw [List.contains_iff_mem.2 (List.mem_map.2 ⟨d, hd, e.symm⟩)] at h1
        cases h1
    · exact ih
theorem chosen_sum : ∀ (L : Tx) (b : Nat), dupT (L.map fun c => [c]) = false → b < 2 ^ L.length → ((chosen b L).map (bitT L)).sum = b
  | [], b, _, h => by
    simp at h
    subst h
    rfl
  | c :: L, b, h, hb => by
    rw [List.map_cons, dupT, Bool.or_eq_false_iff] at h
    have hb2 : b / 2 < 2 ^ L.length := by
      rw [List.length_cons, Nat.pow_succ] at hb
      omega
    have ih := chosen_sum L (b / 2) h.2 hb2
    have hstep : (chosen (b / 2) L).map (bitT (c :: L)) = ((chosen (b / 2) L).map (bitT L)).map (2 * ·) := by
      rw [List.map_map]
      refine List.map_congr_left fun p hp => ?_
      obtain ⟨d, hd, rfl⟩ := chosen_mem L _ p hp
      have hcd : ¬ c = d := by
        rintro rfl
        have h1 := h.1
        rw [List.contains_iff_mem.2 (List.mem_map.2 ⟨c, hd, rfl⟩)] at h1
        cases h1
      show 2 ^ idxT (c :: L) d = 2 * 2 ^ idxT L d
      rw [idxT, if_neg hcd, Nat.pow_succ, Nat.mul_comm]
    have hsum : ∀ l : List Nat, (l.map (2 * ·)).sum = 2 * l.sum := fun l => by
      induction l with
      | nil => rfl
      | cons x l ih => rw [List.map_cons, List.sum_cons, ih, List.sum_cons]; omega
    rw [chosen]
    split
    · rename_i ho
      rw [List.map_cons, List.sum_cons, hstep, hsum, ih]
      show 2 ^ idxT (c :: L) c + _ = b
      rw [idxT, if_pos rfl]
      omega
    · rename_i ho
      rw [hstep, hsum, ih]
      omega
theorem may_facts {L : Tx} (h : mayT L = true) : (∀ c ∈ L, 97 ≤ c ∧ c ≤ 122) ∧ dupT (L.map fun c => [c]) = false ∧ L.length ≤ 16 := by
  unfold mayT at h
  simp only [Bool.and_eq_true, List.all_eq_true, decide_eq_true_eq, Bool.not_eq_true'] at h
  exact ⟨h.1.1, h.1.2, h.2⟩
theorem small_part {c : UInt8} (h : 97 ≤ c ∧ c ≤ 122) : badPart [c] = false := by
  have h1 : c ≠ 44 := by rintro rfl; exact absurd h.1 (by decide)
  have h2 : bl2 c = false := by
    unfold bl2
    simp only [Bool.or_eq_false_iff, beq_eq_false_iff_ne]
    exact ⟨by rintro rfl; exact absurd h.1 (by decide), by rintro rfl; exact absurd h.1 (by decide)⟩
  have h3 : trw [c] = [c] := by
    unfold trw ldw rdw
    simp [h2]
  unfold badPart
  rw [h3]
  simp [Ne.symm h1]
/-- VA4: the bits of bits' letters are these. -/
theorem opt_let {b : Int} {L t : Tx} (h : letT b L = (t, 0)) : optT t L = (b.toNat, 0) ∧ 0 ≤ b := by
  unfold letT at h
  split at h
  · cases h
  · rename_i h1
    split at h
    · cases h
    · rename_i h2
      have hm : mayT L = true := by
        cases hm : mayT L
        · exact absurd (.inl hm) h1
        · rfl
      have hn : 110 ∉ L := fun e => h1 (.inr (.inl e))
      have hb0 : 0 ≤ b := by
        have : ¬ b < 0 := fun e => h1 (.inr (.inr e))
        omega
      refine ⟨?_, hb0⟩
      obtain ⟨f1, f2, f3⟩ := may_facts hm
      have hsum := chosen_sum L b.toNat f2 (by omega)
      unfold optT
      rw [hm, if_neg (by simp)]
      split at h
      · rename_i h3
        obtain rfl : [110] = t := (Prod.mk.inj h).1
        have e : listT [110] = ([[110]], 0) := by rfl
        rw [e, if_neg (by simp), if_pos ⟨rfl, hn⟩]
        rw [h3] at hsum
        rw [← hsum]
        rfl
      · rename_i h3
        obtain rfl : joinC (chosen b.toNat L) = t := (Prod.mk.inj h).1
        have hpart : ∀ p ∈ chosen b.toNat L, badPart p = false := fun p hp => by
          obtain ⟨c, hc, rfl⟩ := chosen_mem L _ p hp
          exact small_part (f1 c hc)
        have hchk : chkT (chosen b.toNat L) = 0 := by
          unfold chkT
          rw [if_neg, if_neg, if_neg]
          · have := chosen_len L b.toNat
            omega
          · rw [chosen_dup L _ f2]
            simp
          · intro h
            obtain ⟨p, hp, h⟩ := List.any_eq_true.1 h
            obtain ⟨c, _, rfl⟩ := chosen_mem L _ p hp
            cases h
        have hj : joinedT (chosen b.toNat L) = (joinC (chosen b.toNat L), 0) := by
          unfold joinedT
          rw [if_neg h3, if_neg, if_neg (by rw [hchk]; simp)]
          intro h
          obtain ⟨p, hp, h⟩ := List.any_eq_true.1 h
          rw [hpart p hp] at h
          cases h
        rw [list_joined hj, if_neg (by simp), if_neg, if_neg, hsum]
        · intro h
          obtain ⟨p, hp, h⟩ := List.any_eq_true.1 h
          obtain ⟨c, hc, rfl⟩ := chosen_mem L _ p hp
          have h' : (!L.contains c) = true := h
          rw [List.contains_iff_mem.2 hc] at h'
          cases h'
        · rintro ⟨h, _⟩
          have : ([110] : Tx) ∈ chosen b.toNat L := by
            have h' : chosen b.toNat L = [[110]] := h
            rw [h']
            simp
          obtain ⟨c, hc, e⟩ := chosen_mem L _ _ this
          have : c = 110 := (List.cons.inj e).1.symm
          exact hn (this ▸ hc)
end Go.Proofs.YtencapplbedcmaaGreatDoor

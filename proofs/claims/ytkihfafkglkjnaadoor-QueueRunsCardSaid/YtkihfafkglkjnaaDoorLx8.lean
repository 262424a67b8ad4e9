/- LxMath, LxMem, LxR, LxRW, in one text. -/
import Derived.Test.YtkihfafkglkjnaaDoorBase
import Derived.Lib.SplitLaws
import Derived.Lib.IndexMore
import Derived.Lib.SlTrimSet
import Derived.Lib.FieldsP
import Derived.Laws.RangeAny
import Derived.Lib.SlicesS
/- Layer 8, plain: blanks, trimming, what is left of a line, lines that go on, words: of no program. -/
namespace Go.Proofs.YtkihfafkglkjnaaDoor

abbrev Tx := List UInt8
def cutAt (c : UInt8) : Tx → List Tx
  | [] => [[]]
  | b :: l => if b = c then [] :: cutAt c l else match cutAt c l with
    | [] => [[b]]
    | p :: ps => (b :: p) :: ps
theorem cutAt_ne (c : UInt8) (l : Tx) : cutAt c l ≠ [] := by
  cases l with
  | nil => simp [cutAt]
  | cons b l =>
    unfold cutAt
    split
    · simp
    · split <;> simp
theorem cutAt_cons (c b : UInt8) (l : Tx) (h : b ≠ c) : ∃ p ps, cutAt c l = p :: ps ∧ cutAt c (b :: l) = (b :: p) :: ps := by
  rcases hc : cutAt c l with _ | ⟨p, ps⟩
  · exact absurd hc (cutAt_ne c l)
  · refine ⟨p, ps, rfl, ?_⟩
    rw [cutAt, if_neg h, hc]
theorem cutAt_self (c : UInt8) (l : Tx) : cutAt c (c :: l) = [] :: cutAt c l := by rw [cutAt, if_pos rfl]
theorem index_self1 (c : UInt8) (l : Tx) : Lib.index (c :: l) [c] = 0 := by
  unfold Lib.index
  rw [if_pos (by simp [List.isPrefixOf])]
theorem index_skip1 (c b : UInt8) (l : Tx) (h : b ≠ c) : Lib.index (b :: l) [c] = if Lib.index l [c] == -1 then -1 else Lib.index l [c] + 1 := by
  conv => lhs; unfold Lib.index
  rw [if_neg (by simp [List.isPrefixOf]; exact fun e => h e.symm)]
theorem index_count (c : UInt8) : ∀ l : Tx, (Lib.index l [c] = -1 ∧ l.count c = 0) ∨ (∃ i : Nat, Lib.index l [c] = i ∧ 1 ≤ l.count c)
  | [] => .inl ⟨rfl, rfl⟩
  | b :: l => by
    by_cases h : b = c
    · subst h
      exact .inr ⟨0, index_self1 b l, by rw [List.count_cons_self]; omega⟩
    · rw [List.count_cons_of_ne h, index_skip1 c b l h]
      rcases index_count c l with ⟨h1, h2⟩ | ⟨i, h1, h2⟩
      · exact .inl ⟨by rw [h1]; rfl, h2⟩
      · refine .inr ⟨i + 1, ?_, h2⟩
        rw [h1, if_neg (show ¬ ((i : Int) == -1) = true by simp)]
        omega
theorem splitK_cut (c : UInt8) : ∀ l : Tx, Lib.splitK [c] 0 (l.count c) l = cutAt c l
  | [] => rfl
  | b :: l => by
    by_cases h : b = c
    · subst h
      rw [List.count_cons_self, cutAt_self, Lib.splitK, index_self1, if_neg (by decide)]
      simp
      exact splitK_cut b l
    · have ih := splitK_cut c l
      obtain ⟨p, ps, h1, h2⟩ := cutAt_cons c b l h
      rw [h1] at ih
      rw [List.count_cons_of_ne h, h2]
      rcases index_count c l with ⟨e1, e2⟩ | ⟨i, e1, e2⟩
      · rw [e2] at ih ⊢
        unfold Lib.splitK at ih ⊢
        simp only [List.cons.injEq] at ih
        obtain ⟨rfl, rfl⟩ := ih
        rfl
      · obtain ⟨k, hk⟩ : ∃ k, l.count c = k + 1 := ⟨l.count c - 1, by omega⟩
        rw [hk] at ih ⊢
        unfold Lib.splitK at ih ⊢
        rw [index_skip1 c b l h]
        rw [e1] at ih ⊢
        rw [if_neg (show ¬ ((i : Int) == -1) = true by simp)] at ih
        rw [if_neg (show ¬ ((i : Int) == -1) = true by simp)]
        rw [if_neg (show ¬ ((i : Int) + 1 == -1) = true by simp; omega)]
        rw [show ((i : Int) + 1).toNat = i + 1 by omega]
        rw [show ((i : Int)).toNat = i by omega] at ih
        simp only [List.cons.injEq, Nat.add_zero, List.take_succ_cons, true_and, List.length_cons, List.length_nil] at ih ⊢
        obtain ⟨rfl, rfl⟩ := ih
        refine ⟨rfl, ?_⟩
        rw [show i + 1 + (0 + 1) = (i + 1) + 1 by omega, List.drop_succ_cons]
theorem split_cut (c : UInt8) (l : Tx) : Lib.split l [c] = cutAt c l := by
  unfold Lib.split
  rw [Lib.count_one]
  exact splitK_cut c l
theorem cutAt_length (c : UInt8) : ∀ l : Tx, (cutAt c l).length = l.count c + 1
  | [] => rfl
  | b :: l => by
    by_cases h : b = c
    · subst h
      rw [cutAt_self, List.count_cons_self, List.length_cons, cutAt_length b l]
    · obtain ⟨p, ps, h1, h2⟩ := cutAt_cons c b l h
      have := cutAt_length c l
      rw [h1] at this
      rw [h2, List.count_cons_of_ne h]
      exact this

/-- cut with a first piece begun. -/
def pcs (c : UInt8) : Tx → Tx → List Tx
  | C, [] => [C]
  | C, x :: l => if x = c then C :: pcs c [] l else pcs c (C ++ [x]) l
theorem pcs_cut (c : UInt8) : ∀ (l C : Tx), ∃ p ps, cutAt c l = p :: ps ∧ pcs c C l = (C ++ p) :: ps
  | [], C => ⟨[], [], rfl, by simp [pcs]⟩
  | x :: l, C => by
    by_cases h : x = c
    · subst h
      obtain ⟨p, ps, h1, h2⟩ := pcs_cut x l []
      refine ⟨[], cutAt x l, cutAt_self x l, ?_⟩
      rw [pcs, if_pos rfl, h2, h1]
      simp
    · obtain ⟨p, ps, h1, h2⟩ := pcs_cut c l (C ++ [x])
      obtain ⟨q, qs, g1, g2⟩ := cutAt_cons c x l h
      rw [h1] at g1
      injection g1 with e1 e2
      subst e1 e2
      refine ⟨_, _, g2, ?_⟩
      rw [pcs, if_neg h, h2]
      simp
theorem cut_pcs (c : UInt8) (l : Tx) : cutAt c l = pcs c [] l := by
  obtain ⟨p, ps, h1, h2⟩ := pcs_cut c l []
  rw [h1, h2]
  rfl
theorem pcs_of_no (c : UInt8) : ∀ (l C r : Tx), c ∉ l → pcs c C (l ++ c :: r) = (C ++ l) :: pcs c [] r
  | [], C, r, _ => by simp [pcs]
  | x :: l, C, r, h => by
    have hx : ¬ x = c := fun e => h (by simp [e])
    have ht : c ∉ l := fun e => h (by simp [e])
    rw [List.cons_append, pcs, if_neg hx, pcs_of_no c l (C ++ [x]) r ht]
    simp
theorem cut_of_no (c : UInt8) (l r : Tx) (h : c ∉ l) : cutAt c (l ++ c :: r) = l :: cutAt c r := by
  rw [cut_pcs, cut_pcs, pcs_of_no c l [] r h]
  rfl
theorem cut_no (c : UInt8) : ∀ l : Tx, c ∉ l → cutAt c l = [l]
  | [], _ => rfl
  | x :: l, h => by
    have hx : x ≠ c := fun e => h (by simp [e])
    have ih := cut_no c l (fun e => h (by simp [e]))
    rw [cutAt, if_neg hx, ih]

/-! Blanks, and trimming. -/
def blk (c : UInt8) : Bool := c == 32 || c == 9 || c == 13
def ldr (l : Tx) : Tx := l.dropWhile blk
def rdr (l : Tx) : Tx := (l.reverse.dropWhile blk).reverse
def trim (l : Tx) : Tx := rdr (ldr l)
theorem rdr_nil : rdr [] = [] := rfl
theorem rdr_snoc (l : Tx) (x : UInt8) : rdr (l ++ [x]) = if blk x then rdr l else l ++ [x] := by
  unfold rdr
  rw [List.reverse_append, List.reverse_singleton, List.singleton_append, List.dropWhile_cons]
  split <;> simp
theorem rdr_cons (x : UInt8) (l : Tx) : rdr (x :: l) = if rdr l = [] ∧ blk x = true then [] else x :: rdr l := by
  unfold rdr
  rw [List.reverse_cons, List.dropWhile_append]
  cases h : (l.reverse.dropWhile blk).isEmpty
  · have hne : l.reverse.dropWhile blk ≠ [] := by simpa using h
    rw [if_neg (by simp), if_neg (by simp [hne])]
    simp
  · have he : l.reverse.dropWhile blk = [] := by simpa using h
    rw [if_pos rfl, he, List.dropWhile_cons]
    cases hb : blk x <;> simp
theorem ldr_cons (x : UInt8) (l : Tx) : ldr (x :: l) = if blk x then ldr l else x :: l := by unfold ldr; rw [List.dropWhile_cons]
theorem trim_comm : ∀ l : Tx, rdr (ldr l) = ldr (rdr l)
  | [] => rfl
  | x :: l => by
    have ih := trim_comm l
    rw [ldr_cons, rdr_cons]
    cases hb : blk x
    · simp only [Bool.false_eq_true, if_false, and_false]
      rw [rdr_cons, hb, ldr_cons, hb]
      simp
    · simp only [if_true, and_true]
      by_cases he : rdr l = []
      · rw [if_pos he, ih, he]
      · rw [if_neg he, ldr_cons, hb, if_pos rfl, ih]
theorem blk_contains (b : UInt8) : ([32, 9, 13] : Tx).contains b = blk b := by
  simp only [List.contains, List.elem, blk]
  cases (b == 32) <;> cases (b == 9) <;> cases (b == 13) <;> rfl
theorem trimS_trim (l : Tx) : Lib.trimS l [32, 9, 13] = trim l := by
  have hf : (fun b => ([32, 9, 13] : Tx).contains b) = blk := funext blk_contains
  unfold Lib.trimS Lib.trimLeftS Lib.trimRightS trim
  rw [trim_comm, hf]
  rfl
theorem ldr_pad : ∀ (b l : Tx), (∀ x ∈ b, blk x = true) → ldr (b ++ l) = ldr l
  | [], _, _ => rfl
  | x :: b, l, h => by
    rw [List.cons_append, ldr_cons, h x (by simp), if_pos rfl]
    exact ldr_pad b l fun y hy => h y (by simp [hy])
theorem rdr_pad (b l : Tx) (h : ∀ x ∈ b, blk x = true) : rdr (l ++ b) = rdr l := by
  have := ldr_pad b.reverse l.reverse (fun x hx => h x (by simpa using hx))
  unfold ldr at this
  unfold rdr
  rw [List.reverse_append, this]
theorem trim_pad (a l b : Tx) (ha : ∀ x ∈ a, blk x = true) (hb : ∀ x ∈ b, blk x = true) : trim (a ++ l ++ b) = trim l := by
  unfold trim
  rw [trim_comm, rdr_pad b _ hb, ← trim_comm, ldr_pad a l ha]
theorem mem_tw {p : UInt8 → Bool} : ∀ {l : Tx} {x : UInt8}, x ∈ l.takeWhile p → p x = true
  | y :: l, x, h => by
    rw [List.takeWhile_cons] at h
    split at h
    · rename_i hy
      rcases List.mem_cons.1 h with rfl | h
      · exact hy
      · exact mem_tw h
    · cases h
theorem ldr_split (l : Tx) : ∃ a, l = a ++ ldr l ∧ ∀ x ∈ a, blk x = true := by
  refine ⟨l.takeWhile blk, (List.takeWhile_append_dropWhile).symm, fun x hx => ?_⟩
  exact mem_tw hx
theorem rdr_split (l : Tx) : ∃ b, l = rdr l ++ b ∧ ∀ x ∈ b, blk x = true := by
  obtain ⟨a, h1, h2⟩ := ldr_split l.reverse
  refine ⟨a.reverse, ?_, fun x hx => h2 x (by simpa using hx)⟩
  have := congrArg List.reverse h1
  rw [List.reverse_reverse, List.reverse_append] at this
  exact this
theorem trim_split (l : Tx) : ∃ a b, l = a ++ trim l ++ b ∧ (∀ x ∈ a, blk x = true) ∧ ∀ x ∈ b, blk x = true := by
  obtain ⟨a, h1, h2⟩ := ldr_split l
  obtain ⟨b, h3, h4⟩ := rdr_split (ldr l)
  refine ⟨a, b, ?_, h2, h4⟩
  unfold trim
  rw [List.append_assoc, ← h3]
  exact h1
theorem trim_trim (l : Tx) : trim (trim l) = trim l := by
  obtain ⟨a, b, h, ha, hb⟩ := trim_split l
  have := trim_pad a (trim l) b ha hb
  rw [← h] at this
  exact this.symm
theorem trim_len (l : Tx) : (trim l).length ≤ l.length := by
  obtain ⟨a, b, h, _⟩ := trim_split l
  have := congrArg List.length h
  simp only [List.length_append] at this
  omega
theorem trim_mem {l : Tx} {x : UInt8} (h : x ∈ trim l) : x ∈ l := by
  obtain ⟨a, b, e, _⟩ := trim_split l
  rw [e]
  simp [h]

/-! What is left of a line. -/
def ahead (l : Tx) : Tx := l.takeWhile (· != 59)
def said (l : Tx) : Tx := if (trim (ahead l)).head? = some 35 then [] else trim (ahead l)
theorem ahead_no : ∀ l : Tx, 59 ∉ ahead l
  | [] => by simp [ahead]
  | x :: l => by
    unfold ahead
    rw [List.takeWhile_cons]
    split
    · rename_i h
      have := ahead_no l
      unfold ahead at this
      simp only [List.mem_cons, not_or]
      exact ⟨fun e => by subst e; simp at h, this⟩
    · simp
theorem ahead_of_no : ∀ (l : Tx), 59 ∉ l → ahead l = l
  | [], _ => rfl
  | x :: l, h => by
    have hx : x ≠ 59 := fun e => h (by simp [e])
    have ih := ahead_of_no l (fun e => h (by simp [e]))
    unfold ahead at ih ⊢
    rw [List.takeWhile_cons, if_pos (by simpa using hx), ih]
theorem ahead_at : ∀ (l r : Tx), 59 ∉ l → ahead (l ++ 59 :: r) = l
  | [], r, _ => by simp [ahead]
  | x :: l, r, h => by
    have hx : x ≠ 59 := fun e => h (by simp [e])
    have ih := ahead_at l r (fun e => h (by simp [e]))
    unfold ahead at ih ⊢
    rw [List.cons_append, List.takeWhile_cons, if_pos (by simpa using hx), ih]
theorem ahead_pre : ∀ (l r : Tx), 59 ∉ l → ahead (l ++ r) = l ++ ahead r
  | [], r, _ => rfl
  | x :: l, r, h => by
    have hx : x ≠ 59 := fun e => h (by simp [e])
    have ih := ahead_pre l r (fun e => h (by simp [e]))
    unfold ahead at ih ⊢
    rw [List.cons_append, List.takeWhile_cons, if_pos (by simpa using hx), ih]
    rfl
theorem mem_first {c : UInt8} : ∀ {l : Tx}, c ∈ l → ∃ a r, l = a ++ c :: r ∧ c ∉ a
  | x :: l, h => by
    by_cases hx : x = c
    · subst hx
      exact ⟨[], l, rfl, by simp⟩
    · have hl : c ∈ l := by
        rcases List.mem_cons.1 h with h | h
        · exact absurd h.symm hx
        · exact h
      obtain ⟨a, r, e, hn⟩ := mem_first hl
      refine ⟨x :: a, r, by rw [e]; rfl, ?_⟩
      simp only [List.mem_cons, not_or]
      exact ⟨fun e => hx e.symm, hn⟩
theorem ahead_ex (l : Tx) : (59 ∉ l ∧ ahead l = l) ∨ ∃ r, l = ahead l ++ 59 :: r := by
  by_cases h : 59 ∈ l
  · right
    obtain ⟨a, r, e, hn⟩ := mem_first h
    exact ⟨r, by rw [e, ahead_at a r hn]⟩
  · exact .inl ⟨h, ahead_of_no l h⟩
theorem blk_no59 {a : Tx} (h : ∀ x ∈ a, blk x = true) : 59 ∉ a := fun hm => by
  have := h _ hm
  exact absurd this (by decide)
theorem trim_ahead (l : Tx) : trim (ahead (trim l)) = trim (ahead l) := by
  obtain ⟨a, b, h, ha, hb⟩ := trim_split l
  conv => rhs; rw [h]
  rw [List.append_assoc, ahead_pre a _ (blk_no59 ha)]
  rcases ahead_ex (trim l) with ⟨h1, h2⟩ | ⟨r, hr⟩
  · rw [h2, ahead_of_no (trim l ++ b) (by simp only [List.mem_append, not_or]; exact ⟨h1, blk_no59 hb⟩), ← List.append_assoc, trim_pad a (trim l) b ha hb]
  · have e : ahead (trim l ++ b) = ahead (trim l) := by
      conv => lhs; rw [hr, List.append_assoc, List.cons_append]
      exact ahead_at _ _ (ahead_no _)
    rw [e]
    have := trim_pad a (ahead (trim l)) [] ha (by simp)
    rw [List.append_nil] at this
    exact this.symm
theorem said_nil : said [] = [] := rfl
theorem said_len (l : Tx) : (said l).length ≤ l.length := by
  unfold said
  split
  · simp
  · exact Nat.le_trans (trim_len _) (List.takeWhile_prefix _).length_le

/-! Lines that go on. -/
def goes (p : Tx) : Bool := p.getLast? == some 92
theorem goes_nil : goes [] = false := rfl
theorem goes_snoc (l : Tx) (x : UInt8) : goes (l ++ [x]) = (x == 92) := by simp [goes]
def jn : List Tx → Nat → Nat → Tx → List (Nat × Tx)
  | [], _, _, _ => []
  | p :: ps, i, a, t => if goes p then jn ps (i + 1) a (t ++ p.dropLast) else (a, t ++ p) :: jn ps (i + 1) (i + 2) []
def whole (l : Tx) : List (Nat × Tx) := jn (cutAt 10 (l ++ [10])) 0 1 []
/-- The answer: what is left, line by line; the number of a line that is too long; the error's number. -/
def scan : List (Nat × Tx) → List (Nat × Tx) → List (Nat × Tx) × Nat × Nat
  | acc, [] => (acc, 0, 0)
  | acc, p :: r => if 4096 < (said p.2).length then ([], p.1, 2) else if said p.2 = [] then scan acc r else scan (acc ++ [(p.1, said p.2)]) r
def ans (l : Tx) : List (Nat × Tx) × Nat × Nat := if 65536 < l.length then ([], 0, 2) else scan [] (whole l)
theorem scan_same {p : Nat × Tx} {r1 r2 : List (Nat × Tx)} (acc : List (Nat × Tx)) (h : ∀ acc, scan acc r1 = scan acc r2) : scan acc (p :: r1) = scan acc (p :: r2) := by
  simp only [scan, h]
/-- The document's way, byte by byte. -/
def rf : Tx → Tx → Tx → Nat → Nat → List (Nat × Tx)
  | [], _, _, _, _ => []
  | x :: r, T, C, a, nb => if x = 10 then (if goes C then (if r = [] then [(a, T ++ C.dropLast)] else rf r (T ++ C.dropLast) [] a (nb + 1)) else (a, T ++ C) :: rf r [] [] (nb + 1) (nb + 1)) else rf r T (C ++ [x]) a nb
theorem rf_jn : ∀ (l T C : Tx) (a i : Nat) (acc : List (Nat × Tx)), scan acc (rf (l ++ [10]) T C a (i + 1)) = scan acc (jn (pcs 10 C (l ++ [10])) i a T)
  | [], T, C, a, i, acc => by
    have hS : ∀ (acc : List (Nat × Tx)) b, scan acc [(b, [])] = scan acc [] := fun acc b => by simp [scan, said_nil]
    simp only [List.nil_append, rf, if_true, pcs, jn, goes_nil, Bool.false_eq_true, if_false, List.append_nil]
    cases goes C
    · simp only [Bool.false_eq_true, if_false]
      exact scan_same acc fun acc => (hS acc _).symm
    · simp
  | x :: l, T, C, a, i, acc => by
    rw [List.cons_append, rf, pcs]
    by_cases hx : x = 10
    · rw [if_pos hx, if_pos hx, jn]
      cases goes C
      · simp only [Bool.false_eq_true, if_false]
        exact scan_same acc fun acc => rf_jn l [] [] (i + 2) (i + 1) acc
      · simp only [if_true]
        rw [if_neg (by simp)]
        exact rf_jn l _ [] a (i + 1) acc
    · rw [if_neg hx, if_neg hx]
      exact rf_jn l T (C ++ [x]) a i acc
theorem rf_whole (l : Tx) : scan [] (rf (l ++ [10]) [] [] 1 1) = scan [] (whole l) := by
  have := rf_jn l [] [] 1 0 []
  rw [this]
  unfold whole
  rw [cut_pcs]

/-! Words. -/
def wds : Tx → Tx → List Tx
  | [], w => if w = [] then [] else [w]
  | x :: r, w => if blk x then (if w = [] then wds r [] else w :: wds r []) else wds r (w ++ [x])
theorem wds_skip : ∀ (a r w : Tx), (∀ x ∈ a, blk x = false) → wds (a ++ r) w = wds r (w ++ a)
  | [], r, w, _ => by simp
  | x :: a, r, w, h => by
    rw [List.cons_append, wds, h x (by simp), if_neg (by simp), wds_skip a r (w ++ [x]) fun y hy => h y (by simp [hy])]
    simp
/-- A blank's rune. -/
def blkR (r : Nat) : Bool := r == 32 || r == 9 || r == 13
theorem blkR_byte (b : UInt8) : blkR b.toNat = blk b := by
  have h : ∀ k : UInt8, (b.toNat == k.toNat) = (b == k) := fun k => by
    rw [Bool.eq_iff_iff]
    simp only [beq_iff_eq]
    exact ⟨fun e => UInt8.toNat_inj.1 e, fun e => by rw [e]⟩
  have h1 := h 32
  have h2 := h 9
  have h3 := h 13
  unfold blkR blk
  rw [← h1, ← h2, ← h3]
  rfl
theorem blk_high {b : UInt8} (h : 128 ≤ b.toNat) : blk b = false := by
  rw [← blkR_byte]
  unfold blkR
  simp only [Bool.or_eq_false_iff, beq_eq_false_iff_ne]
  omega
theorem dec_bytes (n b0 b1 b2 b3 : Nat) (h0 : 128 ≤ b0) :
    128 ≤ (Lib.decodeN n b0 b1 b2 b3).1 ∧ ∀ j, j < (Lib.decodeN n b0 b1 b2 b3).2 → 128 ≤ (if j = 0 then b0 else if j = 1 then b1 else if j = 2 then b2 else b3) := by
  unfold Lib.decodeN
  rw [if_neg (by omega)]
  repeat' split
  all_goals
    refine ⟨by simp only; omega, fun j hj => ?_⟩
    simp only at hj
    repeat' split
    all_goals omega
theorem dec_at (s : ByteArray) (pos : Nat) (h : pos < s.size) :
    (Utf8.decode s pos).2 = 1 ∧ blkR (Utf8.decode s pos).1 = true ∨ blkR (Utf8.decode s pos).1 = false ∧ ∀ x ∈ (s.data.toList.drop pos).take (Utf8.decode s pos).2, blk x = false := by
  have hl : pos < s.data.toList.length := by rw [← Lib.size_eq]; exact h
  have g : ∀ j, (hj : pos + j < s.data.toList.length) → s.get! (pos + j) = s.data.toList[pos + j] := fun j hj => by
    rw [← Lib.getD_get!', List.getD_eq_getElem?_getD, List.getElem?_eq_getElem hj]
    rfl
  have hat := Lib.decode_at s pos
  by_cases hb : (s.get! pos).toNat < 128
  · rw [Lib.decodeN_ascii _ _ _ _ _ hb] at hat
    rw [hat]
    have g0 : s.get! pos = s.data.toList[pos]'hl := g 0 hl
    have hbk := blkR_byte (s.get! pos)
    cases hk : blk (s.get! pos)
    · right
      refine ⟨by simp only [hbk, hk], fun x hx => ?_⟩
      rw [List.drop_eq_getElem_cons hl, List.take_succ_cons, List.take_zero] at hx
      simp only [List.mem_singleton] at hx
      subst hx
      rw [← g0, hk]
    · exact .inl ⟨rfl, by simp only [hbk, hk]⟩
  · obtain ⟨h1, h2⟩ := dec_bytes (s.size - pos) (s.get! pos).toNat (s.get! (pos + 1)).toNat (s.get! (pos + 2)).toNat (s.get! (pos + 3)).toNat (by omega)
    rw [← hat] at h1 h2
    right
    refine ⟨?_, fun x hx => ?_⟩
    · unfold blkR
      simp only [Bool.or_eq_false_iff, beq_eq_false_iff_ne]
      omega
    · obtain ⟨j, hj, e⟩ := List.getElem_of_mem hx
      rw [List.length_take, List.length_drop] at hj
      rw [List.getElem_take, List.getElem_drop] at e
      have := h2 j (by omega)
      have hj4 : (Utf8.decode s pos).2 ≤ 4 := by
        rw [hat]
        unfold Lib.decodeN
        repeat' split
        all_goals (simp only; omega)
      have gj := g j (by omega)
      rw [e] at gj
      rw [← gj]
      refine blk_high ?_
      rcases j with _ | _ | _ | _ | j
      · simpa using this
      · simpa using this
      · simpa using this
      · simpa using this
      · omega
theorem spans_wds (s : ByteArray) : ∀ (f pos : Nat) (st : Option Nat) (acc : List (Nat × Nat)), s.size ≤ pos + f → pos ≤ s.size → (∀ a, st = some a → a < pos) →
    acc.map (fun p => Lib.pieceU s.data.toList p.1 p.2) ++ wds (s.data.toList.drop pos) (Lib.openPiece s.data.toList st pos) = (Lib.closeSpans s (Lib.spansFromP blkR s f pos st acc)).map (fun p => Lib.pieceU s.data.toList p.1 p.2)
  | 0, pos, st, acc, h, hp, hst => by
    obtain rfl : pos = s.size := by omega
    have hd : s.data.toList.drop s.size = [] := List.drop_eq_nil_of_le (by rw [← Lib.size_eq]; exact Nat.le_refl _)
    rw [hd]
    cases st with
    | none => simp [Lib.spansFromP, Lib.closeSpans, Lib.openPiece, wds]
    | some a =>
      have := Lib.pieceU_ne s.data.toList a s.size (hst a rfl) (by rw [← Lib.size_eq]; exact Nat.le_refl _)
      simp [Lib.spansFromP, Lib.closeSpans, Lib.openPiece, wds, this]
  | f + 1, pos, st, acc, h, hp, hst => by
    by_cases hlt : pos < s.size
    · have hw := Lib.width_pos s pos
      have hwn : pos + (Utf8.decode s pos).2 ≤ s.size := by
        have := Lib.decodeN_le_n' (s.size - pos) (s.get! pos).toNat (s.get! (pos + 1)).toNat (s.get! (pos + 2)).toNat (s.get! (pos + 3)).toNat (by omega)
        rw [← Lib.decode_at] at this
        omega
      have hl : pos < s.data.toList.length := by rw [← Lib.size_eq]; exact hlt
      simp only [Lib.spansFromP, if_pos hlt]
      rcases dec_at s pos hlt with ⟨h1, h2⟩ | ⟨h1, h2⟩
      · have hbk : blk (s.data.toList[pos]) = true := by
          have g0 : s.get! pos = s.data.toList[pos] := by
            rw [← Lib.getD_get!', List.getD_eq_getElem?_getD, List.getElem?_eq_getElem hl]
            rfl
          rw [← g0, ← blkR_byte]
          by_cases hb : (s.get! pos).toNat < 128
          · rw [Lib.decode_at, Lib.decodeN_ascii _ _ _ _ _ hb] at h2
            exact h2
          · have := (dec_bytes (s.size - pos) (s.get! pos).toNat (s.get! (pos + 1)).toNat (s.get! (pos + 2)).toNat (s.get! (pos + 3)).toNat (by omega)).1
            rw [← Lib.decode_at] at this
            unfold blkR at h2
            simp only [Bool.or_eq_true, beq_iff_eq] at h2
            omega
        rw [h2, if_pos rfl, h1, List.drop_eq_getElem_cons hl, wds, hbk, if_pos rfl]
        cases st with
        | none =>
          have ih := spans_wds s f (pos + 1) none acc (by omega) (by omega) (fun a h => by cases h)
          simpa [Lib.openPiece] using ih
        | some a =>
          have hpn := Lib.pieceU_ne s.data.toList a pos (hst a rfl) (by rw [← Lib.size_eq]; omega)
          have ih := spans_wds s f (pos + 1) none (acc ++ [(a, pos)]) (by omega) (by omega) (fun a h => by cases h)
          simpa [Lib.openPiece, hpn] using ih
      · rw [h1, if_neg (by simp)]
        have hsk : ∀ w, wds (s.data.toList.drop pos) w = wds (s.data.toList.drop (pos + (Utf8.decode s pos).2)) (w ++ (s.data.toList.drop pos).take (Utf8.decode s pos).2) := fun w => by
          have := wds_skip _ (s.data.toList.drop (pos + (Utf8.decode s pos).2)) w h2
          rw [← List.drop_drop, List.take_append_drop] at this
          rw [this, List.drop_drop]
        rw [hsk]
        cases st with
        | none =>
          have ih := spans_wds s f (pos + (Utf8.decode s pos).2) (some pos) acc (by omega) hwn (fun a h => by cases h; omega)
          have e : ([] : List UInt8) ++ (s.data.toList.drop pos).take (Utf8.decode s pos).2 = Lib.pieceU s.data.toList pos (pos + (Utf8.decode s pos).2) := by
            unfold Lib.pieceU
            rw [List.nil_append, Nat.add_sub_cancel_left]
          simp only [Lib.openPiece] at ih ⊢
          rw [e]
          exact ih
        | some a =>
          have ih := spans_wds s f (pos + (Utf8.decode s pos).2) (some a) acc (by omega) hwn (fun b h => by cases h; have := hst a rfl; omega)
          simp only [Lib.openPiece] at ih ⊢
          rw [Lib.pieceU_grow _ _ _ _ (Nat.le_of_lt (hst a rfl))]
          exact ih
    · obtain rfl : pos = s.size := by omega
      have hd : s.data.toList.drop s.size = [] := List.drop_eq_nil_of_le (by rw [← Lib.size_eq]; exact Nat.le_refl _)
      rw [hd, Lib.spansFromP_end _ s _ _ _ _ hlt]
      cases st with
      | none => simp [Lib.closeSpans, Lib.openPiece, wds]
      | some a =>
        have := Lib.pieceU_ne s.data.toList a s.size (hst a rfl) (by rw [← Lib.size_eq]; exact Nat.le_refl _)
        simp [Lib.closeSpans, Lib.openPiece, wds, this]
theorem fields_wds (s : ByteArray) : Lib.goFieldsP blkR s = (wds s.data.toList []).map str := by
  have h := spans_wds s s.size 0 none [] (by omega) (Nat.zero_le _) (fun a h => by cases h)
  simp only [List.map_nil, List.nil_append, Lib.openPiece, List.drop_zero] at h
  unfold Lib.goFieldsP Lib.spansOfP
  rw [h, List.map_map]
  refine List.map_congr_left fun p _ => ?_
  apply ByteArray.ext
  apply Array.ext'
  rw [Lib.extract_data]
  rfl
/-! A line's last stroke. -/
theorem hasSuffix_goes (l : Tx) : Lib.hasSuffix l [92] = goes l := by
  rcases List.eq_nil_or_concat l with rfl | ⟨t, x, rfl⟩
  · rfl
  · unfold Lib.hasSuffix
    rw [List.concat_eq_append, goes_snoc, Bool.eq_iff_iff, List.isSuffixOf_iff_suffix, beq_iff_eq]
    constructor
    · rintro ⟨u, hu⟩
      exact (List.append_inj' hu rfl).2 |> fun h => (List.cons.inj h).1.symm
    · rintro rfl
      exact ⟨t, rfl⟩
theorem trimSuffix_goes (l : Tx) : Lib.trimSuffix l [92] = if goes l then l.dropLast else l := by
  unfold Lib.trimSuffix
  rw [hasSuffix_goes, List.dropLast_eq_take]
  rfl
end Go.Proofs.YtkihfafkglkjnaaDoor
/- Layer 8: rows of lines in memory; strings as lists of bytes; cut and joined. -/
namespace Go.Proofs.YtkihfafkglkjnaaDoor
open Go.RowKit

theorem str_append (a b : Tx) : str a ++ str b = str (a ++ b) := by
  apply ByteArray.ext
  simp [str]
theorem str_cut (l : Tx) (a b : Nat) : (str l).extract a b = str ((l.drop a).take (b - a)) := by
  apply ByteArray.ext
  apply Array.ext'
  rw [Lib.extract_data]
  rfl
theorem str_inj {a b : Tx} : str a = str b ↔ a = b :=
  ⟨fun h => by
    have := congrArg (fun s : ByteArray => s.data.toList) h
    simpa [str] using this, fun h => by rw [h]⟩
theorem str_data (l : Tx) : (str l).data.toList = l := rfl
theorem str_of (s : ByteArray) : str s.data.toList = s := rfl
theorem str_at (l : Tx) (i : Nat) (h : i < l.length) : (str l)[i]'(by rw [str_size]; exact h) = l[i] := rfl
/-! Rows of elements of k cells. -/
theorem flat_len {α : Type} (cells : α → List Value) (k : Nat) (hk : ∀ a, (cells a).length = k) : ∀ l : List α, (l.flatMap cells).length = l.length * k
  | [] => by simp
  | a :: l => by rw [List.flatMap_cons, List.length_append, hk, flat_len cells k hk l, List.length_cons, Nat.add_mul, Nat.one_mul]; omega
theorem flat_get {α : Type} (cells : α → List Value) (k : Nat) (hk : ∀ a, (cells a).length = k) (l : List α) (i : Nat) (hi : i < l.length) (j : Nat) (hj : j < k) : (l.flatMap cells)[i * k + j]? = (cells l[i])[j]? := by
  induction l generalizing i with
  | nil => cases hi
  | cons s T ih =>
    rw [List.flatMap_cons]
    cases i with
    | zero => rw [Nat.zero_mul, Nat.zero_add, List.getElem?_append_left (by rw [hk]; omega)]; rfl
    | succ i =>
      have e1 : (i + 1) * k + j = k + (i * k + j) := by rw [Nat.add_mul, Nat.one_mul]; omega
      rw [List.getElem?_append_right (by rw [hk]; omega), hk, e1, Nat.add_sub_cancel_left, ih i (by simpa using hi)]
      rfl
theorem owns_formk {w : World} {base k : Nat} {e : TypeId} {v : Value} {n : Nat} {xs : List Value} (h : w.ownsRow base e k v n xs) :
    ∃ A c, v = .slice A n c ∧ n ≤ c ∧ c ≤ maxLen ∧ xs.length = n * k ∧ Rd w A xs ∧ ∀ p, A = some p → base ≤ p.block ∧ p.block < w.heap.size := by
  have hl : xs.length = n * k := by have := h.1; omega
  rcases h.2 with ⟨rfl, rfl⟩ | ⟨g, cap, cur, rfl, hb, hh, hc, hm, _, _⟩
  · exact ⟨none, 0, rfl, Nat.le_refl _, Nat.zero_le _, hl, fun hn => absurd hn (by omega), fun p hp => by cases hp⟩
  · refine ⟨some ⟨g, 0, none⟩, cap, rfl, hc, hm, hl, fun hn => ⟨_, rfl, h.cells (g := g) rfl⟩, fun p hp => ?_⟩
    injection hp with hp
    subst hp
    exact ⟨hb, (Array.getElem?_eq_some_iff.1 hh).1⟩
/-- A line's cells. -/
def lnCells (p : Nat × Tx) : List Value := [.int .i64 p.1, .string (str p.2)]
theorem lncat_len (L : List (Nat × Tx)) : (L.flatMap lnCells).length = L.length * 2 := flat_len lnCells 2 (fun _ => rfl) L
theorem lncat_snoc (L : List (Nat × Tx)) (p : Nat × Tx) : (L ++ [p]).flatMap lnCells = L.flatMap lnCells ++ lnCells p := by simp
def RdL (w : World) (A : Option Addr) (L : List (Nat × Tx)) : Prop := Rd w A (L.flatMap lnCells)
theorem RdL.below {w w' : World} {A : Option Addr} {L : List (Nat × Tx)} (h : RdL w A L) (hb : Below w.heap.size w w') : RdL w' A L := Rd.below h hb
theorem RdL.two {w : World} {A : Option Addr} {L : List (Nat × Tx)} (h : RdL w A L) (i : Nat) (hi : i < L.length) : ∃ ad X, A = some ad ∧ ad.add (i * 2) = X ∧ w.cell? X = some (.int .i64 L[i].1) ∧ w.cell? { block := X.block, off := X.off + 1 } = some (.string (str L[i].2)) := by
  obtain ⟨ad, e, hc⟩ := h (by rw [lncat_len]; omega)
  have hj : ∀ j u, j < 2 → (lnCells L[i])[j]? = some u → w.cell? (ad.add (i * 2 + j)) = some u := fun j u hj hu => hc _ u (by rw [flat_get lnCells 2 (fun _ => rfl) L i hi j hj]; exact hu)
  refine ⟨ad, _, e, rfl, hj 0 _ (by omega) rfl, ?_⟩
  have := hj 1 _ (by omega) rfl
  rw [← add_add'] at this
  exact this
/-- A slice of lines. -/
def RowL (w : World) (v : Value) (L : List (Nat × Tx)) : Prop := ∃ A c, v = .slice A L.length c ∧ L.length ≤ c ∧ c ≤ maxLen ∧ RdL w A L
theorem RowL.below {w w' : World} {v : Value} {L : List (Nat × Tx)} (h : RowL w v L) (hb : Below w.heap.size w w') : RowL w' v L := by
  obtain ⟨A, c, e, h1, h2, h3⟩ := h
  exact ⟨A, c, e, h1, h2, h3.below hb⟩
theorem RowL.nil (w : World) : RowL w (.slice none 0 0) [] := ⟨none, 0, rfl, Nat.le_refl _, Nat.zero_le _, Rd.nil⟩
theorem RowL.owned {w : World} {base : Nat} {e : TypeId} {v : Value} {n : Nat} {L : List (Nat × Tx)} (hn : L.length = n) (h : w.ownsRow base e 2 v n (L.flatMap lnCells)) : RowL w v L := by
  obtain ⟨A, c, rfl, h1, h2, _, h3, _⟩ := owns_formk h
  subst hn
  exact ⟨A, c, rfl, h1, h2, h3⟩
section
variable {P : Program}
theorem wp_appL {w : World} {o : Oper} {a : Act} {K : Act → World → Prop} {Q : Exit → Act → World → Prop} {t e : TypeId} (s x : Operand) (ht : P.underlying t = some (.slice e)) (hi : (P.info? e).map (fun i => (i.zero, i.size, i.bytes)) = some (some (.agg #[.int .i64 0, .string ⟨#[]⟩]), 2, 24))
    (ho : o.op = .call { callee := .builtin .append, args := #[s, x], argTypes := #[t, t] })
    (base : Nat) (v : Value) (n : Nat) (L : List (Nat × Tx)) (hs : a.eval s = v) (hown : w.ownsRow base e 2 v n (L.flatMap lnCells)) (g : Nat) (f : Nat × Tx) (hx : a.eval x = .slice (some ⟨g, 0, none⟩) 1 1)
    {fr : Nat × Nat} (hb : w.heap[g]? = some (.cells #[.int .i64 f.1, .string (str f.2)] e fr)) (hn : n + 1 ≤ 1000000) (hbase : base ≤ w.heap.size)
    (h : ∀ v' w', w'.ownsRow base e 2 v' (n + 1) ((L ++ [f]).flatMap lnCells) → w.grownBy w' v.ownBlock → (v'.ownBlock = v.ownBlock ∨ v'.ownBlock = some w.heap.size) → K (a.put o.dst v') w') :
    o.wp P a w K Q := by
  obtain ⟨i0, hi0, hz0, hz1, hz2⟩ := info_parts hi
  obtain ⟨v', w', hrun, h2, h3, _, h5⟩ := run_append_own_at (P := P) w base t o.type e i0 _ 2 24 ht hi0 hz0 hz1 hz2 rfl (by omega) v n _ hown ⟨g, 0, none⟩ 1 1 (lnCells f) rfl (World.news_of_block (cs := #[.int .i64 f.1, .string (str f.2)]) hb) (by
    intro u hu
    simp only [lnCells, List.mem_cons, List.not_mem_nil, or_false] at hu
    rcases hu with rfl | rfl <;> rfl) (by unfold maxLen; omega) (by omega) hbase
  unfold Oper.wp execOp
  simp only [ho, resolve, invoke, builtin, Sem.run_bind, Sem.run_pure, Result.andThen_ok, List.map_toArray, List.map_cons, List.map_nil, hs, hx, hrun]
  exact h v' w' (by rw [lncat_snoc]; exact h2) h3 h5
theorem wpList_appL {w : World} {ops : Array Oper} {rest : List Oper} {o : Oper} {a : Act} {Q : Exit → Act → World → Prop} {t e : TypeId} (hgd : o.guard = none) (s x : Operand) (ht : P.underlying t = some (.slice e)) (hi : (P.info? e).map (fun i => (i.zero, i.size, i.bytes)) = some (some (.agg #[.int .i64 0, .string ⟨#[]⟩]), 2, 24))
    (ho : o.op = .call { callee := .builtin .append, args := #[s, x], argTypes := #[t, t] })
    (base : Nat) (v : Value) (n : Nat) (L : List (Nat × Tx)) (hs : a.eval s = v) (hown : w.ownsRow base e 2 v n (L.flatMap lnCells)) (g : Nat) (f : Nat × Tx) (hx : a.eval x = .slice (some ⟨g, 0, none⟩) 1 1)
    {fr : Nat × Nat} (hb : w.heap[g]? = some (.cells #[.int .i64 f.1, .string (str f.2)] e fr)) (hn : n + 1 ≤ 1000000) (hbase : base ≤ w.heap.size)
    (h : ∀ v' w', w'.ownsRow base e 2 v' (n + 1) ((L ++ [f]).flatMap lnCells) → w.grownBy w' v.ownBlock → (v'.ownBlock = v.ownBlock ∨ v'.ownBlock = some w.heap.size) → wpList P ops Q rest (a.put o.dst v') w') :
    wpList P ops Q (o :: rest) a w :=
  wpList_plain hgd fun _ hK => wp_appL s x ht hi ho base v n L hs hown g f hx hb hn hbase fun v' w' h2 h3 h4 => hK _ _ (h v' w' h2 h3 h4)
end
end Go.Proofs.YtkihfafkglkjnaaDoor
/- Contracts: the document's blank, Trim, ends. -/
namespace Go.Proofs.YtkihfafkglkjnaaDoor
open Go.RowKit

theorem blk_int (c : UInt8) : blk c = (((c.toNat : Int) == 32) || ((c.toNat : Int) == 9) || ((c.toNat : Int) == 13)) := by
  have h : ∀ k : UInt8, (((c.toNat : Int)) == ((k.toNat : Nat) : Int)) = (c == k) := fun k => by
    rw [Bool.eq_iff_iff]
    simp only [beq_iff_eq]
    exact ⟨fun e => UInt8.toNat_inj.1 (by omega), fun e => by rw [e]⟩
  have h1 := h 32
  have h2 := h 9
  have h3 := h 13
  unfold blk
  rw [← h1, ← h2, ← h3]
  rfl
theorem ret_bool8 {a b : Bool} (h : a = b) : Ending.returned (.bool a) = .returned (.bool b) := by rw [h]
theorem ret_str8 {a b : ByteArray} (h : a = b) : Ending.returned (.string a) = .returned (.string b) := by rw [h]
/-- The byte that a string ends with. -/
theorem last_at (l : Tx) (n : Nat) (hn : l.length = n + 1) : ∃ t x, l = t ++ [x] ∧ t.length = n ∧ goes l = (x == 92) := by
  rcases List.eq_nil_or_concat l with rfl | ⟨t, x, rfl⟩
  · cases hn
  · rw [List.concat_eq_append] at hn ⊢
    exact ⟨t, x, rfl, by simpa using hn, goes_snoc t x⟩
theorem u8_eq92 (x : UInt8) : (((x.toNat : Int)) == 92) = (x == 92) := by
  rw [Bool.eq_iff_iff]
  simp only [beq_iff_eq]
  exact ⟨fun e => UInt8.toNat_inj.1 (by have : (92 : UInt8).toNat = 92 := rfl; omega), fun e => by rw [e]; rfl⟩
def szOf : Value → Nat
  | .string b => b.size
  | _ => 0
/-- A string that begins with x, that ends with x. -/
theorem cons_facts (x : UInt8) (r : Tx) (m : Nat) (h : r.length = m) : ∃ S, str (x :: r) = S ∧ ∃ hs : S.size = m + 1, S[0]'(hs ▸ Nat.succ_pos m) = x ∧ S.extract 1 (m + 1) = str r := by
  subst h
  refine ⟨_, rfl, rfl, rfl, ?_⟩
  rw [str_cut]
  simp
theorem snoc_facts (r : Tx) (x : UInt8) (m : Nat) (h : r.length = m) : ∃ S, str (r ++ [x]) = S ∧ ∃ hs : S.size = m + 1, S[m]'(hs ▸ Nat.lt_succ_self m) = x ∧ S.extract 0 m = str r := by
  have hl : (r ++ [x]).length = m + 1 := by rw [List.length_append, h]; rfl
  refine ⟨_, rfl, hl, ?_, ?_⟩
  · rw [str_at _ m (by rw [hl]; omega)]
    subst h
    simp
  · subst h
    rw [str_cut]
    simp
theorem ldr_cases (t l : Tx) (ht : ldr t = ldr l) : (∃ x r, t = x :: r ∧ blk x = true ∧ ldr r = ldr l) ∨ (t = [] ∧ ldr l = []) ∨ ∃ x r, t = x :: r ∧ blk x = false ∧ ldr l = x :: r := by
  rcases t with _ | ⟨x, r⟩
  · exact .inr (.inl ⟨rfl, ht.symm⟩)
  · cases hb : blk x <;> rw [ldr_cons, hb] at ht
    · exact .inr (.inr ⟨x, r, rfl, hb, ht.symm⟩)
    · exact .inl ⟨x, r, rfl, hb, ht⟩
theorem rdr_cases (t l : Tx) (ht : rdr t = rdr l) : (∃ r x, t = r ++ [x] ∧ blk x = true ∧ rdr r = rdr l) ∨ (t = [] ∧ rdr l = []) ∨ ∃ r x, t = r ++ [x] ∧ blk x = false ∧ rdr l = r ++ [x] := by
  rcases List.eq_nil_or_concat t with rfl | ⟨r, x, rfl⟩
  · exact .inr (.inl ⟨rfl, ht.symm⟩)
  · rw [List.concat_eq_append] at ht ⊢
    cases hb : blk x <;> rw [rdr_snoc, hb] at ht
    · exact .inr (.inr ⟨r, x, rfl, hb, ht.symm⟩)
    · exact .inl ⟨r, x, rfl, hb, ht⟩
end Go.Proofs.YtkihfafkglkjnaaDoor
/- Contract: the document's Words. -/
namespace Go.Proofs.YtkihfafkglkjnaaDoor
open Go.RowKit

def txC (l : Tx) : Value := .string (str l)
def RdS (w : World) (A : Option Addr) (L : List Tx) : Prop := Rd w A (L.map txC)
/-- A slice of strings. -/
def RowS (w : World) (v : Value) (L : List Tx) : Prop := ∃ A c, v = .slice A L.length c ∧ L.length ≤ c ∧ c ≤ maxLen ∧ RdS w A L
theorem RowS.below {w w' : World} {v : Value} {L : List Tx} (h : RowS w v L) (hb : Below w.heap.size w w') : RowS w' v L := by
  obtain ⟨A, c, e, h1, h2, h3⟩ := h
  exact ⟨A, c, e, h1, h2, Rd.below h3 hb⟩
theorem RowS.owned {w : World} {base : Nat} {e : TypeId} {v : Value} {n : Nat} {L : List Tx} (hn : L.length = n) (h : w.ownsRow base e 1 v n (L.map txC)) : RowS w v L := by
  obtain ⟨A, c, rfl, h1, h2, _, h3, _⟩ := owns_form h
  subst hn
  exact ⟨A, c, rfl, h1, h2, h3⟩
/-- A byte of a string, and the piece that it is. -/
theorem at_facts (l : Tx) (n k : Nat) (hn : l.length = n) (hk : k < n) : ∃ x r, l.drop k = x :: r ∧ l.drop (k + 1) = r ∧ ∃ S, str l = S ∧ ∃ hs : S.size = n, S[k]'(hs ▸ hk) = x ∧ S.extract k (k + 1) = str [x] := by
  subst hn
  refine ⟨l[k], l.drop (k + 1), List.drop_eq_getElem_cons hk, rfl, _, rfl, rfl, rfl, ?_⟩
  rw [str_cut, List.drop_eq_getElem_cons hk]
  congr 1
  rw [Nat.add_sub_cancel_left]
  rfl
theorem slice_run (S D : ByteArray) (k n : Nat) (hs : S.size = n) (hk : k < n) (_ : n ≤ 4611686018427387904) (hc : S.extract k (k + 1) = D) (W : World) :
    (Instr.slice 9 (.string S) (some (.int .i64 (k : Int))) (some (.int .i64 ((k : Int) + 1))) none).run Tryd.prog W = .ok (.string D) W := by
  rw [run_slice_string _ _ _ _ _ _ _ Tryd.underlying9 (by omega) (by omega) (by rw [hs]; omega)]
  rw [show ((k : Int)).toNat = k by omega, show ((k : Int) + 1).toNat = k + 1 by omega, hc]
theorem str_ne8 {l : Tx} {b : Bool} (h : l.isEmpty = b) : (str l).toList.isEmpty = b := by rw [str_toList]; exact h
end Go.Proofs.YtkihfafkglkjnaaDoor

/- A day's seconds as bits of words: heads, tails, what spans lay, the next one, canonical spans. -/
import Derived.Test.YtlogapkpllgdcaaDoorPdMath
import Derived.Lib.TrailingZeros
namespace Go.Proofs.YtlogapkpllgdcaaDoor

def M64 : Nat := 18446744073709551615
/-- The bit of a second. -/
def bit (ws : List Nat) (j : Nat) : Bool := (ws.getD (j / 64) 0).testBit (j % 64)
theorem tb_max (i : Nat) : Nat.testBit 18446744073709551615 i = decide (i < 64) := by
  have : (18446744073709551615 : Nat) = 2 ^ 64 - 1 := rfl
  rw [this, Nat.testBit_two_pow_sub_one]
theorem tb_big {x i : Nat} (hx : x < 18446744073709551616) (hi : 64 ≤ i) : x.testBit i = false :=
  Nat.testBit_lt_two_pow (Nat.lt_of_lt_of_le hx (Nat.pow_le_pow_right (n := 2) (i := 64) (j := i) (by decide) hi))
theorem ext64 {x y : Nat} (hx : x < 18446744073709551616) (hy : y < 18446744073709551616) (h : ∀ i, i < 64 → x.testBit i = y.testBit i) : x = y := by
  apply Nat.eq_of_testBit_eq
  intro i
  by_cases hi : i < 64
  · exact h i hi
  · rw [tb_big hx (by omega), tb_big hy (by omega)]
/-- All bits from k on; all up to k. -/
def headN (k : Nat) : Nat := (18446744073709551615 * 2 ^ k) % 18446744073709551616
def tailN (k : Nat) : Nat := 18446744073709551615 / 2 ^ (63 - k)
theorem headN_lt (k : Nat) : headN k < 18446744073709551616 := Nat.mod_lt _ (by decide)
theorem tailN_lt (k : Nat) : tailN k < 18446744073709551616 := Nat.lt_of_le_of_lt (Nat.div_le_self _ _) (by decide)
theorem tb_head {k i : Nat} (hi : i < 64) : (headN k).testBit i = decide (k ≤ i) := by
  unfold headN
  have e : (18446744073709551616 : Nat) = 2 ^ 64 := rfl
  rw [e, Nat.testBit_mod_two_pow, Nat.testBit_mul_two_pow, tb_max]
  by_cases h : k ≤ i
  · have : i - k < 64 := by omega
    simp [h, hi, this]
  · simp [h]
theorem tb_tail {k i : Nat} (hk : k < 64) : (tailN k).testBit i = decide (i ≤ k) := by
  unfold tailN
  rw [Nat.testBit_div_two_pow, tb_max, Bool.eq_iff_iff, decide_eq_true_eq, decide_eq_true_eq]
  omega
/-- A word with the bits of one place set besides. -/
def orAt (ws : List Nat) (k x : Nat) : List Nat := ws.set k (ws.getD k 0 ||| x)
theorem orAt_length (ws : List Nat) (k x : Nat) : (orAt ws k x).length = ws.length := by simp [orAt]
def Words (ws : List Nat) : Prop := ws.length = 1350 ∧ ∀ x ∈ ws, x < 18446744073709551616
theorem Words.get {ws : List Nat} (h : Words ws) (k : Nat) : ws.getD k 0 < 18446744073709551616 := by
  rw [List.getD_eq_getElem?_getD]
  cases hk : ws[k]? with
  | none => simp
  | some x => exact h.2 x (List.mem_of_getElem? hk)
theorem Words.set {ws : List Nat} (h : Words ws) (k : Nat) {x : Nat} (hx : x < 18446744073709551616) : Words (ws.set k x) :=
  ⟨by rw [List.length_set]; exact h.1, fun y hy => by
    rcases List.mem_or_eq_of_mem_set hy with h' | rfl
    · exact h.2 y h'
    · exact hx⟩
theorem Words.orAt {ws : List Nat} (h : Words ws) (k : Nat) {x : Nat} (hx : x < 18446744073709551616) : Words (orAt ws k x) :=
  h.set k (Nat.or_lt_two_pow (n := 64) (h.get k) hx)
theorem getD_set {ws : List Nat} {k i x : Nat} (hk : k < ws.length) : (ws.set k x).getD i 0 = if i = k then x else ws.getD i 0 := by
  rw [List.getD_eq_getElem?_getD, List.getD_eq_getElem?_getD, List.getElem?_set]
  by_cases h : k = i
  · subst h; rw [if_pos rfl, if_pos hk, if_pos rfl]; rfl
  · rw [if_neg h, if_neg (fun e => h e.symm)]
theorem bit_set {ws : List Nat} {k x j : Nat} (hk : k < ws.length) : bit (ws.set k x) j = if j / 64 = k then x.testBit (j % 64) else bit ws j := by
  unfold bit
  rw [getD_set hk]
  split <;> rfl
theorem bit_orAt {ws : List Nat} {k x j : Nat} (hk : k < ws.length) : bit (orAt ws k x) j = (bit ws j || (decide (j / 64 = k) && x.testBit (j % 64))) := by
  unfold orAt
  rw [bit_set hk]
  by_cases h : j / 64 = k
  · rw [if_pos h, Nat.testBit_or]; unfold bit; rw [h]; simp
  · rw [if_neg h]; simp [h]
theorem bit_zero (n j : Nat) : bit (List.replicate n 0) j = false := by
  unfold bit
  rw [List.getD_eq_getElem?_getD, List.getElem?_replicate]
  split <;> simp
theorem words_zero : Words (List.replicate 1350 0) := ⟨List.length_replicate, fun x hx => by rw [(List.mem_replicate.1 hx).2]; decide⟩

/-- Spans in Nat's words: from word, to word, of the first and the last second. -/
def fw (s : Spn) : Nat := s.f.toNat / 64
def tw (s : Spn) : Nat := (s.t.toNat - 1) / 64
def fb (s : Spn) : Nat := s.f.toNat % 64
def lb (s : Spn) : Nat := (s.t.toNat - 1) % 64
/-- What a span lays by its ends. -/
def ends (ws : List Nat) (s : Spn) : List Nat :=
  if fw s = tw s then orAt ws (fw s) (headN (fb s) &&& tailN (lb s)) else orAt (orAt ws (fw s) (headN (fb s))) (tw s) (tailN (lb s))
theorem ends_words {ws : List Nat} (h : Words ws) (s : Spn) : Words (ends ws s) := by
  unfold ends
  split
  · exact h.orAt _ (Nat.and_lt_two_pow (n := 64) _ (tailN_lt _))
  · exact (h.orAt _ (headN_lt _)).orAt _ (tailN_lt _)
/-- Second j lies in span s. -/
def inS (s : Spn) (j : Nat) : Bool := decide (s.f ≤ (j : Int)) && decide ((j : Int) < s.t)
def endS (s : Spn) (j : Nat) : Bool := inS s j && (decide (j / 64 = fw s) || decide (j / 64 = tw s))
theorem bit_ends {ws : List Nat} (h : Words ws) {s : Spn} (hs : badS s = false) (j : Nat) : bit (ends ws s) j = (bit ws j || endS s j) := by
  obtain ⟨h1, h2, h3⟩ := badS_no hs
  have hj : j % 64 < 64 := Nat.mod_lt _ (by decide)
  obtain ⟨a, ha⟩ : ∃ a : Nat, s.f = a := ⟨s.f.toNat, by omega⟩
  obtain ⟨b, hb⟩ : ∃ b : Nat, s.t = b + 1 := ⟨s.t.toNat - 1, by omega⟩
  have e1 : s.f.toNat = a := by omega
  have e2 : s.t.toNat - 1 = b := by omega
  have l1 : a / 64 < ws.length := by rw [h.1]; omega
  have l2 : b / 64 < ws.length := by rw [h.1]; omega
  unfold ends endS inS fw tw fb lb
  rw [e1, e2, ha, hb]
  split
  · rename_i he
    rw [bit_orAt l1, Nat.testBit_and, tb_head hj, tb_tail (Nat.mod_lt _ (by decide))]
    congr 1
    rw [Bool.eq_iff_iff]
    simp only [Bool.and_eq_true, Bool.or_eq_true, decide_eq_true_eq]
    omega
  · rename_i he
    rw [bit_orAt (by rw [orAt_length]; exact l2), bit_orAt l1, tb_head hj, tb_tail (Nat.mod_lt _ (by decide)), Bool.or_assoc]
    congr 1
    rw [Bool.eq_iff_iff]
    simp only [Bool.and_eq_true, Bool.or_eq_true, decide_eq_true_eq]
    omega
/-- By how much the count of whole words moves at word k, by a span. -/
def step1 (s : Spn) (k : Nat) : Int := if fw s = tw s then 0 else (if k = fw s + 1 then 1 else 0) - (if k = tw s then 1 else 0)
def openN (l : List Spn) (k : Nat) : Nat := (l.filter fun s => decide (fw s < k) && decide (k < tw s)).length
def stepN (l : List Spn) (k : Nat) : Int := (l.map fun s => step1 s k).sum
theorem fw_le_tw {s : Spn} (hs : badS s = false) : fw s ≤ tw s ∧ tw s < 1350 := by
  obtain ⟨h1, h2, h3⟩ := badS_no hs
  unfold fw tw
  omega
theorem stepN_cons (s : Spn) (l : List Spn) (k : Nat) : stepN (s :: l) k = step1 s k + stepN l k := by simp [stepN]
theorem stepN_snoc (s : Spn) (l : List Spn) (k : Nat) : stepN (l ++ [s]) k = stepN l k + step1 s k := by simp [stepN]
theorem openN_cons (s : Spn) (l : List Spn) (k : Nat) : openN (s :: l) k = (if fw s < k ∧ k < tw s then 1 else 0) + openN l k := by
  unfold openN
  rw [List.filter_cons]
  by_cases h : fw s < k ∧ k < tw s
  · rw [if_pos (by simp [h]), if_pos h]; simp; omega
  · rw [if_neg (by simp; omega), if_neg h]; simp
/-- The count at word k + 1 is that at k, and the step. -/
theorem open_zero {l : List Spn} (hl : ∀ s ∈ l, badS s = false) : (openN l 0 : Int) = stepN l 0 := by
  induction l with
  | nil => rfl
  | cons s l ih =>
    have h1 := fw_le_tw (hl s List.mem_cons_self)
    have h2 := ih fun x hx => hl x (List.mem_cons_of_mem _ hx)
    rw [openN_cons, stepN_cons, ← h2]
    unfold step1
    split <;> (try split) <;> (try split) <;> omega
theorem open_succ {l : List Spn} (hl : ∀ s ∈ l, badS s = false) (k : Nat) : (openN l (k + 1) : Int) = openN l k + stepN l (k + 1) := by
  induction l with
  | nil => rfl
  | cons s l ih =>
    have h1 := fw_le_tw (hl s List.mem_cons_self)
    have h2 := ih fun x hx => hl x (List.mem_cons_of_mem _ hx)
    rw [openN_cons, openN_cons, stepN_cons]
    have e : ((((if fw s < k + 1 ∧ k + 1 < tw s then 1 else 0 : Nat) : Int))) = ((if fw s < k ∧ k < tw s then 1 else 0 : Nat) : Int) + step1 s (k + 1) := by
      unfold step1
      split <;> split <;> (try split) <;> (try split) <;> (try split) <;> omega
    omega
theorem openN_le (l : List Spn) (k : Nat) : openN l k ≤ l.length := List.length_filter_le _ _
theorem stepN_bd (l : List Spn) (k : Nat) : -(l.length : Int) ≤ stepN l k ∧ stepN l k ≤ l.length := by
  induction l with
  | nil => simp [stepN]
  | cons s l ih =>
    rw [stepN_cons, List.length_cons]
    have : -1 ≤ step1 s k ∧ step1 s k ≤ 1 := by
      unfold step1
      split <;> (try split) <;> (try split) <;> omega
    omega
theorem openN_pos {l : List Spn} {k : Nat} : 0 < openN l k ↔ ∃ s ∈ l, fw s < k ∧ k < tw s := by
  unfold openN
  rw [List.length_pos_iff_exists_mem]
  constructor
  · rintro ⟨s, hs⟩
    rw [List.mem_filter] at hs
    exact ⟨s, hs.1, by simpa using hs.2⟩
  · rintro ⟨s, hs, h⟩
    exact ⟨s, List.mem_filter.2 ⟨hs, by simpa using h⟩⟩
/-- Ends, and whole words, are what spans have. -/
theorem laid_all {l : List Spn} (hl : ∀ s ∈ l, badS s = false) {ws : List Nat} (j : Nat) (hj : j < 86400) (h1 : bit ws j = (l.any fun s => endS s j)) (o : Bool) (ho : o = decide (0 < openN l (j / 64))) :
    (o || bit ws j) = l.any fun s => inS s j := by
  rw [h1, ho, Bool.eq_iff_iff]
  simp only [Bool.or_eq_true, decide_eq_true_eq, List.any_eq_true, openN_pos]
  constructor
  · rintro (⟨s, hs, h2, h3⟩ | ⟨s, hs, h2⟩)
    · refine ⟨s, hs, ?_⟩
      have := badS_no (hl s hs)
      unfold fw tw at *
      unfold inS
      simp only [Bool.and_eq_true, decide_eq_true_eq]
      omega
    · refine ⟨s, hs, ?_⟩
      unfold endS at h2
      simp only [Bool.and_eq_true] at h2
      exact h2.1
  · rintro ⟨s, hs, h2⟩
    have := badS_no (hl s hs)
    by_cases hq : j / 64 = fw s ∨ j / 64 = tw s
    · refine .inr ⟨s, hs, ?_⟩
      unfold endS
      rw [h2]
      simpa using hq
    · refine .inl ⟨s, hs, ?_⟩
      unfold inS at h2
      simp only [Bool.and_eq_true, decide_eq_true_eq] at h2
      unfold fw tw at *
      omega
theorem tb_diff (x y i : Nat) (hx : x < 18446744073709551616) : (x &&& (18446744073709551615 - y % 18446744073709551616)).testBit i = (x.testBit i && !y.testBit i) := by
  by_cases hi : i < 64
  · have e : 18446744073709551615 - y % 18446744073709551616 = 2 ^ 64 - (y % 18446744073709551616 + 1) := by omega
    rw [Nat.testBit_and, e, Nat.testBit_two_pow_sub_succ (by omega)]
    have e2 : (18446744073709551616 : Nat) = 2 ^ 64 := rfl
    rw [e2, Nat.testBit_mod_two_pow]
    simp [hi]
  · rw [Nat.testBit_and, tb_big hx (by omega)]; simp
theorem tb_not {x i : Nat} (hx : x < 18446744073709551616) (hi : i < 64) : (18446744073709551615 - x).testBit i = !x.testBit i := by
  have e : 18446744073709551615 - x = 2 ^ 64 - (x + 1) := by omega
  rw [e, Nat.testBit_two_pow_sub_succ (by omega)]
  simp [hi]
/-- The first bit that is set. -/
theorem ctz_low {x : Nat} (h0 : x ≠ 0) (hx : x < 18446744073709551616) : Lib.ctz 64 x < 64 ∧ x.testBit (Lib.ctz 64 x) = true ∧ ∀ i, i < Lib.ctz 64 x → x.testBit i = false := by
  have e : Lib.ctz 64 x = Lib.ctzFrom 64 x := by simp [Lib.ctz, h0]
  obtain ⟨m, hm, hk⟩ := Lib.ctzFrom_spec 64 x (by omega) hx
  rw [e]
  generalize Lib.ctzFrom 64 x = k at *
  refine ⟨hk, ?_, fun i hi => ?_⟩
  · rw [hm, Nat.mul_comm, Nat.testBit_mul_two_pow]
    simp [Nat.testBit_zero]
  · rw [hm, Nat.mul_comm, Nat.testBit_mul_two_pow]
    simp; omega
theorem zero_bits {x : Nat} (h0 : x = 0) (i : Nat) : x.testBit i = false := by rw [h0]; exact Nat.zero_testBit i
end Go.Proofs.YtlogapkpllgdcaaDoor

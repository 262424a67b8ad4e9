/- Layer 9, plain: words, begins of blocks, what a text defines, and blocks as a text: of no program. -/
import Derived.Test.YtbeehedppofpnaaGreatDoorL8Math
namespace Go.Proofs.YtbeehedppofpnaaGreatDoor

/-- A byte of a word, of a name. -/
def wdB (c : UInt8) : Bool := (97 ≤ c && c ≤ 122) || (48 ≤ c && c ≤ 57) || c == 95
def nmB (c : UInt8) : Bool := (97 ≤ c && c ≤ 122) || (65 ≤ c && c ≤ 90) || (48 ≤ c && c ≤ 57) || c == 95 || c == 45 || c == 46
def wordT (s : Tx) : Bool := s.all wdB && decide (0 < s.length) && decide (s.length < 33)
def nameT (s : Tx) : Bool := s.all nmB && decide (0 < s.length) && decide (s.length < 33)
def defineT : Tx := [100, 101, 102, 105, 110, 101]
/-- The kind that a begin of a block tells. -/
def headT (t : Tx) : Option Tx :=
  if 9 ≤ t.length ∧ t.take 6 = defineT ∧ (t.drop 6).head?.any blk = true ∧ t.getLast? = some 123 then
    (if trim ((t.drop 6).dropLast) = [] then none else some (trim ((t.drop 6).dropLast)))
  else none
/-- A field: where, name, value. A block: where, kind, fields. -/
abbrev Fd := Nat × Tx × Tx
abbrev Bk := Nat × Tx × List Fd
def hasN (b : Bk) (n : Tx) : Bool := b.2.2.any fun f => f.2.1 == n
/-- A line's first word, what stands behind it. -/
def fst9 (t : Tx) : Tx := t.takeWhile fun c => !blk c
def snd9 (t : Tx) : Tx := t.dropWhile fun c => !blk c
/-- What lines define: the blocks; a line's number; an error's number. -/
def prs : List (Nat × Tx) → List Bk → Option Bk → List Bk × Nat × Nat
  | [], out, none => (out, 0, 0)
  | [], _, some b => ([], b.1, 4)
  | p :: r, out, none =>
    match headT p.2 with
    | none => ([], p.1, 3)
    | some k => if wordT k = false then ([], p.1, 11) else if 1024 ≤ out.length then ([], p.1, 10) else prs r out (some (p.1, k, []))
  | p :: r, out, some b =>
    if p.2 = [125] then prs r (out ++ [b]) none
    else if fst9 p.2 = defineT ∧ snd9 p.2 ≠ [] then ([], p.1, 3)
    else if wordT (fst9 p.2) = false then ([], p.1, 11)
    else if hasN b (fst9 p.2) = true then ([], p.1, 7)
    else if 64 ≤ b.2.2.length then ([], p.1, 10)
    else prs r out (some (b.1, b.2.1, b.2.2 ++ [(p.1, fst9 p.2, trim (snd9 p.2))]))
def parseT (s : Tx) : List Bk × Nat × Nat := if (ans s).2.2 ≠ 0 then ([], (ans s).2.1, (ans s).2.2) else prs (ans s).1 [] none
/-- A value that can't be told. -/
def badV (f : Fd) : Bool := f.2.2.any (fun c => c == 10 || c == 59) || f.2.1 == defineT || goes f.2.2 || f.2.2.head?.any blk || f.2.2.getLast?.any blk
/-- A field's line without the blanks ahead. -/
def lineF (f : Fd) : Tx := if f.2.2 = [] then f.2.1 else f.2.1 ++ [32] ++ f.2.2
def linesB (b : Bk) : List Tx := (defineT ++ [32] ++ b.2.1 ++ [32, 123]) :: (b.2.2.map fun f => [32, 32] ++ lineF f) ++ [[125]]
def textB (l : List Bk) : Tx := lay (l.flatMap linesB)
def twice (l : List Fd) : Bool := match l with
  | [] => false
  | f :: r => r.any (fun g => g.2.1 == f.2.1) || twice r
/-- Blocks that can be told. -/
structure Told9 (l : List Bk) : Prop where
  kinds : ∀ b ∈ l, wordT b.2.1 = true
  names : ∀ b ∈ l, ∀ f ∈ b.2.2, wordT f.2.1 = true
  vals : ∀ b ∈ l, ∀ f ∈ b.2.2, badV f = false
  once : ∀ b ∈ l, twice b.2.2 = false
  few : l.length ≤ 1024
  fewF : ∀ b ∈ l, b.2.2.length ≤ 64
  short : ∀ b ∈ l, ∀ f ∈ b.2.2, (lineF f).length ≤ 4096
  small : (textB l).length ≤ 65536

/-! Lines that do not go on. -/
theorem whole_lay9 (ps : List Tx) (h : ∀ p ∈ ps, 10 ∉ p ∧ goes p = false) : whole (lay ps) = num8 0 (ps ++ [[], []]) := by
  unfold whole
  rw [cut_lay ps [10] fun p hp => (h p hp).1]
  have e : cutAt 10 [10] = [[], []] := rfl
  rw [e]
  refine jn_num8 _ 0 fun p hp => ?_
  rcases List.mem_append.1 hp with hp | hp
  · exact (h p hp).2
  · simp only [List.mem_cons, List.not_mem_nil, or_false, or_self] at hp
    subst hp
    rfl
theorem scan_said : ∀ (ps qs : List Tx) (i : Nat) (acc r : List (Nat × Tx)), ps.map said = qs → (∀ q ∈ qs, q ≠ [] ∧ q.length ≤ 4096) → scan acc (num8 i ps ++ r) = scan (acc ++ num8 i qs) r
  | [], qs, i, acc, r, h, _ => by
    rw [← h]
    simp [num8]
  | p :: ps, qs, i, acc, r, h, hq => by
    cases qs with
    | nil => cases h
    | cons q qs =>
      rw [List.map_cons] at h
      injection h with h1 h2
      have hq0 := hq q (by simp)
      rw [num8, List.cons_append, scan_push _ _ _ _ (by rw [h1]; exact hq0.1) (by rw [h1]; exact hq0.2), h1, scan_said ps qs (i + 1) _ r h2 fun x hx => hq x (by simp [hx]), num8, List.append_assoc]
      rfl
/-! Bytes. -/
theorem wd_facts {c : UInt8} (h : wdB c = true) : c ≠ 10 ∧ c ≠ 59 ∧ c ≠ 92 ∧ c ≠ 35 ∧ c ≠ 123 ∧ c ≠ 125 ∧ blk c = false := by
  have : ∀ c : Fin 256, wdB (UInt8.ofNat c) = true → (UInt8.ofNat c) ≠ 10 ∧ (UInt8.ofNat c) ≠ 59 ∧ (UInt8.ofNat c) ≠ 92 ∧ (UInt8.ofNat c) ≠ 35 ∧ (UInt8.ofNat c) ≠ 123 ∧ (UInt8.ofNat c) ≠ 125 ∧ blk (UInt8.ofNat c) = false := by decide +kernel
  have hc : UInt8.ofNat c.toNat = c := by simp
  have := this ⟨c.toNat, UInt8.toNat_lt c⟩
  rw [hc] at this
  exact this h
theorem word_facts {s : Tx} (h : wordT s = true) : s ≠ [] ∧ s.length ≤ 32 ∧ ∀ c ∈ s, wdB c = true := by
  unfold wordT at h
  simp only [Bool.and_eq_true, decide_eq_true_eq, List.all_eq_true] at h
  exact ⟨fun e => by rw [e] at h; simp at h, by omega, h.1.1⟩
theorem trim_solid {l : Tx} (h1 : l.head?.any blk = false) (h2 : l.getLast?.any blk = false) : trim l = l := by
  have e1 : ldr l = l := by
    cases l with
    | nil => rfl
    | cons x r =>
      have hx : blk x = false := by simpa using h1
      rw [ldr_cons, hx, if_neg (by simp)]
  unfold trim
  rw [e1]
  rcases List.eq_nil_or_concat l with rfl | ⟨t, x, rfl⟩
  · rfl
  · rw [List.concat_eq_append] at h2 ⊢
    have hx : blk x = false := by simpa using h2
    rw [rdr_snoc, hx, if_neg (by simp)]
/-! A block's lines. -/
theorem goes_last (l : Tx) (x : UInt8) (h : x ≠ 92) : goes (l ++ [x]) = false := by rw [goes_snoc]; exact beq_eq_false_iff_ne.2 h
theorem said_solid {t : Tx} (h1 : 59 ∉ t) (h2 : trim t = t) (h3 : t.head? ≠ some 35) : said t = t := by
  unfold said
  rw [ahead_of_no t h1, h2, if_neg h3]
def headL (k : Tx) : Tx := defineT ++ [32] ++ k ++ [32, 123]
theorem word_solid {k : Tx} (h : wordT k = true) : trim k = k := by
  obtain ⟨_, _, hc⟩ := word_facts h
  refine trim_solid ?_ ?_
  · cases k with
    | nil => rfl
    | cons x r =>
      have := (wd_facts (hc x (by simp))).2.2.2.2.2.2
      simpa using this
  · rcases List.eq_nil_or_concat k with rfl | ⟨t, x, rfl⟩
    · rfl
    · rw [List.concat_eq_append] at hc ⊢
      have := (wd_facts (hc x (by simp))).2.2.2.2.2.2
      simpa using this
theorem headL_facts {k : Tx} (h : wordT k = true) : 10 ∉ headL k ∧ goes (headL k) = false ∧ said (headL k) = headL k ∧ headL k ≠ [] ∧ (headL k).length ≤ 4096 ∧ headT (headL k) = some k := by
  obtain ⟨hne, hlen, hc⟩ := word_facts h
  have h10 : (10 : UInt8) ∉ k := fun hm => (wd_facts (hc _ hm)).1 rfl
  have h59 : (59 : UInt8) ∉ k := fun hm => (wd_facts (hc _ hm)).2.1 rfl
  have e1 : headL k = (defineT ++ [32] ++ k ++ [32]) ++ [123] := by simp [headL]
  refine ⟨by simp [headL, defineT, h10], by rw [e1]; exact goes_last _ _ (by decide), ?_, by simp [headL, defineT], by simp [headL, defineT]; omega, ?_⟩
  · refine said_solid (by simp [headL, defineT, h59]) (trim_solid ?_ ?_) ?_
    · rfl
    · rw [e1, List.getLast?_concat]
      rfl
    · simp [headL, defineT]
  · unfold headT
    have d6 : (headL k).drop 6 = [32] ++ k ++ [32, 123] := by
      have : headL k = defineT ++ ([32] ++ k ++ [32, 123]) := by simp [headL]
      rw [this]
      rfl
    have t6 : (headL k).take 6 = defineT := by
      have : headL k = defineT ++ ([32] ++ k ++ [32, 123]) := by simp [headL]
      rw [this]
      rfl
    have dl : ([32] ++ k ++ [32, 123] : Tx).dropLast = [32] ++ k ++ [32] := by
      have : ([32] ++ k ++ [32, 123] : Tx) = ([32] ++ k ++ [32]) ++ [123] := by simp
      rw [this, List.dropLast_concat]
    have tr : trim ([32] ++ k ++ [32]) = k := (trim_pad [32] k [32] (by decide) (by decide)).trans (word_solid h)
    have hcond : 9 ≤ (headL k).length ∧ (headL k).take 6 = defineT ∧ ((headL k).drop 6).head?.any blk = true ∧ (headL k).getLast? = some 123 := by
      refine ⟨by have := List.length_pos_iff.2 hne; simp [headL, defineT], t6, by rw [d6]; rfl, ?_⟩
      rw [e1, List.getLast?_concat]
    rw [if_pos hcond, d6, dl, tr, if_neg hne]
theorem badV_facts {f : Fd} (h : badV f = false) : 10 ∉ f.2.2 ∧ 59 ∉ f.2.2 ∧ f.2.1 ≠ defineT ∧ goes f.2.2 = false ∧ f.2.2.head?.any blk = false ∧ f.2.2.getLast?.any blk = false := by
  unfold badV at h
  simp only [Bool.or_eq_false_iff, List.any_eq_false, beq_eq_false_iff_ne] at h
  obtain ⟨⟨⟨⟨h1, h2⟩, h3⟩, h4⟩, h5⟩ := h
  refine ⟨fun hm => ?_, fun hm => ?_, h2, h3, h4, h5⟩
  · have := h1 _ hm
    simp at this
  · have := h1 _ hm
    simp at this
theorem wspan : ∀ (n r : Tx), (∀ c ∈ n, blk c = false) → (r = [] ∨ ∃ x t, r = x :: t ∧ blk x = true) → fst9 (n ++ r) = n ∧ snd9 (n ++ r) = r
  | [], r, _, hr => by
    rcases hr with rfl | ⟨x, t, rfl, hx⟩
    · exact ⟨rfl, rfl⟩
    · unfold fst9 snd9
      simp [hx]
  | c :: n, r, h, hr => by
    obtain ⟨h1, h2⟩ := wspan n r (fun x hx => h x (by simp [hx])) hr
    have hc := h c (by simp)
    unfold fst9 at h1
    unfold snd9 at h2
    unfold fst9 snd9
    simp [hc, h1, h2]
theorem lineF_facts {f : Fd} (hw : wordT f.2.1 = true) (hv : badV f = false) (_ : (lineF f).length ≤ 4096) :
    10 ∉ [32, 32] ++ lineF f ∧ goes ([32, 32] ++ lineF f) = false ∧ said ([32, 32] ++ lineF f) = lineF f ∧ lineF f ≠ [] ∧ lineF f ≠ [125] ∧ fst9 (lineF f) = f.2.1 ∧ trim (snd9 (lineF f)) = f.2.2 := by
  obtain ⟨hne, hlen, hc⟩ := word_facts hw
  obtain ⟨v10, v59, vd, vg, vh, vt⟩ := badV_facts hv
  have n10 : (10 : UInt8) ∉ f.2.1 := fun hm => (wd_facts (hc _ hm)).1 rfl
  have n59 : (59 : UInt8) ∉ f.2.1 := fun hm => (wd_facts (hc _ hm)).2.1 rfl
  have nb : ∀ c ∈ f.2.1, blk c = false := fun c hm => (wd_facts (hc c hm)).2.2.2.2.2.2
  obtain ⟨x, n', hx⟩ : ∃ x n', f.2.1 = x :: n' := by
    cases hq : f.2.1 with
    | nil => exact absurd hq hne
    | cons x n' => exact ⟨x, n', rfl⟩
  have hxw := wd_facts (hc x (by rw [hx]; simp))
  have hL : lineF f = f.2.1 ++ (if f.2.2 = [] then [] else [32] ++ f.2.2) := by
    unfold lineF
    split
    · simp
    · simp
  have hhd : (lineF f).head? = some x := by rw [hL, hx]; rfl
  have h10 : (10 : UInt8) ∉ lineF f := by
    rw [hL]
    split
    · simpa using n10
    · simp [n10, v10]
  have h59 : (59 : UInt8) ∉ lineF f := by
    rw [hL]
    split
    · simpa using n59
    · simp [n59, v59]
  have hlast : (lineF f).getLast?.any blk = false ∧ goes (lineF f) = false := by
    by_cases hz : f.2.2 = []
    · rw [hL, if_pos hz, List.append_nil]
      rcases List.eq_nil_or_concat f.2.1 with hq | ⟨t, y, hq⟩
      · exact absurd hq hne
      · rw [List.concat_eq_append] at hq
        have hy := wd_facts (hc y (by rw [hq]; simp))
        rw [hq]
        exact ⟨by simpa using hy.2.2.2.2.2.2, goes_last _ _ hy.2.2.1⟩
    · rw [hL, if_neg hz]
      rcases List.eq_nil_or_concat f.2.2 with hq | ⟨t, y, hq⟩
      · exact absurd hq hz
      · rw [List.concat_eq_append] at hq
        rw [hq] at vt vg ⊢
        have e : f.2.1 ++ ([32] ++ (t ++ [y])) = (f.2.1 ++ [32] ++ t) ++ [y] := by simp
        rw [e]
        rw [goes_snoc] at vg ⊢
        rw [List.getLast?_concat] at vt ⊢
        exact ⟨vt, vg⟩
  have htr : trim (lineF f) = lineF f := trim_solid (by rw [hhd]; simpa using hxw.2.2.2.2.2.2) hlast.1
  obtain ⟨hf, hs⟩ := wspan f.2.1 (if f.2.2 = [] then [] else [32] ++ f.2.2) nb (by
    split
    · exact .inl rfl
    · exact .inr ⟨32, f.2.2, rfl, rfl⟩)
  rw [← hL] at hf hs
  refine ⟨by simp [h10], ?_, ?_, (fun h => by rw [h] at hhd; cases hhd), (fun h => ?_), hf, ?_⟩
  · rcases List.eq_nil_or_concat (lineF f) with hq | ⟨t, y, hq⟩
    · rw [hq] at hhd
      cases hhd
    · rw [List.concat_eq_append] at hq
      have h9 := hlast.2
      rw [hq] at h9 ⊢
      rw [← List.append_assoc, goes_snoc]
      rw [goes_snoc] at h9
      exact h9
  · unfold said
    have ha : ahead ([32, 32] ++ lineF f) = [32, 32] ++ lineF f := ahead_of_no _ (by simp [h59])
    have ht : trim ([32, 32] ++ lineF f) = lineF f := by
      have := trim_pad [32, 32] (lineF f) [] (by decide) (by simp)
      rw [List.append_nil, htr] at this
      exact this
    rw [ha, ht, hhd, if_neg]
    intro e
    injection e with e
    exact hxw.2.2.2.1 e
  · rw [h] at hhd
    injection hhd with hhd
    exact hxw.2.2.2.2.2.1 hhd.symm
  · rw [hs]
    split
    · rename_i hz
      rw [hz]
      rfl
    · have := trim_pad [32] f.2.2 [] (by decide) (by simp)
      rw [List.append_nil] at this
      rw [this]
      exact trim_solid vh vt
/-! What is told is read. -/
def reno : Nat → List Fd → List Fd
  | _, [] => []
  | i, f :: r => (i + 1, f.2.1, f.2.2) :: reno (i + 1) r
def renB : Nat → List Bk → List Bk
  | _, [] => []
  | i, b :: r => (i + 1, b.2.1, reno (i + 1) b.2.2) :: renB (i + b.2.2.length + 2) r
theorem reno_len : ∀ (l : List Fd) (i : Nat), (reno i l).length = l.length
  | [], _ => rfl
  | _ :: r, i => by rw [reno, List.length_cons, reno_len r, List.length_cons]
theorem prs_fields : ∀ (fs acc : List Fd) (i a : Nat) (k : Tx) (out : List Bk) (R : List Tx),
    (∀ f ∈ fs, wordT f.2.1 = true ∧ badV f = false ∧ (lineF f).length ≤ 4096) → twice fs = false → (∀ f ∈ fs, ∀ g ∈ acc, g.2.1 ≠ f.2.1) → acc.length + fs.length ≤ 64 →
    prs (num8 i (fs.map lineF ++ R)) out (some (a, k, acc)) = prs (num8 (i + fs.length) R) out (some (a, k, acc ++ reno i fs))
  | [], acc, i, a, k, out, R, _, _, _, _ => by simp [reno]
  | f :: fs, acc, i, a, k, out, R, h, ht, hd, hl => by
    obtain ⟨hw, hv, hll⟩ := h f (by simp)
    obtain ⟨_, _, _, _, h125, hf, hs⟩ := lineF_facts hw hv hll
    have hdef := (badV_facts hv).2.2.1
    have hnot : hasN (a, k, acc) f.2.1 = false := by
      unfold hasN
      rw [List.any_eq_false]
      intro g hg
      have := hd f (by simp) g hg
      simpa using this
    have hlen : ¬ 64 ≤ acc.length := by simp at hl; omega
    unfold twice at ht
    simp only [Bool.or_eq_false_iff, List.any_eq_false, beq_iff_eq] at ht
    rw [List.map_cons, List.cons_append, num8, prs, if_neg h125, hf, if_neg (fun e => hdef e.1), if_neg (by rw [hw]; simp), if_neg (by rw [hnot]; simp), if_neg hlen, hs,
      prs_fields fs (acc ++ [(i + 1, f.2.1, f.2.2)]) (i + 1) a k out R (fun g hg => h g (by simp [hg])) ht.2 ?_ (by simp at hl ⊢; omega)]
    · rw [reno, List.append_assoc, List.length_cons]
      congr 2
      omega
    · intro g hg x hx
      rcases List.mem_append.1 hx with hx | hx
      · exact hd g (by simp [hg]) x hx
      · rw [List.mem_singleton.1 hx]
        exact fun e => ht.1 g hg e.symm
/-- A block's lines as they are read. -/
def readB (b : Bk) : List Tx := headL b.2.1 :: (b.2.2.map lineF) ++ [[125]]
theorem prs_blocks : ∀ (l : List Bk) (i : Nat) (out : List Bk),
    (∀ b ∈ l, wordT b.2.1 = true ∧ (∀ f ∈ b.2.2, wordT f.2.1 = true ∧ badV f = false ∧ (lineF f).length ≤ 4096) ∧ twice b.2.2 = false ∧ b.2.2.length ≤ 64) → out.length + l.length ≤ 1024 →
    prs (num8 i (l.flatMap readB)) out none = (out ++ renB i l, 0, 0)
  | [], i, out, _, _ => by simp [num8, prs, renB]
  | b :: l, i, out, h, hl => by
    obtain ⟨hw, hf, ht, hn⟩ := h b (by simp)
    have hH := (headL_facts hw).2.2.2.2.2
    have hlen : ¬ 1024 ≤ out.length := by simp at hl; omega
    have e : (b :: l).flatMap readB = headL b.2.1 :: (b.2.2.map lineF ++ ([125] :: l.flatMap readB)) := by simp [readB]
    rw [e, num8, prs, hH]
    simp only []
    rw [if_neg (by rw [hw]; simp), if_neg hlen, prs_fields b.2.2 [] (i + 1) (i + 1) b.2.1 out _ hf ht (fun f _ g hg => by cases hg) (by simpa using hn), num8, prs, if_pos rfl, prs_blocks l _ _ (fun x hx => h x (by simp [hx])) (by simp at hl ⊢; omega), renB, List.append_assoc]
    have ei : i + 1 + b.2.2.length + 1 = i + b.2.2.length + 2 := by omega
    rw [ei]
    rfl
theorem said_lines (b : Bk) (hw : wordT b.2.1 = true) (hf : ∀ f ∈ b.2.2, wordT f.2.1 = true ∧ badV f = false ∧ (lineF f).length ≤ 4096) :
    (linesB b).map said = readB b ∧ (∀ p ∈ linesB b, 10 ∉ p ∧ goes p = false) ∧ ∀ q ∈ readB b, q ≠ [] ∧ q.length ≤ 4096 := by
  have hH := headL_facts hw
  have s125 : said [125] = [125] := by decide
  refine ⟨?_, ?_, ?_⟩
  · unfold linesB readB
    rw [List.map_append, List.map_cons, List.map_map]
    have e1 : said (defineT ++ [32] ++ b.2.1 ++ [32, 123]) = headL b.2.1 := hH.2.2.1
    have e2 : b.2.2.map (said ∘ fun f => [32, 32] ++ lineF f) = b.2.2.map lineF := List.map_congr_left fun f hm => (lineF_facts (hf f hm).1 (hf f hm).2.1 (hf f hm).2.2).2.2.1
    rw [e1, e2, List.map_cons, s125]
    rfl
  · intro p hp
    unfold linesB at hp
    rcases List.mem_append.1 hp with hp | hp
    · rcases List.mem_cons.1 hp with rfl | hp
      · exact ⟨hH.1, hH.2.1⟩
      · obtain ⟨f, hm, rfl⟩ := List.mem_map.1 hp
        have := lineF_facts (hf f hm).1 (hf f hm).2.1 (hf f hm).2.2
        exact ⟨this.1, this.2.1⟩
    · rw [List.mem_singleton.1 hp]
      decide
  · intro q hq
    unfold readB at hq
    rcases List.mem_append.1 hq with hq | hq
    · rcases List.mem_cons.1 hq with rfl | hq
      · exact ⟨hH.2.2.2.1, hH.2.2.2.2.1⟩
      · obtain ⟨f, hm, rfl⟩ := List.mem_map.1 hq
        have := lineF_facts (hf f hm).1 (hf f hm).2.1 (hf f hm).2.2
        exact ⟨this.2.2.2.1, (hf f hm).2.2⟩
    · rw [List.mem_singleton.1 hq]
      exact ⟨by decide, by decide⟩
theorem flat_said : ∀ l : List Bk, (∀ b ∈ l, (linesB b).map said = readB b) → (l.flatMap linesB).map said = l.flatMap readB
  | [], _ => rfl
  | b :: l, h => by
    rw [List.flatMap_cons, List.flatMap_cons, List.map_append, h b (by simp), flat_said l fun x hx => h x (by simp [hx])]
theorem parse_text (l : List Bk) (h : Told9 l) : parseT (textB l) = (renB 0 l, 0, 0) := by
  have hF : ∀ b ∈ l, ∀ f ∈ b.2.2, wordT f.2.1 = true ∧ badV f = false ∧ (lineF f).length ≤ 4096 := fun b hb f hf => ⟨h.names b hb f hf, h.vals b hb f hf, h.short b hb f hf⟩
  have hA : ans (textB l) = (num8 0 (l.flatMap readB), 0, 0) := by
    unfold ans textB
    rw [if_neg (by have := h.small; unfold textB at this; omega), whole_lay9, num8_append, scan_said (l.flatMap linesB) (l.flatMap readB) 0 [] _ ?_ ?_, List.nil_append]
    · exact scan_two _ _ _
    · exact flat_said l fun b hb => (said_lines b (h.kinds b hb) (hF b hb)).1
    · intro q hq
      obtain ⟨b, hb, hq⟩ := List.mem_flatMap.1 hq
      exact (said_lines b (h.kinds b hb) (hF b hb)).2.2 q hq
    · intro p hp
      obtain ⟨b, hb, hp⟩ := List.mem_flatMap.1 hp
      exact (said_lines b (h.kinds b hb) (hF b hb)).2.1 p hp
  unfold parseT
  rw [hA, if_neg (by simp)]
  have := prs_blocks l 0 [] (fun b hb => ⟨h.kinds b hb, hF b hb, h.once b hb, h.fewF b hb⟩) (by simpa using h.few)
  rw [List.nil_append] at this
  exact this
/-! Blocks as a text, with the error's number. -/
def longB (b : Bk) : Bool := b.2.2.any fun f => decide (4096 < (lineF f).length)
def textT (l : List Bk) : Tx × Nat :=
  if l.any (fun b => !wordT b.2.1 || b.2.2.any fun f => !wordT f.2.1) = true then ([], 11)
  else if l.any (fun b => b.2.2.any badV) = true then ([], 3)
  else if l.any (fun b => twice b.2.2) = true then ([], 7)
  else if 1024 < l.length then ([], 10)
  else if l.any (fun b => decide (64 < b.2.2.length)) = true then ([], 10)
  else if l.any longB = true ∨ 65536 < (textB l).length then ([], 2)
  else (textB l, 0)
theorem any_no {α : Type} {L : List α} {p : α → Bool} (h : ¬ L.any p = true) : ∀ x ∈ L, p x = false := by
  intro x hx
  cases hp : p x
  · rfl
  · exact absurd (List.any_eq_true.2 ⟨x, hx, hp⟩) h
theorem textT_told {l : List Bk} {t : Tx} (h : textT l = (t, 0)) : Told9 l ∧ t = textB l := by
  unfold textT at h
  split at h
  · cases h
  · rename_i h1
    split at h
    · cases h
    · rename_i h2
      split at h
      · cases h
      · rename_i h3
        split at h
        · cases h
        · rename_i h4
          split at h
          · cases h
          · rename_i h5
            split at h
            · cases h
            · rename_i h6
              injection h with ht _
              have g1 := any_no h1
              have g2 := any_no h2
              have g3 := any_no h3
              have g5 := any_no h5
              have g6 := any_no (fun e => h6 (.inl e))
              refine ⟨⟨fun b hb => ?_, fun b hb f hf => ?_, fun b hb f hf => ?_, fun b hb => g3 b hb, by omega, fun b hb => ?_, fun b hb f hf => ?_, Nat.le_of_not_lt fun e => h6 (.inr e)⟩, ht.symm⟩
              · have := g1 b hb
                simp only [Bool.or_eq_false_iff, Bool.not_eq_false'] at this
                exact this.1
              · have := g1 b hb
                simp only [Bool.or_eq_false_iff, Bool.not_eq_false'] at this
                have := any_no (by rw [this.2]; simp) f hf
                simpa using this
              · exact any_no (by rw [g2 b hb]; simp) f hf
              · have := g5 b hb
                simpa using this
              · have := any_no (by have h7 := g6 b hb; unfold longB at h7; rw [h7]; simp) f hf
                simpa using this
theorem told_textT {l : List Bk} (h : Told9 l) : textT l = (textB l, 0) := by
  unfold textT
  have yes : ∀ {α : Type} {L : List α} {p : α → Bool}, (∀ x ∈ L, p x = false) → ¬ L.any p = true := fun {α L p} hp e => by
    obtain ⟨x, hx, h1⟩ := List.any_eq_true.1 e
    rw [hp x hx] at h1
    cases h1
  rw [if_neg (yes fun b hb => ?_), if_neg (yes fun b hb => ?_), if_neg (yes fun b hb => h.once b hb), if_neg (by have := h.few; omega), if_neg (yes fun b hb => ?_), if_neg ?_]
  · rintro (e | e)
    · exact yes (fun b hb => by
        unfold longB
        rw [List.any_eq_false]
        intro f hf
        have := h.short b hb f hf
        simpa using this) e
    · have := h.small
      omega
  · have := h.fewF b hb
    simpa using this
  · rw [List.any_eq_false]
    intro f hf
    rw [h.vals b hb f hf]
    simp
  · rw [h.kinds b hb]
    simp only [Bool.not_true, Bool.false_or]
    rw [List.any_eq_false]
    intro f hf
    rw [h.names b hb f hf]
    simp
/-! Blocks but for where they stand. -/
def samB (l : List Bk) : List (Tx × List (Tx × Tx)) := l.map fun b => (b.2.1, b.2.2.map fun f => f.2)
theorem reno_sam : ∀ (l : List Fd) (i : Nat), (reno i l).map (fun f => f.2) = l.map fun f => f.2
  | [], _ => rfl
  | f :: r, i => by rw [reno, List.map_cons, List.map_cons, reno_sam r]
theorem renB_sam : ∀ (l : List Bk) (i : Nat), samB (renB i l) = samB l
  | [], _ => rfl
  | b :: r, i => by
    have := renB_sam r (i + b.2.2.length + 2)
    unfold samB at this ⊢
    rw [renB, List.map_cons, List.map_cons, this]
    simp only [reno_sam]
/-- A block's lines by what does not hang on where it stands. -/
theorem sam_lines : ∀ (a b : List Bk), samB a = samB b → textB a = textB b := fun a b h => by
  have key : ∀ b : Bk, linesB b = (fun x : Tx × List (Tx × Tx) => (defineT ++ [32] ++ x.1 ++ [32, 123]) :: (x.2.map fun f => [32, 32] ++ lineF (0, f)) ++ [[125]]) (b.2.1, b.2.2.map fun f => f.2) := fun b => by
    unfold linesB
    simp only [List.map_map]
    rfl
  have hl : ∀ l : List Bk, l.flatMap linesB = (samB l).flatMap fun x : Tx × List (Tx × Tx) => (defineT ++ [32] ++ x.1 ++ [32, 123]) :: (x.2.map fun f => [32, 32] ++ lineF (0, f)) ++ [[125]] := fun l => by
    unfold samB
    induction l with
    | nil => rfl
    | cons b l ih => rw [List.flatMap_cons, List.map_cons, List.flatMap_cons, ih, key b]
  unfold textB
  rw [hl, hl, h]
theorem reno_mem : ∀ (l : List Fd) (i : Nat) (f : Fd), f ∈ reno i l → ∃ f0 ∈ l, f.2 = f0.2
  | g :: r, i, f, h => by
    rw [reno] at h
    rcases List.mem_cons.1 h with rfl | h
    · exact ⟨g, by simp, rfl⟩
    · obtain ⟨f0, h1, h2⟩ := reno_mem r (i + 1) f h
      exact ⟨f0, by simp [h1], h2⟩
theorem reno_any (n : Tx) : ∀ (l : List Fd) (i : Nat), (reno i l).any (fun g => g.2.1 == n) = l.any (fun g => g.2.1 == n)
  | [], _ => rfl
  | g :: r, i => by rw [reno, List.any_cons, List.any_cons, reno_any n r]
theorem reno_twice : ∀ (l : List Fd) (i : Nat), twice (reno i l) = twice l
  | [], _ => rfl
  | g :: r, i => by rw [reno, twice, twice, reno_twice r, reno_any]
theorem renB_mem : ∀ (l : List Bk) (i : Nat) (b : Bk), b ∈ renB i l → ∃ b0 ∈ l, ∃ j, b = (j, b0.2.1, reno j b0.2.2)
  | g :: r, i, b, h => by
    rw [renB] at h
    rcases List.mem_cons.1 h with rfl | h
    · exact ⟨g, by simp, _, rfl⟩
    · obtain ⟨b0, h1, h2⟩ := renB_mem r _ b h
      exact ⟨b0, by simp [h1], h2⟩
theorem renB_len : ∀ (l : List Bk) (i : Nat), (renB i l).length = l.length
  | [], _ => rfl
  | _ :: r, i => by rw [renB, List.length_cons, List.length_cons, renB_len r]
theorem badV_sam {f g : Fd} (h : f.2 = g.2) : badV f = badV g := by unfold badV; rw [h]
theorem lineF_sam {f g : Fd} (h : f.2 = g.2) : lineF f = lineF g := by unfold lineF; rw [h]
theorem told_renB (l : List Bk) (i : Nat) (h : Told9 l) : Told9 (renB i l) where
  kinds := fun b hb => by
    obtain ⟨b0, h0, j, rfl⟩ := renB_mem l i b hb
    exact h.kinds b0 h0
  names := fun b hb f hf => by
    obtain ⟨b0, h0, j, rfl⟩ := renB_mem l i b hb
    obtain ⟨f0, h1, h2⟩ := reno_mem _ _ f hf
    rw [h2]
    exact h.names b0 h0 f0 h1
  vals := fun b hb f hf => by
    obtain ⟨b0, h0, j, rfl⟩ := renB_mem l i b hb
    obtain ⟨f0, h1, h2⟩ := reno_mem _ _ f hf
    rw [badV_sam h2]
    exact h.vals b0 h0 f0 h1
  once := fun b hb => by
    obtain ⟨b0, h0, j, rfl⟩ := renB_mem l i b hb
    exact (reno_twice b0.2.2 j).trans (h.once b0 h0)
  few := by rw [renB_len]; exact h.few
  fewF := fun b hb => by
    obtain ⟨b0, h0, j, rfl⟩ := renB_mem l i b hb
    exact Nat.le_trans (Nat.le_of_eq (reno_len b0.2.2 j)) (h.fewF b0 h0)
  short := fun b hb f hf => by
    obtain ⟨b0, h0, j, rfl⟩ := renB_mem l i b hb
    obtain ⟨f0, h1, h2⟩ := reno_mem _ _ f hf
    rw [lineF_sam h2]
    exact h.short b0 h0 f0 h1
  small := by rw [sam_lines _ _ (renB_sam l i)]; exact h.small
theorem back9 {l : List Bk} {t : Tx} (h : textT l = (t, 0)) : parseT t = (renB 0 l, 0, 0) ∧ samB (renB 0 l) = samB l ∧ textT (renB 0 l) = (t, 0) := by
  obtain ⟨h1, rfl⟩ := textT_told h
  refine ⟨parse_text l h1, renB_sam l 0, ?_⟩
  rw [told_textT (told_renB l 0 h1), sam_lines _ _ (renB_sam l 0)]
/-! Empty lines ahead. -/
def shL (n : Nat) (r : List (Nat × Tx)) : List (Nat × Tx) := r.map fun p => (p.1 + n, p.2)
def shB (n : Nat) (b : Bk) : Bk := (b.1 + n, b.2.1, b.2.2.map fun f => (f.1 + n, f.2))
def shR {α : Type} (n : Nat) (f : α → α) (R : List α × Nat × Nat) : List α × Nat × Nat := (R.1.map f, (if R.2.2 = 0 then R.2.1 else R.2.1 + n), R.2.2)
theorem jn_shift (n : Nat) : ∀ (ps : List Tx) (i a : Nat) (t : Tx), jn ps (i + n) (a + n) t = shL n (jn ps i a t)
  | [], _, _, _ => rfl
  | p :: ps, i, a, t => by
    rw [jn, jn]
    have h1 := jn_shift n ps (i + 1) a (t ++ p.dropLast)
    have h2 := jn_shift n ps (i + 1) (i + 2) []
    rw [show i + 1 + n = i + n + 1 by omega] at h1 h2
    rw [show i + 2 + n = i + n + 2 by omega] at h2
    split
    · exact h1
    · rw [h2]
      rfl
theorem scan_shift (n : Nat) : ∀ (r acc : List (Nat × Tx)), scan (shL n acc) (shL n r) = shR n (fun p => (p.1 + n, p.2)) (scan acc r)
  | [], acc => rfl
  | p :: r, acc => by
    have e : shL n (p :: r) = (p.1 + n, p.2) :: shL n r := rfl
    rw [e, scan, scan]
    split
    · rfl
    · split
      · exact scan_shift n r acc
      · have := scan_shift n r (acc ++ [(p.1, said p.2)])
        unfold shL at this ⊢
        rw [List.map_append] at this
        exact this
theorem hasN_shift (n : Nat) (b : Bk) (x : Tx) : hasN (shB n b) x = hasN b x := by
  unfold hasN shB
  rw [List.any_map]
  rfl
theorem prs_shift (n : Nat) : ∀ (r : List (Nat × Tx)) (out : List Bk) (cur : Option Bk), prs (shL n r) (out.map (shB n)) (cur.map (shB n)) = shR n (shB n) (prs r out cur)
  | [], out, none => rfl
  | [], out, some b => rfl
  | p :: r, out, none => by
    have e : shL n (p :: r) = (p.1 + n, p.2) :: shL n r := rfl
    rw [e, Option.map_none, prs, prs]
    cases headT p.2 with
    | none => rfl
    | some k =>
      simp only []
      split
      · rfl
      · rw [List.length_map]
        split
        · rfl
        · exact prs_shift n r out (some (p.1, k, []))
  | p :: r, out, some b => by
    have e : shL n (p :: r) = (p.1 + n, p.2) :: shL n r := rfl
    rw [e, Option.map_some, prs, prs]
    simp only [hasN_shift]
    split
    · have := prs_shift n r (out ++ [b]) none
      rw [List.map_append] at this
      exact this
    · split
      · rfl
      · split
        · rfl
        · split
          · rfl
          · have hl : (shB n b).2.2.length = b.2.2.length := by unfold shB; rw [List.length_map]
            rw [hl]
            split
            · rfl
            · have := prs_shift n r out (some (b.1, b.2.1, b.2.2 ++ [(p.1, fst9 p.2, trim (snd9 p.2))]))
              rw [Option.map_some] at this
              unfold shB at this ⊢
              simp only [List.map_append, List.map_cons, List.map_nil] at this
              exact this
theorem ans_shift (n : Nat) (l : Tx) (h : l.length + n ≤ 65536) : ans (List.replicate n 10 ++ l) = shR n (fun p => (p.1 + n, p.2)) (ans l) := by
  unfold ans
  rw [if_neg (by simp; omega), if_neg (by omega)]
  unfold whole
  have e : List.replicate n 10 ++ l ++ [10] = lay (List.replicate n []) ++ (l ++ [10]) := by rw [lay_nl]; simp
  rw [e, cut_lay _ _ (fun p hp => by obtain ⟨_, rfl⟩ := List.mem_replicate.1 hp; decide)]
  have h1 := jn_nl n (cutAt 10 (l ++ [10])) 0 []
  simp only [Nat.zero_add] at h1
  have h2 := jn_shift n (cutAt 10 (l ++ [10])) 0 1 []
  rw [Nat.zero_add, Nat.add_comm 1 n] at h2
  rw [h1, h2]
  exact scan_shift n _ []
theorem scan_at : ∀ (r acc : List (Nat × Tx)), (scan acc r).2.2 = 0 → (scan acc r).2.1 = 0
  | [], _, _ => rfl
  | p :: r, acc, h => by
    rw [scan] at h ⊢
    split at h
    · cases h
    · rename_i h1
      rw [if_neg h1]
      split at h
      · rename_i h2
        rw [if_pos h2]
        exact scan_at r acc h
      · rename_i h2
        rw [if_neg h2]
        exact scan_at r _ h
theorem parse_shift (n : Nat) (l : Tx) (h : l.length + n ≤ 65536) : parseT (List.replicate n 10 ++ l) = shR n (shB n) (parseT l) := by
  unfold parseT
  rw [ans_shift n l h]
  by_cases h0 : (ans l).2.2 = 0
  · rw [if_neg (by unfold shR; simp [h0]), if_neg (by rw [h0]; simp)]
    exact prs_shift n (ans l).1 [] none
  · rw [if_pos (by unfold shR; simpa using h0), if_pos h0]
    unfold shR
    simp only [if_neg h0]
    rfl
/-! Numbers ascend. -/
theorem jn_asc : ∀ (ps : List Tx) (i a : Nat) (t : Tx), a ≤ i + 1 → ((jn ps i a t).map (·.1)).Pairwise (· < ·) ∧ ∀ x ∈ (jn ps i a t).map (·.1), a ≤ x
  | [], _, _, _, _ => ⟨List.Pairwise.nil, fun x hx => by cases hx⟩
  | p :: ps, i, a, t, h => by
    rw [jn]
    split
    · exact jn_asc ps (i + 1) a _ (by omega)
    · obtain ⟨h1, h2⟩ := jn_asc ps (i + 1) (i + 2) [] (by omega)
      rw [List.map_cons]
      refine ⟨List.Pairwise.cons (fun x hx => ?_) h1, fun x hx => ?_⟩
      · have := h2 x hx
        show a < x
        omega
      · rcases List.mem_cons.1 hx with rfl | hx
        · exact Nat.le_refl _
        · have := h2 x hx
          omega
theorem scan_sub : ∀ (r acc : List (Nat × Tx)), (scan acc r).2.2 = 0 → ((scan acc r).1.map (·.1)).Sublist (acc.map (·.1) ++ r.map (·.1))
  | [], acc, _ => by simp [scan]
  | p :: r, acc, h => by
    rw [scan] at h ⊢
    split at h
    · cases h
    · rename_i h1
      rw [if_neg h1]
      split at h
      · rename_i h2
        rw [if_pos h2]
        refine (scan_sub r acc h).trans ?_
        rw [List.map_cons]
        exact List.Sublist.append_left (List.sublist_cons_self _ _) _
      · rename_i h2
        rw [if_neg h2]
        have := scan_sub r _ h
        rw [List.map_append, List.append_assoc] at this
        exact this
def numsB (b : Bk) : List Nat := b.1 :: b.2.2.map (·.1)
theorem prs_sub : ∀ (r : List (Nat × Tx)) (out : List Bk) (cur : Option Bk), (prs r out cur).2.2 = 0 → ((prs r out cur).1.flatMap numsB).Sublist (out.flatMap numsB ++ (match cur with | none => [] | some b => numsB b) ++ r.map (·.1))
  | [], out, none, _ => by simp [prs]
  | [], out, some b, h => by cases h
  | p :: r, out, none, h => by
    rw [prs] at h ⊢
    cases hk : headT p.2 with
    | none => rw [hk] at h; cases h
    | some k =>
      rw [hk] at h
      simp only [] at h ⊢
      split at h
      · cases h
      · rename_i h1
        rw [if_neg h1]
        split at h
        · cases h
        · rename_i h2
          rw [if_neg h2]
          have := prs_sub r out (some (p.1, k, [])) h
          simpa [numsB] using this
  | p :: r, out, some b, h => by
    rw [prs] at h ⊢
    split at h
    · rename_i h1
      rw [if_pos h1]
      have := prs_sub r (out ++ [b]) none h
      refine this.trans ?_
      simp only [List.flatMap_append, List.flatMap_cons, List.flatMap_nil, List.append_nil, List.map_cons]
      exact List.Sublist.append_left (List.sublist_cons_self _ _) _
    · rename_i h1
      rw [if_neg h1]
      split at h
      · cases h
      · rename_i h2
        rw [if_neg h2]
        split at h
        · cases h
        · rename_i h3
          rw [if_neg h3]
          split at h
          · cases h
          · rename_i h4
            rw [if_neg h4]
            split at h
            · cases h
            · rename_i h5
              rw [if_neg h5]
              have := prs_sub r out _ h
              simpa [numsB] using this
theorem parse_asc (l : Tx) (h : (parseT l).2.2 = 0) : ((parseT l).1.flatMap numsB).Pairwise (· < ·) ∧ ∀ x ∈ (parseT l).1.flatMap numsB, 1 ≤ x := by
  have h0 : (ans l).2.2 = 0 := by
    unfold parseT at h
    split at h
    · rename_i h1
      exact absurd h h1
    · rename_i h1
      exact Classical.not_not.1 h1
  have hp : parseT l = prs (ans l).1 [] none := by unfold parseT; rw [if_neg (by rw [h0]; simp)]
  rw [hp] at h ⊢
  have s1 := prs_sub (ans l).1 [] none h
  have ha : ∃ r, (ans l).1 = (scan [] r).1 ∧ (scan [] r).2.2 = 0 ∧ (r = [] ∨ r = whole l) := by
    unfold ans at h0 ⊢
    split
    · rename_i h1
      rw [if_pos h1] at h0
      cases h0
    · rename_i h1
      rw [if_neg h1] at h0
      exact ⟨whole l, rfl, h0, .inr rfl⟩
  obtain ⟨r, e1, e2, e3⟩ := ha
  have s2 := scan_sub r [] e2
  have hr : (r.map (·.1)).Pairwise (· < ·) ∧ ∀ x ∈ r.map (·.1), 1 ≤ x := by
    rcases e3 with rfl | rfl
    · exact ⟨List.Pairwise.nil, fun x hx => by cases hx⟩
    · exact jn_asc _ 0 1 [] (by omega)
  simp only [List.flatMap_nil, List.nil_append, List.map_nil] at s1 s2
  rw [e1] at s1 ⊢
  have s3 := s1.trans s2
  exact ⟨hr.1.sublist s3, fun x hx => hr.2 x (s3.subset hx)⟩
end Go.Proofs.YtbeehedppofpnaaGreatDoor

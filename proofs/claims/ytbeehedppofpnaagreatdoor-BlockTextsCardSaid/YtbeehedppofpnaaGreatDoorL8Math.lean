/- Layer 8, plain: what the laws' own texts say. -/
import Derived.Test.YtbeehedppofpnaaGreatDoorLxC
namespace Go.Proofs.YtbeehedppofpnaaGreatDoor

/-- Lines, each with its end. -/
def lay (ps : List Tx) : Tx := ps.flatMap fun p => p ++ [10]
theorem lay_append (a b : List Tx) : lay (a ++ b) = lay a ++ lay b := List.flatMap_append
theorem lay_one (p : Tx) : lay [p] = p ++ [10] := by simp [lay]
theorem cut_lay : ∀ (ps : List Tx) (r : Tx), (∀ p ∈ ps, 10 ∉ p) → cutAt 10 (lay ps ++ r) = ps ++ cutAt 10 r
  | [], r, _ => rfl
  | p :: ps, r, h => by
    have e : lay (p :: ps) ++ r = p ++ 10 :: (lay ps ++ r) := by simp [lay]
    rw [e, cut_of_no 10 p _ (h p (by simp)), cut_lay ps r fun q hq => h q (by simp [hq])]
    rfl
/-- Lines with their numbers. -/
def num8 : Nat → List Tx → List (Nat × Tx)
  | _, [] => []
  | i, p :: ps => (i + 1, p) :: num8 (i + 1) ps
theorem jn_num8 : ∀ (ps : List Tx) (i : Nat), (∀ p ∈ ps, goes p = false) → jn ps i (i + 1) [] = num8 i ps
  | [], _, _ => rfl
  | p :: ps, i, h => by
    rw [jn, h p (by simp), if_neg (by simp), num8, jn_num8 ps (i + 1) fun q hq => h q (by simp [hq])]
    rfl
theorem num8_append : ∀ (a b : List Tx) (i : Nat), num8 i (a ++ b) = num8 i a ++ num8 (i + a.length) b
  | [], _, _ => rfl
  | p :: a, b, i => by
    rw [List.cons_append, num8, num8, num8_append a b (i + 1), List.length_cons, List.cons_append]
    congr 3
    omega
theorem goes_no {p : Tx} (h : 92 ∉ p) : goes p = false := by
  rcases List.eq_nil_or_concat p with rfl | ⟨t, x, rfl⟩
  · rfl
  · rw [List.concat_eq_append] at h ⊢
    rw [goes_snoc, beq_eq_false_iff_ne]
    intro e
    exact h (by simp [e])
theorem whole_lay (ps : List Tx) (h : ∀ p ∈ ps, 10 ∉ p ∧ 92 ∉ p) : whole (lay ps) = num8 0 (ps ++ [[], []]) := by
  unfold whole
  rw [cut_lay ps [10] fun p hp => (h p hp).1]
  have e : cutAt 10 [10] = [[], []] := rfl
  rw [e]
  refine jn_num8 _ 0 fun p hp => ?_
  rcases List.mem_append.1 hp with hp | hp
  · exact goes_no (h p hp).2
  · simp only [List.mem_cons, List.not_mem_nil, or_false, or_self] at hp
    subst hp
    rfl
theorem scan_skip (acc r : List (Nat × Tx)) (a : Nat) (t : Tx) (h : said t = []) : scan acc ((a, t) :: r) = scan acc r := by
  rw [scan, h, if_neg (by simp), if_pos rfl]
theorem scan_push (acc r : List (Nat × Tx)) (a : Nat) (t : Tx) (h : said t ≠ []) (hl : (said t).length ≤ 4096) : scan acc ((a, t) :: r) = scan (acc ++ [(a, said t)]) r := by
  rw [scan, if_neg (by simpa using hl), if_neg h]
theorem scan_two (acc : List (Nat × Tx)) (a b : Nat) : scan acc [(a, []), (b, [])] = (acc, 0, 0) := by
  rw [scan_skip _ _ _ _ said_nil, scan_skip _ _ _ _ said_nil, scan]
/-! LexPlain. -/
def deck (x : Tx) : List Tx := [[32, 9] ++ x ++ [32, 13, 59] ++ x, [32], [35, 32, 120]]
theorem said_deck (x : Tx) : said ([32, 9] ++ x ++ [32, 13, 59] ++ x) = said x := by
  have hb1 : ∀ c ∈ ([32, 9] : Tx), blk c = true := by decide
  have hb2 : ∀ c ∈ ([32, 13] : Tx), blk c = true := by decide
  have e : trim (ahead ([32, 9] ++ x ++ [32, 13, 59] ++ x)) = trim (ahead x) := by
    have e1 : ([32, 9] : Tx) ++ x ++ [32, 13, 59] ++ x = [32, 9] ++ (x ++ ([32, 13] ++ 59 :: x)) := by simp
    rw [e1, ahead_pre _ _ (by decide)]
    rcases ahead_ex x with ⟨h1, h2⟩ | ⟨r, hr⟩
    · rw [ahead_pre x _ h1, ahead_at [32, 13] x (by decide), h2, ← List.append_assoc, trim_pad _ _ _ hb1 hb2]
    · have e2 : ahead (x ++ ([32, 13] ++ 59 :: x)) = ahead x := by
        conv => lhs; rw [hr, List.append_assoc, List.cons_append]
        exact ahead_at _ _ (ahead_no _)
      rw [e2]
      have := trim_pad [32, 9] (ahead x) [] hb1 (by simp)
      rw [List.append_nil] at this
      exact this
  unfold said
  rw [e]
def plF (p : Nat × Tx) : Nat × Tx := (3 * p.1 - 2, p.2)
theorem plain_scan : ∀ (l : List Tx) (i : Nat) (acc : List (Nat × Tx)), (∀ x ∈ l, x.length ≤ 100) → (∀ p ∈ acc, 1 ≤ p.1 ∧ p.1 ≤ i) →
    ∃ L, scan acc (num8 i (l ++ [[], []])) = (L, 0, 0) ∧ scan (acc.map plF) (num8 (3 * i) (l.flatMap deck ++ [[], []])) = (L.map plF, 0, 0) ∧ ∀ p ∈ L, 1 ≤ p.1 ∧ p.1 ≤ i + l.length
  | [], i, acc, _, ha => ⟨acc, scan_two _ _ _, scan_two _ _ _, ha⟩
  | x :: l, i, acc, hx, ha => by
    have hxl : (said x).length ≤ 4096 := Nat.le_trans (said_len x) (Nat.le_trans (hx x (by simp)) (by omega))
    have e1 : num8 i (x :: l ++ [[], []]) = (i + 1, x) :: num8 (i + 1) (l ++ [[], []]) := rfl
    have e2 : num8 (3 * i) ((x :: l).flatMap deck ++ [[], []]) = (3 * i + 1, [32, 9] ++ x ++ [32, 13, 59] ++ x) :: (3 * i + 2, [32]) :: (3 * i + 3, [35, 32, 120]) :: num8 (3 * (i + 1)) (l.flatMap deck ++ [[], []]) := by
      rw [List.flatMap_cons]
      show num8 (3 * i) (_ :: _ :: _ :: _) = _
      rw [num8, num8, num8]
      rfl
    have s1 : said [32] = [] := by decide
    have s2 : said [35, 32, 120] = [] := by decide
    have hsd := said_deck x
    by_cases h0 : said x = []
    · obtain ⟨L, h1, h2, h3⟩ := plain_scan l (i + 1) acc (fun y hy => hx y (by simp [hy])) (fun p hp => ⟨(ha p hp).1, Nat.le_succ_of_le (ha p hp).2⟩)
      refine ⟨L, ?_, ?_, fun p hp => ⟨(h3 p hp).1, by have := (h3 p hp).2; rw [List.length_cons]; omega⟩⟩
      · rw [e1, scan_skip _ _ _ _ h0]
        exact h1
      · rw [e2, scan_skip _ _ _ _ (hsd.trans h0), scan_skip _ _ _ _ s1, scan_skip _ _ _ _ s2]
        exact h2
    · obtain ⟨L, h1, h2, h3⟩ := plain_scan l (i + 1) (acc ++ [(i + 1, said x)]) (fun y hy => hx y (by simp [hy])) (fun p hp => by
        rcases List.mem_append.1 hp with hp | hp
        · exact ⟨(ha p hp).1, Nat.le_succ_of_le (ha p hp).2⟩
        · rw [List.mem_singleton.1 hp]
          exact ⟨Nat.succ_le_succ (Nat.zero_le _), Nat.le_refl _⟩)
      refine ⟨L, ?_, ?_, fun p hp => ⟨(h3 p hp).1, by have := (h3 p hp).2; rw [List.length_cons]; omega⟩⟩
      · rw [e1, scan_push _ _ _ _ h0 hxl]
        exact h1
      · rw [e2, scan_push _ _ _ _ (by rw [hsd]; exact h0) (by rw [hsd]; exact hxl), scan_skip _ _ _ _ s1, scan_skip _ _ _ _ s2, hsd]
        rw [List.map_append] at h2
        have e3 : [((i + 1 : Nat), said x)].map plF = [(3 * i + 1, said x)] := by
          simp only [List.map_cons, List.map_nil, plF]
          congr 2
        rw [e3] at h2
        exact h2
theorem plain_ans (l : List Tx) (hl : l.length ≤ 40) (h : ∀ x ∈ l, 10 ∉ x ∧ 92 ∉ x ∧ x.length ≤ 100) (h1 : (lay l).length ≤ 65536) (h2 : (lay (l.flatMap deck)).length ≤ 65536) :
    ∃ L, ans (lay l) = (L, 0, 0) ∧ ans (lay (l.flatMap deck)) = (L.map plF, 0, 0) ∧ ∀ p ∈ L, 1 ≤ p.1 ∧ p.1 ≤ 40 := by
  obtain ⟨L, e1, e2, e3⟩ := plain_scan l 0 [] (fun x hx => (h x hx).2.2) (fun p hp => by cases hp)
  refine ⟨L, ?_, ?_, fun p hp => ⟨(e3 p hp).1, by have := (e3 p hp).2; omega⟩⟩
  · unfold ans
    rw [if_neg (by omega), whole_lay l fun p hp => ⟨(h p hp).1, (h p hp).2.1⟩]
    exact e1
  · unfold ans
    rw [if_neg (by omega), whole_lay _ fun p hp => ?_]
    · exact e2
    · obtain ⟨x, hx, hp⟩ := List.mem_flatMap.1 hp
      have hx1 := h x hx
      simp only [deck, List.mem_cons, List.not_mem_nil, or_false] at hp
      rcases hp with rfl | rfl | rfl
      · simp [hx1.1, hx1.2.1]
      · decide
      · decide
/-! LexLong. -/
theorem said_long (k : Nat) (hk : 1 ≤ k) : said ([32, 32] ++ List.replicate k 98 ++ [32, 59, 32, 109, 111, 114, 101]) = List.replicate k 98 := by
  have hno : (59 : UInt8) ∉ List.replicate k 98 := by simp
  have hb1 : ∀ c ∈ ([32, 32] : Tx), blk c = true := by decide
  have hb2 : ∀ c ∈ ([32] : Tx), blk c = true := by decide
  obtain ⟨j, rfl⟩ : ∃ j, k = j + 1 := ⟨k - 1, by omega⟩
  have ht : trim (List.replicate (j + 1) 98) = List.replicate (j + 1) 98 := by
    unfold trim
    rw [List.replicate_succ, ldr_cons, if_neg (by decide), ← List.replicate_succ, List.replicate_succ', rdr_snoc, if_neg (by decide)]
  have e : trim (ahead ([32, 32] ++ List.replicate (j + 1) 98 ++ [32, 59, 32, 109, 111, 114, 101])) = List.replicate (j + 1) 98 := by
    have e1 : ([32, 32] : Tx) ++ List.replicate (j + 1) 98 ++ [32, 59, 32, 109, 111, 114, 101] = ([32, 32] ++ List.replicate (j + 1) 98 ++ [32]) ++ 59 :: [32, 109, 111, 114, 101] := by simp
    rw [e1, ahead_at _ _ (by simp), trim_pad _ _ _ hb1 hb2, ht]
  unfold said
  rw [e, List.replicate_succ, if_neg (by simp)]
theorem scan_as : ∀ (m i : Nat) (acc r : List (Nat × Tx)), scan acc (num8 i (List.replicate m [97]) ++ r) = scan (acc ++ num8 i (List.replicate m [97])) r
  | 0, _, acc, r => by simp [num8]
  | m + 1, i, acc, r => by
    have s : said [97] = [97] := by decide
    rw [List.replicate_succ, num8, List.cons_append, scan_push _ _ _ _ (by rw [s]; simp) (by rw [s]; decide), scan_as m (i + 1), s, List.append_assoc]
    rfl
theorem num8_len : ∀ (l : List Tx) (i : Nat), (num8 i l).length = l.length
  | [], _ => rfl
  | _ :: l, i => by rw [num8, List.length_cons, num8_len l, List.length_cons]
theorem long_ans (m k : Nat) (hm : m ≤ 3) (hk : 1 ≤ k) (hk2 : k ≤ 5000) :
    ans (lay (List.replicate m [97] ++ [[32, 32] ++ List.replicate k 98 ++ [32, 59, 32, 109, 111, 114, 101]])) = if 4096 < k then ([], m + 1, 2) else (num8 0 (List.replicate m [97]) ++ [(m + 1, List.replicate k 98)], 0, 0) := by
  have hlen : (lay (List.replicate m [97] ++ [[32, 32] ++ List.replicate k 98 ++ [32, 59, 32, 109, 111, 114, 101]])).length ≤ 65536 := by
    rw [lay_append, lay_one]
    have hj : ∀ j : Fin 4, (lay (List.replicate j.val [97])).length = j.val * 2 := by decide
    have := hj ⟨m, by omega⟩
    simp [this]
    omega
  unfold ans
  rw [if_neg (by omega), whole_lay]
  · rw [List.append_assoc, num8_append, scan_as, List.nil_append, List.length_replicate, Nat.zero_add]
    show scan _ ((m + 1, _) :: num8 (m + 1) [[], []]) = _
    by_cases h : 4096 < k
    · rw [scan, said_long k hk, List.length_replicate, if_pos h, if_pos h]
    · rw [if_neg h, scan_push _ _ _ _ (by rw [said_long k hk]; simp; omega) (by rw [said_long k hk, List.length_replicate]; omega), said_long k hk]
      exact scan_two _ _ _
  · intro p hp
    rcases List.mem_append.1 hp with hp | hp
    · obtain ⟨_, rfl⟩ := List.mem_replicate.1 hp
      decide
    · rw [List.mem_singleton.1 hp]
      simp
/-! LexJoined. -/
def manyT : List Tx → Tx
  | [] => []
  | [p] => p
  | p :: q :: r => p ++ [92, 10] ++ manyT (q :: r)
theorem cut_many : ∀ (l : List Tx) (r : Tx) (i a : Nat) (T : Tx), l ≠ [] → (∀ p ∈ l, 10 ∉ p ∧ 92 ∉ p) → jn (cutAt 10 (manyT l ++ 10 :: r)) i a T = (a, T ++ l.flatten) :: jn (cutAt 10 r) (i + l.length) (i + l.length + 1) []
  | [], _, _, _, _, h, _ => absurd rfl h
  | [p], r, i, a, T, _, h => by
    rw [manyT, cut_of_no 10 p r (h p (by simp)).1, jn, goes_no (h p (by simp)).2, if_neg (by simp)]
    simp
  | p :: q :: l, r, i, a, T, _, h => by
    have e : manyT (p :: q :: l) ++ 10 :: r = (p ++ [92]) ++ 10 :: (manyT (q :: l) ++ 10 :: r) := by simp [manyT]
    have hp := h p (by simp)
    rw [e, cut_of_no 10 (p ++ [92]) _ (by simp [hp.1]), jn, goes_snoc, if_pos (by decide), List.dropLast_concat, cut_many (q :: l) r (i + 1) a (T ++ p) (by simp) (fun x hx => h x (by simp only [List.mem_cons] at hx ⊢; exact .inr hx))]
    simp only [List.flatten_cons, List.append_assoc, List.length_cons]
    congr 2 <;> omega
theorem lay_nl (n : Nat) : lay (List.replicate n []) = List.replicate n 10 := by
  induction n with
  | zero => rfl
  | succ n ih =>
    rw [List.replicate_succ, List.replicate_succ, ← ih]
    simp [lay]
theorem jn_nl (n : Nat) : ∀ (ps : List Tx) (i : Nat) (acc : List (Nat × Tx)), scan acc (jn (List.replicate n [] ++ ps) i (i + 1) []) = scan acc (jn ps (i + n) (i + n + 1) []) := by
  induction n with
  | zero => exact fun ps i acc => rfl
  | succ n ih =>
    intro ps i acc
    rw [List.replicate_succ, List.cons_append, jn, goes_nil, if_neg (by simp), scan_skip _ _ _ _ (by exact said_nil)]
    have := ih ps (i + 1) acc
    rw [show i + 1 + n = i + (n + 1) by omega] at this
    exact this
def lastT : Tx := [108, 97, 115, 116]
theorem join_one (n : Nat) (l : List Tx) (hne : l ≠ []) (h : ∀ p ∈ l, 10 ∉ p ∧ 92 ∉ p) (hlen : (l.flatten).length ≤ 4096) (hn : n ≤ 5) (hmany : (manyT l).length ≤ 60000) :
    ans (List.replicate n 10 ++ manyT l ++ 10 :: lastT) = ((if said l.flatten = [] then [] else [(n + 1, said l.flatten)]) ++ [(n + l.length + 1, lastT)], 0, 0) := by
  unfold ans
  rw [if_neg (by simp [lastT]; omega)]
  unfold whole
  have e : List.replicate n 10 ++ manyT l ++ 10 :: lastT ++ [10] = lay (List.replicate n []) ++ (manyT l ++ 10 :: (lastT ++ [10])) := by
    rw [lay_nl]
    simp
  rw [e, cut_lay _ _ (fun p hp => by obtain ⟨_, rfl⟩ := List.mem_replicate.1 hp; decide)]
  have h1 := jn_nl n (cutAt 10 (manyT l ++ 10 :: (lastT ++ [10]))) 0 []
  simp only [Nat.zero_add] at h1
  rw [h1, cut_many l (lastT ++ [10]) n (n + 1) [] hne h, List.nil_append]
  have e2 : jn (cutAt 10 (lastT ++ [10])) (n + l.length) (n + l.length + 1) [] = [(n + l.length + 1, lastT), (n + l.length + 2, [])] := by
    have : cutAt 10 (lastT ++ [10]) = [lastT, []] := by decide
    rw [this, jn, if_neg (by decide), jn, if_neg (by decide), jn]
    rfl
  have s1 : said lastT = lastT := by decide
  rw [e2]
  have hl : (said l.flatten).length ≤ 4096 := Nat.le_trans (said_len _) hlen
  by_cases h0 : said l.flatten = []
  · rw [scan_skip _ _ _ _ h0, if_pos h0, scan_push _ _ _ _ (by rw [s1]; decide) (by rw [s1]; decide), scan_skip _ _ _ _ said_nil, s1, scan]
  · rw [scan_push _ _ _ _ h0 hl, if_neg h0, scan_push _ _ _ _ (by rw [s1]; decide) (by rw [s1]; decide), scan_skip _ _ _ _ said_nil, s1, scan]
    rfl
end Go.Proofs.YtbeehedppofpnaaGreatDoor

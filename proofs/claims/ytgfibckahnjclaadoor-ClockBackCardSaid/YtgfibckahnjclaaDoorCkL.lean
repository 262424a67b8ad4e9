/- The two Parses agree at every text. -/
import Derived.Test.YtgfibckahnjclaaDoorCkJ
import Derived.Test.YtgfibckahnjclaaDoorCkK
namespace Go.Proofs.YtgfibckahnjclaaDoor
open Go.RowKit

/-- What a text of digits and colons tells: two bytes as a number. -/
theorem num2_of {a b : UInt8} (ha : isDg a = true) (hb : isDg b = true) : ∃ v : Nat, num2 [a, b] = some v ∧ 10 * ((a.toNat : Int) - 48) + ((b.toNat : Int) - 48) = v := by
  refine ⟨(a.toNat - 48) * 10 + (b.toNat - 48), ?_, ?_⟩
  · unfold num2
    simp only
    rw [if_pos (by rw [ha, hb]; rfl)]
  · have h1 := isDg_of ha
    have h2 := isDg_of hb
    omega
/-- A text by its bytes. -/
theorem bytes_eq {s : ByteArray} {l : List UInt8} (h : s.data.toList = l) : s = str l := by
  apply ByteArray.ext
  show s.data = l.toArray
  rw [← h]
theorem chk_d {c : UInt8} {k : Nat} (h : chk c k) (hk : k % 3 ≠ 2) : isDg c = true := by
  unfold chk at h
  rwa [if_neg hk] at h
theorem chk_c {c : UInt8} {k : Nat} (h : chk c k) (hk : k % 3 = 2) : c = 58 := by
  unfold chk at h
  rwa [if_pos hk] at h
/-- pg of eight bytes that stand right. -/
theorem pg_eight {a b c d e f : UInt8} {x y z : Nat} (h1 : num2 [a, b] = some x) (h2 : num2 [c, d] = some y) (h3 : num2 [e, f] = some z) :
    pg (cutAt 58 [a, b, 58, c, d, 58, e, f]) 0 0 = if 60 ≤ y then none else if 60 ≤ z then none else some (3600 * x + 60 * y + z) := by
  obtain ⟨hx, ex⟩ := num2_some h1
  obtain ⟨hy, ey⟩ := num2_some h2
  obtain ⟨hz, ez⟩ := num2_some h3
  have e0 : [a, b, 58, c, d, 58, e, f] = d2 x ++ 58 :: (d2 y ++ 58 :: d2 z) := by rw [← ex, ← ey, ← ez]; rfl
  rw [e0, cut_more x hx, cut_more y hy, cut_end z hz, pg_some _ _ _ _ _ (num2_d2 x hx), if_neg (by omega), pg_some _ _ _ _ _ (num2_d2 y hy)]
  by_cases hy6 : 60 ≤ y
  · rw [if_pos ⟨by omega, hy6⟩, if_pos hy6]
  · rw [if_neg (by omega), if_neg hy6, pg_some _ _ _ _ _ (num2_d2 z hz)]
    by_cases hz6 : 60 ≤ z
    · rw [if_pos ⟨by omega, hz6⟩, if_pos hz6]
    · rw [if_neg (by omega), if_neg hz6]
      unfold pg
      congr 1
      omega
theorem fin_end {x y z : Nat} : fin (if 60 ≤ y then none else if 60 ≤ z then none else some (3600 * x + 60 * y + z)) = refEnd x y z := by
  unfold refEnd
  by_cases hy : 60 ≤ y
  · rw [if_pos hy, if_pos (by omega)]; rfl
  · rw [if_neg hy]
    by_cases hz : 60 ≤ z
    · rw [if_pos hz, if_pos (by omega)]; rfl
    · rw [if_neg hz]
      unfold fin
      simp only
      by_cases hb : 86400 < 3600 * x + 60 * y + z
      · rw [if_pos hb, if_pos (by omega)]
      · rw [if_neg hb, if_neg (by omega)]
        congr 1
/-- Eight bytes of which one stands wrong tell nothing. -/
theorem pg_wrong {l : List UInt8} (hl : l.length = 8) {j : Nat} (hj : j < l.length) (h : ¬ chk l[j] j) : pg (cutAt 58 l) 0 0 = none := by
  cases hp : pg (cutAt 58 l) 0 0 with
  | none => rfl
  | some r =>
    exfalso
    obtain ⟨a, m, s, ha, hm, hs, rfl, _⟩ := pg_form hl hp
    apply h
    have g : ∀ n, n < 100 → isDg (UInt8.ofNat (48 + n / 10)) = true ∧ isDg (UInt8.ofNat (48 + n % 10)) = true := by
      intro n hn
      have h1 : (UInt8.ofNat (48 + n / 10)).toNat = 48 + n / 10 := by rw [UInt8.toNat_ofNat']; omega
      have h2 : (UInt8.ofNat (48 + n % 10)).toNat = 48 + n % 10 := by rw [UInt8.toNat_ofNat']; omega
      unfold isDg
      rw [h1, h2]
      constructor
      · simp; omega
      · simp; omega
    have hj8 : j < 8 := by rw [← hl]; exact hj
    have e : tx8 a m s = [UInt8.ofNat (48 + a / 10), UInt8.ofNat (48 + a % 10), 58, UInt8.ofNat (48 + m / 10), UInt8.ofNat (48 + m % 10), 58, UInt8.ofNat (48 + s / 10), UInt8.ofNat (48 + s % 10)] := rfl
    simp only [e]
    rcases (show j = 0 ∨ j = 1 ∨ j = 2 ∨ j = 3 ∨ j = 4 ∨ j = 5 ∨ j = 6 ∨ j = 7 by omega) with rfl | rfl | rfl | rfl | rfl | rfl | rfl | rfl
    · exact (g a ha).1
    · exact (g a ha).2
    · exact rfl
    · exact (g m (by omega)).1
    · exact (g m (by omega)).2
    · exact rfl
    · exact (g s (by omega)).1
    · exact (g s (by omega)).2
/-- The first place that stands wrong. -/
theorem first_bad (s : ByteArray) : (∀ k (h : k < s.size), chk s[k] k) ∨ ∃ j, ∃ hj : j < s.size, (∀ k (h : k < s.size), k < j → chk s[k] k) ∧ ¬ chk s[j] j := by
  have key : ∀ n, n ≤ s.size → (∀ k (h : k < s.size), k < n → chk s[k] k) ∨ ∃ j, ∃ hj : j < s.size, (∀ k (h : k < s.size), k < j → chk s[k] k) ∧ ¬ chk s[j] j := by
    intro n
    induction n with
    | zero => exact fun _ => .inl fun k _ hk => absurd hk (by omega)
    | succ n ih =>
      intro hn
      rcases ih (by omega) with h | h
      · by_cases hc : chk s[n] n
        · refine .inl fun k hk hkn => ?_
          by_cases e : k = n
          · subst e; exact hc
          · exact h k hk (by omega)
        · exact .inr ⟨n, by omega, h, hc⟩
      · exact .inr h
  rcases key s.size (Nat.le_refl _) with h | h
  · exact .inl fun k hk => h k hk hk
  · exact .inr h
theorem list_eight {s : ByteArray} (h : s.size = 8) : ∃ a b c d e f g i, s = str [a, b, c, d, e, f, g, i] := by
  have hl : s.data.toList.length = 8 := by simpa using h
  match hx : s.data.toList, hl with
  | [a, b, c, d, e, f, g, i], _ => exact ⟨a, b, c, d, e, f, g, i, bytes_eq hx⟩
theorem list_five {s : ByteArray} (h : s.size = 5) : ∃ a b c d e, s = str [a, b, c, d, e] := by
  have hl : s.data.toList.length = 5 := by simpa using h
  match hx : s.data.toList, hl with
  | [a, b, c, d, e], _ => exact ⟨a, b, c, d, e, bytes_eq hx⟩
theorem str_data (l : List UInt8) : (str l).data.toList = l := rfl
theorem fin_none : fin none = (0, 3) := rfl
/-- At every text both give one answer. -/
theorem parse_both (s : ByteArray) : ∃ n k : Int,
    (∀ W, Mx W → Calls Tryd.prog 21 #[.string s] W fun e w' => e = .returned (.tuple #[.int .i64 n, errE k]) ∧ Below W.heap.size W w') ∧
    (∀ W, Calls Tryd.prog 22 #[.string s] W fun e w' => e = .returned (.tuple #[.int .i64 n, .int .i64 k]) ∧ Below W.heap.size W w') := by
  by_cases h8 : s.size = 8
  · rcases first_bad s with h | ⟨j, hj, hok, hbad⟩
    · obtain ⟨a, b, c, d, e, f, g, i, rfl⟩ := list_eight h8
      have e2 : c = 58 := chk_c (h 2 (by rw [h8]; omega)) (by omega)
      have e5 : f = 58 := chk_c (h 5 (by rw [h8]; omega)) (by omega)
      subst e2 e5
      obtain ⟨x, hx, ex⟩ := num2_of (a := a) (b := b) (chk_d (h 0 (by rw [h8]; omega)) (by omega)) (chk_d (h 1 (by rw [h8]; omega)) (by omega))
      obtain ⟨y, hy, ey⟩ := num2_of (a := d) (b := e) (chk_d (h 3 (by rw [h8]; omega)) (by omega)) (chk_d (h 4 (by rw [h8]; omega)) (by omega))
      obtain ⟨z, hz, ez⟩ := num2_of (a := g) (b := i) (chk_d (h 6 (by rw [h8]; omega)) (by omega)) (chk_d (h 7 (by rw [h8]; omega)) (by omega))
      refine ⟨(refEnd x y z).1, (refEnd x y z).2, fun W hm => ?_, fun W => ?_⟩
      · have := parse_two _ _ W hm h8 (.inr rfl)
        rw [str_data, pg_eight hx hy hz] at this
        unfold Told at this
        rw [fin_end] at this
        exact this
      · exact refParse_eight _ W h8 h x y z ex ey ez
    · refine ⟨0, 3, fun W hm => ?_, fun W => ?_⟩
      · have := parse_two _ _ W hm h8 (.inr rfl)
        rw [pg_wrong (by simpa using h8) (j := j) (by simpa using hj) hbad] at this
        exact this
      · refine (refParse_bad s W j hj (.inr h8) hok hbad).mono ?_
        rintro e w' ⟨rfl, rfl⟩
        exact ⟨rfl, Below.refl _ _⟩
  · by_cases h5 : s.size = 5
    · obtain ⟨S, q, eS, zS⟩ := add_named s { data := #[58, 48, 48] } (by omega) (by decide)
      have z3 : ({ data := #[58, 48, 48] } : ByteArray).size = 3 := rfl
      have hS : S.size = 8 := by omega
      rcases first_bad s with h | ⟨j, hj, hok, hbad⟩
      · obtain ⟨a, b, c, d, e, rfl⟩ := list_five h5
        have e2 : c = 58 := chk_c (h 2 (by rw [h5]; omega)) (by omega)
        subst e2
        obtain ⟨x, hx, ex⟩ := num2_of (a := a) (b := b) (chk_d (h 0 (by rw [h5]; omega)) (by omega)) (chk_d (h 1 (by rw [h5]; omega)) (by omega))
        obtain ⟨y, hy, ey⟩ := num2_of (a := d) (b := e) (chk_d (h 3 (by rw [h5]; omega)) (by omega)) (chk_d (h 4 (by rw [h5]; omega)) (by omega))
        have eS' : S = str [a, b, 58, d, e, 58, 48, 48] := eS.trans (str_append [a, b, 58, d, e] [58, 48, 48])
        refine ⟨(refEnd x y 0).1, (refEnd x y 0).2, fun W hm => ?_, fun W => ?_⟩
        · have := parse_two _ _ W hm hS (.inl ⟨h5, q⟩)
          rw [eS', str_data, pg_eight hx hy (show num2 [48, 48] = some 0 from rfl)] at this
          unfold Told at this
          rw [fin_end] at this
          exact this
        · exact refParse_five _ W h5 h x y ex ey
      · refine ⟨0, 3, fun W hm => ?_, fun W => ?_⟩
        · have := parse_two _ _ W hm hS (.inl ⟨h5, q⟩)
          have hj8 : j < S.data.toList.length := by
            have : S.data.toList.length = 8 := by simpa using hS
            omega
          have hge : S.data.toList[j] = s[j] := by
            subst eS
            simp only [ByteArray.data_append, Array.toList_append]
            rw [List.getElem_append_left (by simpa using hj)]
            rfl
          rw [pg_wrong (by simpa using hS) (j := j) hj8 (by rw [hge]; exact hbad)] at this
          exact this
        · refine (refParse_bad s W j hj (.inl h5) hok hbad).mono ?_
          rintro e w' ⟨rfl, rfl⟩
          exact ⟨rfl, Below.refl _ _⟩
    · refine ⟨0, 3, fun W _ => parse_len s W h5 h8, fun W => ?_⟩
      refine (refParse_len s W h5 h8).mono ?_
      rintro e w' ⟨rfl, rfl⟩
      exact ⟨rfl, Below.refl _ _⟩
end Go.Proofs.YtgfibckahnjclaaDoor

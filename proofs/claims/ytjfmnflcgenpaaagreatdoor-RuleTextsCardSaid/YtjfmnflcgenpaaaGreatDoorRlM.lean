/- Which days a month's rules mean, plain. -/
import Derived.Test.YtjfmnflcgenpaaaGreatDoorRlMath
namespace Go.Proofs.YtjfmnflcgenpaaaGreatDoor

theorem place_of {n most : Int} (h0 : n ≠ 0) (h1 : -most ≤ n) (h2 : n ≤ most) : placeR n most = true := decide_eq_true ⟨h0, h1, h2⟩
theorem inW_of {n most : Int} (h1 : 0 ≤ n) (h2 : n ≤ most) : inW n most = true := decide_eq_true ⟨h1, h2⟩
theorem may_1 (mo n : Int) (h1 : 0 ≤ mo) (h2 : mo ≤ 12) (h3 : n ≠ 0) (h4 : -31 ≤ n) (h5 : n ≤ 31) : mayR ⟨1, mo, n, 0, 0, 0, 0, 0, 0, 0⟩ = true :=
  (mayR_iff _).2 ⟨rfl, Bool.and_eq_true_iff.2 ⟨inW_of h1 h2, place_of h3 h4 h5⟩⟩
theorem may_2 (mo n wk : Int) (h1 : 0 ≤ mo) (h2 : mo ≤ 12) (h3 : n ≠ 0) (h4 : -5 ≤ n) (h5 : n ≤ 5) (h6 : 0 ≤ wk) (h7 : wk ≤ 6) : mayR ⟨2, mo, n, wk, 0, 0, 0, 0, 0, 0⟩ = true :=
  (mayR_iff _).2 ⟨rfl, Bool.and_eq_true_iff.2 ⟨Bool.and_eq_true_iff.2 ⟨inW_of h1 h2, place_of h3 h4 h5⟩, inW_of h6 h7⟩⟩
theorem may_0 (wk : Int) (h6 : 0 ≤ wk) (h7 : wk ≤ 6) : mayR ⟨0, 0, 0, wk, 0, 0, 0, 0, 0, 0⟩ = true := (mayR_iff _).2 ⟨rfl, inW_of h6 h7⟩
theorem may_3 {fy fm fd ty tm td : Int} (h1 : okD fy fm fd = true) (h2 : okD ty tm td = true) (h3 : dnr fy fm fd ≤ dnr ty tm td) (h4 : 0 ≤ fy) (h5 : fy ≤ 9999) (h6 : 0 ≤ ty) (h7 : ty ≤ 9999) : mayR ⟨3, 0, 0, 0, fy, fm, fd, ty, tm, td⟩ = true := by
  refine (mayR_iff _).2 ⟨rfl, ?_⟩
  show (okD fy fm fd && okD ty tm td && decide (dnr fy fm fd ≤ dnr ty tm td) && inW fy 9999 && inW ty 9999) = true
  rw [h1, h2, decide_eq_true h3, inW_of h4 h5, inW_of h6 h7]
  rfl
theorem hits_1 (k i : Nat) (y : Int) (m n : Nat) (a : Int) (hn : mlen y m = n) (h1 : 1 ≤ k) (_hi : i < n) : hitsR ⟨1, 0, k, 0, 0, 0, 0, 0, 0, 0⟩ y m (i + 1) a = decide ((i : Int) = k - 1) := by
  show (decide ((0 : Int) = 0 ∨ (0 : Int) = m) && decide ((k : Int) = i + 1 ∨ (k : Int) = -(mlen y m - (i + 1) + 1))) = _
  rw [hn, decide_eq_true (show (0 : Int) = 0 ∨ (0 : Int) = m from .inl rfl), Bool.true_and, Bool.eq_iff_iff]
  simp only [decide_eq_true_eq]
  omega
theorem hits_1n (k i : Nat) (y : Int) (m n : Nat) (a : Int) (hn : mlen y m = n) (h1 : 1 ≤ k) (_hi : i < n) : hitsR ⟨1, m, -(k : Int), 0, 0, 0, 0, 0, 0, 0⟩ y m (i + 1) a = decide ((i : Int) = n - k) := by
  show (decide ((m : Int) = 0 ∨ (m : Int) = m) && decide (-(k : Int) = i + 1 ∨ -(k : Int) = -(mlen y m - (i + 1) + 1))) = _
  rw [hn, decide_eq_true (show (m : Int) = 0 ∨ (m : Int) = m from .inr rfl), Bool.true_and, Bool.eq_iff_iff]
  simp only [decide_eq_true_eq]
  omega
theorem hits_2 (k i c : Nat) (y : Int) (m n : Nat) (fi wk : Int) (hn : mlen y m = n) (h1 : 1 ≤ k) (hi : i < n) (hc : c < 7) (hw : wd (fi + c) = wk) :
    hitsR ⟨2, 0, k, wk, 0, 0, 0, 0, 0, 0⟩ y m (i + 1) (fi + i) = decide ((i : Int) = c + 7 * (k - 1)) := by
  show (decide (wd (fi + i) = wk) && (decide ((0 : Int) = 0 ∨ (0 : Int) = m) && decide ((k : Int) = ((i : Int) + 1 - 1) / 7 + 1 ∨ (k : Int) = -((mlen y m - (i + 1)) / 7 + 1)))) = _
  rw [hn, decide_eq_true (show (0 : Int) = 0 ∨ (0 : Int) = m from .inl rfl), Bool.true_and, Bool.eq_iff_iff]
  simp only [Bool.and_eq_true, decide_eq_true_eq]
  unfold wd at *
  omega
/-- Where the first day of a weekday lies. -/
theorem first_ex (fi wk : Int) (h1 : 0 ≤ wk) (h2 : wk ≤ 6) : ∃ c : Nat, c < 7 ∧ wd (fi + c) = wk := by
  refine ⟨((wk - wd fi) % 7).toNat, by omega, ?_⟩
  unfold wd
  omega
theorem hits_0 (i c : Nat) (y : Int) (m : Nat) (d fi wk : Int) (hi : i < 7) (hc : c < 7) (hw : wd (fi + c) = wk) :
    hitsR ⟨0, 0, 0, wk, 0, 0, 0, 0, 0, 0⟩ y m d (fi + i) = decide (i = c) := by
  show decide (wd (fi + i) = wk) = _
  rw [Bool.eq_iff_iff]
  simp only [decide_eq_true_eq]
  unfold wd at *
  omega
theorem is_day {y : Int} {m : Nat} {d D : Int} (hi : Is y m d) (hn : nr y m d = D) (i n : Nat) (hl : mlen y m = n) (h : i < n) : Is y m (i + 1) ∧ nr y m (i + 1) = D - d + 1 + i := by
  refine ⟨⟨hi.m1, hi.m12, by omega, by omega⟩, ?_⟩
  unfold nr at *
  omega
theorem year_in {y : Int} {m : Nat} {d D : Int} (hi : Is y m d) (hn : nr y m d = D) (h1 : 0 ≤ D) (h2 : D ≤ 2900100) : 0 ≤ y ∧ y ≤ 9999 := by
  have h := nr_in hi
  rw [hn] at h
  have e1 : bgn 0 = -719528 := by decide
  have e2 : bgn 10000 = 2932897 := by decide
  constructor
  · rcases Int.lt_or_le y 0 with h3 | h3
    · have := bgn_le (show y + 1 ≤ 0 by omega)
      omega
    · exact h3
  · rcases Int.lt_or_le 9999 y with h3 | h3
    · have := bgn_le (show 10000 ≤ y by omega)
      omega
    · exact h3
end Go.Proofs.YtjfmnflcgenpaaaGreatDoor

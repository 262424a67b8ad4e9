/- Contract: sure: what must come whatever the input is. -/
import Derived.Test.YtlogapkpllgdcaaGreatDoorPdNx
namespace Go.Proofs.YtlogapkpllgdcaaGreatDoor
open Go.RowKit

theorem Can.lastT_le {lo : Int} {l : List Spn} (h : Can lo l) (h0 : lo ≤ 86400) : lastT lo l ≤ 86400 := by
  induction l generalizing lo with
  | nil => exact h0
  | cons a l ih => exact ih h.2.2.2 h.2.2.1
/-- Two lists of a day's spans with the same seconds are the same. -/
theorem Can.day {l l' : List Spn} (h : Can (-1) l) (h' : Can (-1) l') (he : ∀ j, j < 86400 → (l.any fun s => inS s j) = (l'.any fun s => inS s j)) : l = l' := by
  refine h.one (by omega) h' fun j => ?_
  rcases Nat.lt_or_ge j 86400 with hj | hj
  · exact he j hj
  · have h1 := h.lastT_le (by omega)
    have h2 := h'.lastT_le (by omega)
    rw [h.none_hi (by omega), h'.none_hi (by omega)]
def r0 : Rl := ⟨0, 0, 0, 4, 0, 0, 0, 0, 0, 0⟩
def l0 : List Prd := [⟨[⟨r0, [⟨60, 120⟩]⟩], []⟩]
theorem chk_l0 : chk l0 = 0 := by
  refine chk_good (by decide) (by decide) (by decide) fun ⟨i, h⟩ => ?_
  have hs : ∀ a b, ¬ Step l0 a b := fun a b ⟨p, hp, hx⟩ => by
    have hm := List.mem_of_getElem? hp
    rw [l0, List.mem_singleton] at hm
    rw [hm] at hx
    cases hx
  cases h with
  | one s => exact hs _ _ s
  | more s _ => exact hs _ _ s
theorem hit_l0 (j : Nat) : inn l0 (hitE 0 j) 0 = inS ⟨60, 120⟩ j := by
  have hg := good_of chk_l0
  rw [inn_eq (hitE 0 j) hg.loops hg.range (i := 0) (p := ⟨[⟨r0, [⟨60, 120⟩]⟩], []⟩) rfl]
  obtain ⟨y, m, d, hi, hn⟩ := date_ex 0
  have h : hitD r0 0 = true := by
    rw [hitD_eq hi hn]
    show decide (wd 0 = 4) = true
    decide
  unfold hitE
  simp [h]
theorem next_l0 : NextAns (inT l0 ((0 : Nat) : Int) 0) 0 (0 + lim 0 100) true 60 := by
  have e : lim 0 100 = 100 := by decide
  rw [e]
  have hu : ∀ u : Int, 0 ≤ u → u < 86400 → inT l0 ((0 : Nat) : Int) 0 u = inS ⟨60, 120⟩ u.toNat := fun u h1 h2 => by
    unfold inT
    rw [show (u + 0) / 86400 = 0 by omega, show ((u + 0) % 86400) = u by omega]
    exact hit_l0 u.toNat
  refine .inl ⟨rfl, by omega, by omega, by rw [hu 60 (by omega) (by omega)]; decide, fun u h1 h2 => ?_⟩
  rw [hu u h1 (by omega)]
  simp only [inS, Bool.and_eq_false_iff, decide_eq_false_iff_not]
  omega
theorem day_l0 {o : List Spn} (hc : Can (-1) o) (hm : ∀ j, j < 86400 → secF l0 0 0 j = o.any fun s => inS s j) : o = [⟨60, 120⟩] := by
  refine hc.day (l' := [⟨60, 120⟩]) (by exact ⟨by decide, by decide, by decide, trivial⟩) fun j hj => ?_
  rw [← hm j hj]
  unfold secF
  rw [hit_l0 j]
  simp
theorem errX_l0 : errX l0 ((0 : Nat) : Int) 0 0 100 = 0 := by
  have h7 : err7 l0 ((0 : Nat) : Int) = 0 := err7_none chk_l0 (by omega) (by decide)
  unfold errX
  rw [if_pos (errI_none h7 (by omega) (by omega) (by omega) (by omega)), if_neg (by omega)]
theorem errD_l0 : errD l0 ((0 : Nat) : Int) 0 = 0 := by
  have h7 : err7 l0 ((0 : Nat) : Int) = 0 := err7_none chk_l0 (by omega) (by decide)
  unfold errD
  rw [if_pos h7, if_neg (by omega)]
abbrev RC0 : Array Value := #[.int .i64 0, .int .i64 0, .int .i64 0, .int .i64 4, .int .i64 0, .int .i64 0, .int .i64 0, .int .i64 0, .int .i64 0, .int .i64 0]
/-- The set that sure lays. -/
abbrev sw1 (w : World) : World := w.alloc (.cells RC0 66)
abbrev sw2 (w : World) : World := (sw1 w).alloc (.cells #[.int .i64 60, .int .i64 120] 51)
abbrev sw3 (w : World) : World := (sw2 w).alloc (.cells #[.int .i64 0, .int .i64 0, .int .i64 0, .int .i64 4, .int .i64 0, .int .i64 0, .int .i64 0, .int .i64 0, .int .i64 0, .int .i64 0, .slice (some ⟨w.heap.size + 1, 0, none⟩) 1 1] 68)
abbrev sw4 (w : World) : World := (sw3 w).alloc (.cells #[.slice (some ⟨w.heap.size + 1 + 1, 0, none⟩) 1 1, .slice none 0 0] 71)
theorem set_l0 (w : World) : HPd (sw4 w) (.slice (some ⟨w.heap.size + 1 + 1 + 1, 0, none⟩) 1 1) l0 ∧ Below w.heap.size w (sw4 w) := by
  obtain ⟨_, g1, g2, g3⟩ := blk4 w (.cells RC0 66) (.cells #[.int .i64 60, .int .i64 120] 51) (.cells #[.int .i64 0, .int .i64 0, .int .i64 0, .int .i64 4, .int .i64 0, .int .i64 0, .int .i64 0, .int .i64 0, .int .i64 0, .int .i64 0, .slice (some ⟨w.heap.size + 1, 0, none⟩) 1 1] 68) (.cells #[.slice (some ⟨w.heap.size + 1 + 1, 0, none⟩) 1 1, .slice none 0 0] 71)
  refine ⟨⟨_, 1, fun _ => .slice (some ⟨w.heap.size + 1 + 1, 0, none⟩) 1 1, fun _ => .slice none 0 0, rfl, Nat.le_refl _, by unfold maxLen; omega, fun k hk => ?_⟩, ?_⟩
  · obtain rfl : k = 0 := by simp [l0] at hk; exact hk
    refine ⟨⟨_, _, rfl, rfl, cell_blk g3 0 rfl, cell_blk g3 1 rfl⟩, ⟨_, 1, fun _ => .slice (some ⟨w.heap.size + 1, 0, none⟩) 1 1, rfl, Nat.le_refl _, by unfold maxLen; omega, fun k hk => ?_⟩, ⟨none, 0, rfl, Nat.le_refl _, Nat.zero_le _, fun k hk => by simp [l0, List.getD] at hk⟩⟩
    obtain rfl : k = 0 := by simp [l0, List.getD] at hk; exact hk
    refine ⟨⟨_, _, rfl, rfl, cell_blk g2 0 rfl, cell_blk g2 1 rfl, cell_blk g2 2 rfl, cell_blk g2 3 rfl, cell_blk g2 4 rfl, cell_blk g2 5 rfl, cell_blk g2 6 rfl, cell_blk g2 7 rfl, cell_blk g2 8 rfl, cell_blk g2 9 rfl, cell_blk g2 10 rfl⟩, ⟨_, 1, rfl, Nat.le_refl _, by unfold maxLen; omega, fun k hk => ?_⟩⟩
    obtain rfl : k = 0 := by simp [l0, List.getD] at hk; exact hk
    exact ⟨_, _, rfl, rfl, cell_blk g1 0 rfl, cell_blk g1 1 rfl⟩
  · exact (((((Below.refl w.heap.size w).alloc (Nat.le_refl _) _).alloc (by simp) _).alloc (by simp; omega) _).alloc (by simp; omega) _)
set_option maxRecDepth 100000 in
set_option maxHeartbeats 2000000 in
theorem sure_any (w : World) (ht : Tab w) (hz : Tz w) :
    Calls Tryz.prog 7 #[] w fun e w' => e = .returned (.bool true) ∧ Below w.heap.size w w' := by
  obtain ⟨hset, hb4⟩ := set_l0 w
  have HNX := Lib.hid (nxt_ok l0 _ 0 0 0 100 (sw4 w) (ht.below hb4) (hz.below hb4) hset errX_l0)
  have HDY := Lib.hid (fun W (hW : Below (sw4 w).heap.size (sw4 w) W) => day_ok l0 _ 0 0 W ((ht.below hb4).below hW) ((hz.below hb4).below hW) (hset.below hW) errD_l0)
  obtain ⟨w4, hw4⟩ : ∃ w4, sw4 w = w4 := ⟨_, rfl⟩
  rw [hw4] at hb4 HNX HDY
  have HW := Lib.hid hw4
  have HB := Lib.hid hb4
  clear hset hb4 hw4 ht hz
  simp only [Int.natCast_zero] at HNX HDY
  go_enter Tryz.func7, Tryz.ntmps7
  go_wp2_with fail
  change Calls _ _ _ (sw4 w) _
  rw [HW.out]
  refine HNX.out.mono ?_
  rintro e w5 ⟨x, f, rfl, hans, hb5⟩
  obtain ⟨rfl, rfl⟩ := hans.one next_l0
  go_wp2_with fail
  refine (HDY.out _ hb5).mono ?_
  rintro e w6 ⟨u, o, rfl, hsp, hc, hm, hb6⟩
  obtain rfl := day_l0 hc hm
  obtain ⟨A, c, rfl, _, _, hcell⟩ := hsp
  obtain ⟨ad, X, rfl, hX, c1, c2⟩ := hcell 0 (by simp)
  obtain ⟨bk, of, st⟩ := ad
  simp only [Addr.add, Nat.zero_mul, Nat.add_zero, if_true] at hX
  subst hX
  simp only [List.getD_cons_zero] at c1 c2
  have HF := Lib.hid (HB.out.trans ((hb5.trans (hb6.mono hb5.size)).mono HB.out.size))
  clear hcell hb5 hb6 hm hc hans
  go_wp2_with fail
  all_goals go_ret
  all_goals exact ⟨rfl, HF.out⟩
end Go.Proofs.YtlogapkpllgdcaaGreatDoor

/- Contract: the reader takes a line. -/
import Derived.Test.YtbeehedppofpnaaGreatDoorBkF
namespace Go.Proofs.YtbeehedppofpnaaGreatDoor
open Go.RowKit Go.Maps

def Ok9 (out : List Bk) : Option Bk → Prop
  | none => out.length ≤ 1024
  | some b => out.length < 1024 ∧ b.2.2.length ≤ 64
theorem ok_step {out : List Bk} {cur : Option Bk} {p : Nat × Tx} (h : Ok9 out cur) (h0 : (st9 out cur p).1 = 0) : Ok9 (st9 out cur p).2.1 (st9 out cur p).2.2 := by
  cases cur with
  | none =>
    unfold st9 stB at h0 ⊢
    simp only [] at h0 ⊢
    cases hk : headT p.2 with
    | none => rw [hk] at h0; cases h0
    | some k =>
      rw [hk] at h0
      simp only [] at h0 ⊢
      split at h0
      · cases h0
      · rename_i h1
        rw [if_neg h1]
        split at h0
        · cases h0
        · rename_i h2
          rw [if_neg h2]
          exact ⟨by omega, Nat.zero_le _⟩
  | some b =>
    unfold st9 stF at h0 ⊢
    simp only [] at h0 ⊢
    split at h0
    · rename_i h1
      rw [if_pos h1]
      show (out ++ [b]).length ≤ 1024
      have := h.1
      simp
      omega
    · rename_i h1
      rw [if_neg h1]
      simp only [] at h0 ⊢
      split at h0
      · cases h0
      · rename_i h2
        rw [if_neg h2]
        split at h0
        · cases h0
        · rename_i h3
          rw [if_neg h3]
          split at h0
          · cases h0
          · rename_i h4
            rw [if_neg h4]
            split at h0
            · cases h0
            · rename_i h5
              rw [if_neg h5]
              refine ⟨h.1, ?_⟩
              simp
              omega
/-- A block ends. -/
theorem close_end {w : World} {base g mb B : Nat} {out : List Bk} {b : Bk} {v vF : Value} {Z : List (MB × Value)} (h : In9 w base g out b v vF mb B Z) :
    Kp9 base w (w.setCell ⟨g, 1, none⟩ (.bool false)) ∧ Out9 (w.setCell ⟨g, 1, none⟩ (.bool false)) base g (out ++ [b]) := by
  have hother : ∀ (i : Nat) (cs : Array Value) (e : TypeId) (fr : Nat × Nat), w.heap[i]? = some (Obj.cells cs e fr) → e ≠ 55 → (w.setCell ⟨g, 1, none⟩ (.bool false)).heap[i]? = w.heap[i]? := by
    intro i cs e fr h0 he
    refine heap_setCell_other _ _ i _ ?_
    rintro rfl
    rw [h.cell] at h0
    injection h0 with h0
    injection h0 with _ h0
    exact he h0.symm
  have hsz : (w.setCell ⟨g, 1, none⟩ (.bool false)).heap.size = w.heap.size := by simp [World.setCell]
  refine ⟨(Kp9.refl base w).set h.cell h.low.1 (.inr rfl) _, h.low.1, v, .map (some mb), Z ++ [(iB b, vF)], heap_setCell_same w g 1 _ _ _ h.cell, ?_, ?_⟩
  · rw [List.map_append, List.map_append, h.same]
    rfl
  · refine ⟨?_, fun p hp => ?_⟩
    · rw [List.length_append]
      exact own_block h.own fun i hi => by
        obtain ⟨cs, fr, h0⟩ := own_typed h.own i hi
        exact hother i cs _ fr h0 (by decide)
    · rw [hsz]
      rcases List.mem_append.1 hp with hp | hp
      · exact (h.rows p hp).keep (Nat.le_refl _) h.low.2.2.1 fun b cs fr _ _ h0 => hother b cs _ fr h0 (by decide)
      · rw [List.mem_singleton.1 hp]
        exact (HeldF.owned (L := b.2.2.map iF) (by rw [List.length_map]) h.last).keep h.low.2.1 (Nat.le_refl _) fun b cs fr _ _ h0 => hother b cs _ fr h0 (by decide)
set_option maxHeartbeats 2000000 in
set_option maxRecDepth 100000 in
theorem take_any (base g : Nat) (out : List Bk) (cur : Option Bk) (at_ : Nat) (t : Tx) (w : World) (ht : Solid t) (ho : Ok9 out cur) (hb0 : base ≤ w.heap.size) (hs : Rd9 w base g out cur) :
    Calls Tryz.prog 17 #[.pointer (some ⟨g, 0, none⟩), .agg #[.int .i64 (at_ : Int), .string (str t)]] w fun e w' => e = .returned (errE (st9 out cur (at_, t)).1) ∧ Kp9 base w w' ∧ ((st9 out cur (at_, t)).1 = 0 → Rd9 w' base g (st9 out cur (at_, t)).2.1 (st9 out cur (at_, t)).2.2) := by
  have hbox := (Below.refl w.heap.size w).alloc (Nat.le_refl _) (.cells #[.int .i64 (at_ : Int), .string (str t)] 57)
  have hK0 := Lib.hid (Kp9.of hbox hb0)
  have hs0 := hs.below hbox
  have hbl := (MapKept.heap_alloc w (.cells #[.int .i64 (at_ : Int), .string (str t)] 57)).1
  have hb1 : base ≤ (w.alloc (.cells #[.int .i64 (at_ : Int), .string (str t)] 57)).heap.size := by rw [World.size_alloc]; omega
  cases cur with
  | none =>
    have hB := Lib.hid (begin_any base g out at_ t _ ht ho hb1 hs0)
    obtain ⟨v, m, Z, hc, _⟩ := (show Out9 _ base g out from hs0).st
    have c1 := cell_blk hc 1 (v := .bool false) rfl
    have hst : st9 out none (at_, t) = ((stB out (at_, t)).1, out, (stB out (at_, t)).2) := rfl
    rw [hst]
    simp only []
    generalize stB out (at_, t) = R at *
    generalize str t = T at *
    obtain ⟨n, cr⟩ := R
    dsimp only at *
    clear hs hs0 hbox hb1 hc ht hst ho hb0 hbl
    go_enter Tryz.func17, Tryz.ntmps17
    go_wp2_with fail
    refine hB.out.mono ?_
    rintro e w1 ⟨rfl, hk, hr⟩
    have HH := Lib.hid (And.intro hk hr)
    clear hk hr
    go_wp2_with fail
    go_ret
    exact ⟨rfl, hK0.out.trans HH.out.1, HH.out.2⟩
  | some b =>
    obtain ⟨v, vF, mb, B, Z, hi⟩ := (show ∃ v vF mb B Z, In9 _ base g out b v vF mb B Z from hs0)
    have c1 := cell_blk hi.cell 1 (v := .bool true) rfl
    have f1 := frz_blk hi.cell 1
    have hd : ((str t).toList == [125]) = (t == [125]) := by rw [str_toList]
    by_cases h1 : t = [125]
    · have hst : st9 out (some b) (at_, t) = (0, out ++ [b], none) := by unfold st9; simp only []; rw [if_pos h1]
      rw [hst]
      simp only []
      have hd' : ((str t).toList == [125]) = true := by rw [hd]; simpa using h1
      have hd2 : (str t).toList = [125] := by simpa using hd'
      have HC := Lib.hid (close_end hi)
      generalize str t = T at *
      clear hs hs0 hbox hb1 hi ht hst ho hb0 hbl hd h1
      go_enter Tryz.func17, Tryz.ntmps17
      go_wp2_with fail
      go_ret
      exact ⟨rfl, hK0.out.trans HC.out.1, fun _ => HC.out.2⟩
    · have hst : st9 out (some b) (at_, t) = ((stF b (at_, t)).1, out, some (stF b (at_, t)).2) := by unfold st9; simp only []; rw [if_neg h1]
      rw [hst]
      simp only []
      have hF := Lib.hid (field_any base g out b at_ t _ ht (Nat.le_of_lt ho.1) ho.2 hs0)
      have hd' : ((str t).toList == [125]) = false := by rw [hd]; simpa using h1
      have hd2 : ¬ (str t).toList = [125] := by simpa using hd'
      generalize stF b (at_, t) = R at *
      generalize str t = T at *
      obtain ⟨n, cr⟩ := R
      dsimp only at *
      clear hs hs0 hbox hb1 hi ht hst ho hb0 hbl hd h1
      go_enter Tryz.func17, Tryz.ntmps17
      go_wp2_with fail
      refine hF.out.mono ?_
      rintro e w1 ⟨rfl, hk, hr⟩
      have HH := Lib.hid (And.intro hk hr)
      clear hk hr
      go_wp2_with fail
      go_ret
      exact ⟨rfl, hK0.out.trans HH.out.1, HH.out.2⟩
end Go.Proofs.YtbeehedppofpnaaGreatDoor

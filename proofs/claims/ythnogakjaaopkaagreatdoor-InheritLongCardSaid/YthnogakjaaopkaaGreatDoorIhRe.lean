/- Contract: the document's Resolve. -/
import Derived.Test.YthnogakjaaopkaaGreatDoorIhCk
import Derived.Test.YthnogakjaaopkaaGreatDoorBg
import Derived.Deep.Cut
import Derived.Deep.RegionHeld3
namespace Go.Proofs.YthnogakjaaopkaaGreatDoor
open Go.RowKit

theorem blkInfoR : (Tryz.prog.info? 52).map (fun i => (i.zero, i.size, i.bytes)) = some (some (.agg #[.int .i64 0, .string ⟨#[]⟩, .slice none 0 0]), 3, 48) := by kernel_rfl
theorem fldInfoR : (Tryz.prog.info? 49).map (fun i => (i.zero, i.size, i.bytes)) = some (some (.agg #[.int .i64 0, .string ⟨#[]⟩, .string ⟨#[]⟩]), 3, 40) := by kernel_rfl
/-- Within a round: bb holds the block that is made, k of its fields are copied. -/
structure Rgv (w wr : World) (bb : Nat) (vo : Value) (Z : List (MB × Value)) (b : MB) (k : Nat) (vF : Value) : Prop where
  below : Below w.heap.size w wr
  low : w.heap.size ≤ bb ∧ bb < wr.heap.size
  bld : Bld wr w.heap.size bb 52 49 vo Z
  under : ∀ i, vo.ownBlock = some i → i < bb
  cell : wr.heap[bb]? = some (.cells #[.int .i64 b.1, .string (str b.2.1), vF] 52 (0, 0))
  row : wr.ownsRow (bb + 1) 49 3 vF k ((b.2.2.take k).flatMap fdC)
theorem Rgv.field {w wr w3 : World} {bb k gF capF : Nat} {vo vF : Value} {Z : List (MB × Value)} {b : MB} {o : Obj} {f : MF} (h : Rgv w wr bb vo Z b k vF) (hk : k < b.2.2.length) (hf : b.2.2[k] = f) (hg3 : (wr.alloc o).drew.grownBy w3 vF.ownBlock)
    (hown : w3.ownsRow (bb + 1) 49 3 (.slice (some ⟨gF, 0, none⟩) (k + 1) capF) (k + 1) ((b.2.2.take k).flatMap fdC ++ fdC f)) :
    w3.heap[bb]? = some (.cells #[.int .i64 b.1, .string (str b.2.1), vF] 52 (0, 0)) ∧ Rgv w (w3.setCell ⟨bb, 2, none⟩ (.slice (some ⟨gF, 0, none⟩) (k + 1) capF)) bb vo Z b (k + 1) (.slice (some ⟨gF, 0, none⟩) (k + 1) capF) := by
  have hg : (wr.alloc o).grownBy w3 vF.ownBlock := ⟨hg3.os, hg3.tape, hg3.output, hg3.size, hg3.block⟩
  have hlow : ∀ i, i ≤ bb → w3.heap[i]? = wr.heap[i]? := fun i hi => by
    have hl : i < wr.heap.size := by have := h.low.2; omega
    refine (hg.block i (by rw [World.size_alloc]; omega) fun e => ?_).trans (Below.heap_alloc wr o i hl)
    have := (h.row.lt i e.symm).1
    omega
  have hc3 := (hlow bb (Nat.le_refl _)).trans h.cell
  refine ⟨hc3, ?_⟩
  have hset : ∀ i, i ≠ bb → (w3.setCell ⟨bb, 2, none⟩ (.slice (some ⟨gF, 0, none⟩) (k + 1) capF)).heap[i]? = w3.heap[i]? := fun i hi => heap_setCell_other _ _ i _ hi
  have hsz : w3.heap.size ≥ wr.heap.size + 1 := by have := hg.size; rw [World.size_alloc] at this; exact this
  refine ⟨?_, ⟨h.low.1, ?_⟩, ⟨own_block9 h.bld.own fun i hi => ?_, fun p hp => (h.bld.rows p hp).keep (Nat.le_refl _) (Nat.le_refl _) fun c _ _ _ h2 _ => (hset c (by omega)).trans (hlow c (by omega))⟩, h.under, heap_setCell_same w3 bb 2 _ _ _ hc3, ?_⟩
  · refine (((h.below.alloc h.below.size o).grown hg ?_ fun i hi => ?_)).setCell h.low.1 _
    · rw [World.size_alloc]; have := h.below.size; omega
    · have := (h.row.lt i hi).1; have := h.low.1; omega
  · have : (w3.setCell ⟨bb, 2, none⟩ (.slice (some ⟨gF, 0, none⟩) (k + 1) capF)).heap.size = w3.heap.size := by simp [World.setCell]
    have := h.low.2
    omega
  · have hi2 := h.under i hi
    exact (hset i (by omega)).trans (hlow i (by omega))
  · rw [take_get b.2.2 k hk, hf, List.flatMap_append]
    have e : [f].flatMap fdC = fdC f := by simp
    rw [e]
    refine own_block9 hown fun i hi => hset i ?_
    have := (hown.lt i hi).1
    omega
theorem Rgv.drew {w wr : World} {bb k : Nat} {vo vF : Value} {Z : List (MB × Value)} {b : MB} (h : Rgv w wr bb vo Z b k vF) : Rgv w wr.drew bb vo Z b k vF :=
  ⟨⟨h.below.os, h.below.tape, h.below.output, h.below.size, h.below.block⟩, h.low, ⟨h.bld.own, h.bld.rows⟩, h.under, h.cell, h.row⟩
/-- Between rounds. -/
structure Rgn (w wr : World) (vo : Value) (Z : List (MB × Value)) : Prop where
  below : Below w.heap.size w wr
  bld : Bld wr w.heap.size wr.heap.size 52 49 vo Z
theorem Rgn.begin {w wr : World} {vo : Value} {Z : List (MB × Value)} (h : Rgn w wr vo Z) (b : MB) : Rgv w (wr.alloc (.cells #[.int .i64 b.1, .string (str b.2.1), .slice none 0 0] 52)) wr.heap.size vo Z b 0 (.slice none 0 0) where
  below := h.below.alloc h.below.size _
  low := ⟨h.below.size, by rw [World.size_alloc]; exact Nat.lt_succ_self _⟩
  bld := ⟨h.bld.own.alloc _, fun p hp => (h.bld.rows p hp).keep (Nat.le_refl _) (Nat.le_refl _) fun c _ _ _ h2 _ => Below.heap_alloc wr _ c h2⟩
  under := fun i hi => (h.bld.own.lt i hi).2
  cell := (MapKept.heap_alloc wr _).1
  row := World.ownsRow_nil _ _ _ _
theorem Rgv.done {w wr w3 : World} {bb gb cap n : Nat} {vo vF : Value} {Z : List (MB × Value)} {b : MB} {o : Obj} (h : Rgv w wr bb vo Z b b.2.2.length vF) (hn : Z.length = n) (hg : (wr.alloc o).grownBy w3 vo.ownBlock)
    (hown : w3.ownsRow w.heap.size 52 3 (.slice (some ⟨gb, 0, none⟩) (n + 1) cap) (n + 1) (Z.flatMap bkC ++ bkC (b, vF))) : Rgn w w3 (.slice (some ⟨gb, 0, none⟩) (n + 1) cap) (Z ++ [(b, vF)]) := by
  have hty : ∀ q, vo.ownBlock = some q → q < w.heap.size ∨ w3.heap.size ≤ q ∨ ∃ cs e' fr, (wr.alloc o).heap[q]? = some (.cells cs e' fr) ∧ e' ≠ 49 := fun q hq => by
    obtain ⟨cs, fr, h0⟩ := own_typed (h.bld.own.alloc o) q hq
    exact .inr (.inr ⟨cs, _, fr, h0, by decide⟩)
  have hsz : wr.heap.size < w3.heap.size := by have := hg.size; rw [World.size_alloc] at this; exact this
  refine ⟨(h.below.alloc h.below.size o).grown hg (by rw [World.size_alloc]; have := h.below.size; omega) fun i hi => (h.bld.own.lt i hi).1, ⟨?_, fun p hp => ?_⟩⟩
  · rw [List.length_append, hn, bkcat_snoc]
    exact hown
  · have hrow : HeldF wr w.heap.size wr.heap.size 49 p.2 p.1.2.2 := by
      rcases List.mem_append.1 hp with hp | hp
      · exact (h.bld.rows p hp).keep (Nat.le_refl _) (by have := h.low.2; omega) fun _ _ _ _ _ _ => rfl
      · rw [List.mem_singleton.1 hp]
        have hr := h.row
        rw [List.take_length] at hr
        exact (HeldF.owned rfl hr).keep (by have := h.low.1; omega) (Nat.le_refl _) fun _ _ _ _ _ _ => rfl
    have hal : HeldF (wr.alloc o) w.heap.size w3.heap.size 49 p.2 p.1.2.2 := hrow.keep (Nat.le_refl _) (Nat.le_of_lt hsz) fun c _ _ _ h2 _ => Below.heap_alloc wr o c h2
    exact hal.grown hg hty
theorem Rgv.alloc {w wr : World} {bb k : Nat} {vo vF : Value} {Z : List (MB × Value)} {b : MB} (h : Rgv w wr bb vo Z b k vF) (o : Obj) : Rgv w (wr.alloc o) bb vo Z b k vF where
  below := h.below.alloc h.below.size o
  low := ⟨h.low.1, by rw [World.size_alloc]; have := h.low.2; omega⟩
  bld := ⟨h.bld.own.alloc _, fun p hp => (h.bld.rows p hp).keep (Nat.le_refl _) (Nat.le_refl _) fun c _ _ _ h2 _ => Below.heap_alloc wr _ c (by have := h.low.2; omega)⟩
  under := h.under
  cell := (Below.heap_alloc wr o bb h.low.2).trans h.cell
  row := h.row.alloc _
theorem Rgn.belowW {w wr wr' : World} {vo : Value} {Z : List (MB × Value)} (h : Rgn w wr vo Z) (hb : Below wr.heap.size wr wr') : Rgn w wr' vo Z where
  below := h.below.trans (hb.mono h.below.size)
  bld := ⟨own_sameO h.bld.own hb, fun p hp => (h.bld.rows p hp).keep (Nat.le_refl _) hb.size fun c _ _ _ h2 _ => hb.block c h2⟩
theorem Rgv.belowv {w wr : World} {bb k : Nat} {vo vF : Value} {Z : List (MB × Value)} {b : MB} (h : Rgv w wr bb vo Z b k vF) : Below w.heap.size w wr := h.below
/-- A wrong block's error is one. -/
theorem fstB_some {w : Nat → MB → Option (Int × Nat)} {q : Int × Nat} : ∀ (l : List MB) (i : Nat), fstB w i l = some q → ∃ j b, w j b = some q
  | [], _, h => by cases h
  | b :: l, i, h => by
    rw [fstB] at h
    cases hw : w i b with
    | none =>
      rw [hw, Option.none_or] at h
      exact fstB_some l (i + 1) h
    | some r =>
      rw [hw, Option.some_or] at h
      exact ⟨i, b, hw.trans h⟩
theorem wrgR_ne {b : MB} {q : Int × Nat} (h : wrgN.wrgR b = some q) : q.2 ≠ 0 := by
  unfold wrgN.wrgR at h
  split at h
  · split at h
    · rename_i h1
      have e := Option.some.inj h
      rw [← e]
      exact h1
    · cases h
  · cases h
theorem chk_ne {l : List MB} {q : Int × Nat} (h : chkI l = some q) : q.2 ≠ 0 := by
  unfold chkI at h
  rcases Option.or_eq_some_iff.1 h with h | ⟨_, h⟩
  · obtain ⟨j, b, h⟩ := fstB_some _ _ h
    unfold wrgN at h
    split at h
    · split at h
      · have e := Option.some.inj h
        rw [← e]; exact by simp
      · split at h
        · have e := Option.some.inj h
          rw [← e]; exact by simp
        · exact wrgR_ne h
    · exact wrgR_ne h
  · rcases Option.or_eq_some_iff.1 h with h | ⟨_, h⟩
    · obtain ⟨j, b, h⟩ := fstB_some _ _ h
      unfold wrgU at h
      split at h
      · rename_i h1
        have e := Option.some.inj h
        rw [← e]
        exact h1
      · cases h
    · rcases Option.or_eq_some_iff.1 h with h | ⟨_, h⟩
      · obtain ⟨j, b, h⟩ := fstB_some _ _ h
        unfold wrgL at h
        split at h
        · have e := Option.some.inj h
          rw [← e]; exact by simp
        · cases h
      · obtain ⟨j, b, h⟩ := fstB_some _ _ h
        unfold wrgV at h
        split at h
        · have e := Option.some.inj h
          rw [← e]; exact by simp
        · cases h
theorem rfF_append (l : List MB) (i : Nat) (q r : List Tx) : rfF l i (q ++ r) = rfF l i q ++ rfF l i r := List.filterMap_append
theorem rfF_take {l : List MB} {i : Nat} (N : List Tx) (k : Nat) : (rfF l i N).take (rfF l i (N.take k)).length = rfF l i (N.take k) := by
  have e : rfF l i N = rfF l i (N.take k) ++ rfF l i (N.drop k) := by rw [← rfF_append, List.take_append_drop]
  rw [e, List.take_left]
/-- What the document's Resolve answers. -/
def RfE2 (l : List MB) (e : Ending) (w' : World) : Prop := match chkI l with
  | some q => e = .returned (.tuple #[.slice none 0 0, .int .i64 q.1, .int .i64 (q.2 : Nat)])
  | none => ∃ v, e = .returned (.tuple #[v, .int .i64 0, .int .i64 0]) ∧ RowB w' v (rsK l l.length)
set_option maxRecDepth 100000 in
set_option maxHeartbeats 4000000 in
theorem refResolve_any (v : Value) (l : List MB) (w : World) (hl : l.length ≤ 1000) (hf : ∀ b ∈ l, b.2.2.length ≤ 1000 ∧ ∀ f ∈ b.2.2, f.2.2.length ≤ 100000) (hv : RowB w v l) :
    Calls Tryz.prog 13 #[v] w fun e w' => RfE2 l e w' ∧ Below w.heap.size w w' := by
  obtain ⟨A, c, rfl, hr⟩ := hv.form
  obtain ⟨n, hn⟩ : ∃ n, l.length = n := ⟨_, rfl⟩
  have hCk := refCheckI_any (.slice A l.length c) l w hl hf hv
  rw [hn] at hr hl hCk ⊢
  have HR := Lib.hid (And.intro hr (And.intro hn hf))
  unfold CiE at hCk
  unfold RfE2
  clear hr hv hn hf
  cases hc : chkI l with
  | some q =>
    rw [hc] at hCk
    dsimp only at hCk ⊢
    have hne := chk_ne hc
    obtain ⟨q1, hq1⟩ : ∃ x, q.1 = x := ⟨_, rfl⟩
    obtain ⟨q2, hq2⟩ : ∃ x, q.2 = x := ⟨_, rfl⟩
    rw [hq2] at hne
    rw [hq1, hq2] at hCk ⊢
    have HCk := Lib.hid hCk
    have e1 : ((q2 : Int) == 0) = false := beq_eq_false_iff_ne.2 (by omega)
    have e2 : ¬ ((q2 : Int) = 0) := by omega
    clear hCk hq1 hq2 hne hc
    go_enter Tryz.func13, Tryz.ntmps13
    go_wp2_with fail
    with_reducible refine HCk.out.mono ?_
    rintro e V ⟨rfl, hb⟩
    have HB := Lib.hid hb
    clear hb
    go_wp2_with fail
    refine bodyPost_ret (results_tmp3 rfl _ _ _) rfl ?_
    exact ⟨rfl, HB.out⟩
  | none =>
    rw [hc] at hCk
    dsimp only at hCk ⊢
    have HCk := Lib.hid hCk
    obtain ⟨hcy, hno⟩ := chk_none hc
    have HC := Lib.hid (And.intro hcy hno)
    clear hCk hc hcy hno
    go_enter Tryz.func13, Tryz.ntmps13
    go_wp2_with fail
    with_reducible refine HCk.out.mono ?_
    rintro e wa3 ⟨rfl, hb3⟩
    have HL3 := Lib.hid (And.intro hb3 HC.out.1)
    clear hb3
    have hNm := refNames_any (.slice A n c) l wa3 (by rw [HR.out.2.1]; exact hl) (fun b hb => (HR.out.2.2 b hb).1) (HR.out.1.below HL3.out.1)
    have hp9 := nmsT_len (l := l) (by rw [HR.out.2.1]; exact hl) (fun b hb => (HR.out.2.2 b hb).1)
    have HNm := Lib.hid hNm
    clear hNm
    go_wp2_with fail
    with_reducible refine HNm.out.mono ?_
    rintro e V4 ⟨u4, rfl, hrow, hb4⟩
    obtain ⟨N, hN⟩ : ∃ N, nmsT l = N := ⟨_, rfl⟩
    rw [hN] at hrow hp9
    obtain ⟨AN, cN, rfl, hN1, hN2, hN3⟩ := hrow
    obtain ⟨p, hp⟩ : ∃ p, N.length = p := ⟨_, rfl⟩
    rw [hp] at hN1 hp9 ⊢
    have H4 := Lib.hid (And.intro (HL3.out.1.trans (hb4.mono HL3.out.1.size)) (And.intro hN3 (And.intro hN hp)))
    clear hb4 hN3 hN hp
    go_wp2_with fail
    go_loopw [8, 9] (fun vv kv wr => ∃ (k : Nat) (Z : List Value), k ≤ p ∧ kv = .int .i64 k ∧ Below V4.heap.size V4 wr ∧ wr.ownsRow V4.heap.size 74 1 vv k Z ∧ VlZ n l wr (N.take k) Z) (fun _ kv _ => p - (intOf kv).toNat)
    case atStart => exact ⟨0, [], Nat.zero_le _, rfl, Below.refl _ _, World.ownsRow_nil _ _ _ _, fun k nm h => by simp at h⟩
    case round =>
      obtain ⟨k, Z, hk, rfl, hb5, hown, hvz⟩ := hrel
      have hbw : Below w.heap.size w wr := H4.out.1.trans (hb5.mono H4.out.1.size)
      by_cases hkp : k < p
      · have q0 : (0 : Int) ≤ k := by omega
        have q1 : (k : Int) < p := by omega
        have hkN : k < N.length := by rw [H4.out.2.2.2]; exact hkp
        obtain ⟨nm, hnm⟩ : ∃ x, N[k] = x := ⟨_, rfl⟩
        obtain ⟨adN, rfl, cq⟩ := (Rd.below (A := AN) H4.out.2.1 hb5).at_ (k := k) (by rw [List.length_map]; exact hkN)
        rw [List.getElem_map, hnm] at cq
        unfold txC at cq
        have hAl := refAll_any (.slice A n c) l nm wr (by rw [HR.out.2.1]; exact hl) (fun b hb => ⟨by have := (HR.out.2.2 b hb).1; omega, fun f hf => by have := (HR.out.2.2 b hb).2 f hf; omega⟩) (HR.out.1.below hbw) HL3.out.2
        rw [HR.out.2.1] at hAl
        obtain ⟨S, hS⟩ : ∃ S, str nm = S := ⟨_, rfl⟩
        rw [hS] at cq hAl
        have HAl := Lib.hid hAl
        have htk : N.take (k + 1) = N.take k ++ [nm] := by rw [List.take_succ_eq_append_getElem hkN, hnm]
        have H5 := Lib.hid (And.intro hb5 (And.intro hown (And.intro hvz (And.intro hbw htk))))
        clear hAl hS hb5 hown hvz hbw hnm hkN htk
        go_wp2_with fail
        with_reducible refine HAl.out.mono ?_
        rintro e V6 ⟨bo, rfl, hG, hb6, hge⟩
        have HO := Lib.hid (own_sameO H5.out.2.1 hb6)
        have HBB := Lib.hid (H5.out.1.trans (hb6.mono H5.out.1.size))
        have HG : Hid (GtB bo (gts l nm) V6) := by
          have h := hG
          unfold Hid gts
          rw [HR.out.2.1]
          exact h
        have HZ6 := Lib.hid (H5.out.2.2.1.below hb6)
        clear hG hb6 hge
        go_wp2_with
          (at_builtin
           refine wpList_app rfl (.tmp 34) (.tmp 41) 73 rfl elGot V4.heap.size u8 k Z rfl (HO.out.alloc _) (some ⟨V6.heap.size, 0, none⟩) 1 1 [slG n bo] rfl rfl (Rd.block (MapKept.heap_alloc V6 (.cells #[slG n bo] 74)).1) (fun u hu => by rw [List.mem_singleton.1 hu]; rfl) (by unfold maxLen; omega) (by omega) (by rw [World.size_alloc]; have := HBB.out.size; omega) ?_)
        intro v' w'' ho hg hob
        have HN2 := Lib.hid (And.intro ho (And.intro hg hob))
        clear ho hg hob
        go_wp2_with fail
        refine ⟨⟨k + 1, Z ++ [slG n bo], hkp, by go_num, (HBB.out.alloc HBB.out.size _).grown HN2.out.2.1 (by rw [World.size_alloc]; have := HBB.out.size; omega) (fun k hk => (HO.out.lt k hk).1), HN2.out.1, ?_⟩, by simp [intOf]; omega⟩
        rw [H5.out.2.2.2.2]
        have hZl : Z.length = (N.take k).length := by
          have := H5.out.2.1.1
          rw [List.length_take, H4.out.2.2.2]
          omega
        refine VlZ.grown (W := V6.alloc (.cells #[slG n bo] 74)) ?_ (HO.out.alloc _) HN2.out.2.1
        have ha : Below V6.heap.size V6 (V6.alloc (.cells #[slG n bo] 74)) := (Below.refl _ _).alloc (Nat.le_refl _) _
        exact (HZ6.out.snoc hZl HG.out).below ha
      · obtain rfl : p = k := by omega
        obtain ⟨A5, c5, rfl, hA1, hA2, hA3, hA4, _⟩ := owns_form hown
        rw [List.take_of_length_le (by rw [H4.out.2.2.2]; exact Nat.le_refl _)] at hvz
        have H5 := Lib.hid (And.intro hbw (And.intro hvz (And.intro hA3 (And.intro hA4 hb5))))
        obtain ⟨wv, hwv⟩ : ∃ x, x = wr := ⟨_, rfl⟩
        subst hwv
        clear hbw hvz hA3 hA4 hb5 hown
        go_wp2_with fail
        go_loopw [10, 11] (fun ov iv wr => ∃ (i : Nat) (Y : List (MB × Value)), iv = .int .i64 i ∧ i ≤ n ∧ Y.map (·.1) = rsK l i ∧ Rgn wv wr ov Y) (fun _ iv _ => n - (intOf iv).toNat)
        case atStart => exact ⟨0, [], rfl, Nat.zero_le _, rfl, Below.refl _ _, Bld.nil _ _ _ _ _⟩
        case round =>
          obtain ⟨i, Y, rfl, hi, hy, hg⟩ := hrel
          obtain ⟨vo, hvo⟩ : ∃ x, x = u10 := ⟨_, rfl⟩
          subst hvo
          by_cases hin : i < n
          · have q0 : (0 : Int) ≤ i := by omega
            have q1 : (i : Int) < n := by omega
            have hil : i < l.length := by rw [HR.out.2.1]; exact hin
            obtain ⟨b, hbi⟩ : ∃ b, l[i]? = some b := ⟨_, List.getElem?_eq_getElem hil⟩
            have hbm : b ∈ l := List.mem_of_getElem? hbi
            have hbw : Below w.heap.size w wr := H5.out.1.trans (hg.below.mono H5.out.1.size)
            obtain ⟨ad, X, vF, rfl, hX, k0, k1, k2, hrf⟩ := (HR.out.1.below hbw).parts.2.2.2 i hin b hbi
            obtain ⟨AR, cR, hvF, _⟩ := hrf.form
            obtain ⟨T, hT⟩ : ∃ T, str b.2.1 = T := ⟨_, rfl⟩
            rw [hT] at k1
            have hOw := refOwn_any b.1 T vF b.2.2 nmR wr (by have := (HR.out.2.2 b hbm).1; omega) hrf
            have e0 : str nmR = { data := #[114, 101, 103, 105, 115, 116, 101, 114] } := rfl
            rw [e0] at hOw
            unfold OwE at hOw
            obtain ⟨o, ho⟩ : ∃ o, (b.2.2.find? fun f => f.2.1 == nmR) = o := ⟨_, rfl⟩
            rw [ho] at hOw
            obtain ⟨S1, FT, hfd, hof⟩ := fdO_atC o
            obtain ⟨S2, hS2⟩ : ∃ x, str FT = x := ⟨_, rfl⟩
            obtain ⟨a9, ha9⟩ : ∃ x, atO o = x := ⟨_, rfl⟩
            rw [hfd, hS2, ha9] at hOw
            obtain ⟨ob, hob⟩ : ∃ x, o.isSome = x := ⟨_, rfl⟩
            rw [hob] at hOw
            have hrg : regB b = !(ob && (S2.toList == [48])) := by
              unfold regB ownF
              rw [ho]
              cases o with
              | none => rw [← hob]; rfl
              | some f => rw [← hob, ← hS2, hof f rfl, str_toList]; rfl
            have HOw := Lib.hid hOw
            have hy1 : Y.length ≤ 1000 := by have h1 := rsK_len l i; rw [← hy, List.length_map] at h1; omega
            have HY := Lib.hid (And.intro hy (And.intro hg (And.intro hbi (And.intro hrg (And.intro hT (And.intro hbw hy1))))))
            have hk : ∀ W, Below wr.heap.size wr W → W.cell? X = some (.int .i64 b.1) ∧ W.cell? { block := X.block, off := X.off + 1 } = some (.string T) := fun W h => ⟨cell9_below k0 h, cell9_below k1 h⟩
            have HK := Lib.hid hk
            clear hOw hfd hof hS2 ha9 ho hob hrg hy hg hT hbw hbm hrf e0 hy1 hk
            subst hvF
            go_wp2_with fail
            with_reducible refine HOw.out.mono ?_
            rintro e V6 ⟨rfl, hb6⟩
            obtain ⟨V7, hV7⟩ : ∃ x, V6.alloc (.cells #[.int .i64 a9, .string S1, .string S2] 49) = x := ⟨_, rfl⟩
            have hb7 : Below wr.heap.size wr V7 := by rw [← hV7]; exact hb6.alloc hb6.size _
            have h7 : V7.heap[V6.heap.size]? = some (.cells #[.int .i64 a9, .string S1, .string S2] 49 (0, 0)) := by rw [← hV7]; exact (MapKept.heap_alloc V6 _).1
            have c2 := cell9_blk h7 2 rfl
            have HG7 := Lib.hid (HY.out.2.1.belowW hb7)
            have HB7 := Lib.hid hb7
            clear hb6 hb7 h7 k0 k1 k2
            obtain ⟨rg, hrg⟩ : ∃ x, (ob && (S2.toList == [48])) = x := ⟨_, rfl⟩
            cases hrc : rg
            case' true =>
              have hsk : rsB l i = none := by
                rw [rsB_doc HC.out.1 HY.out.2.2.1 (HC.out.2 i hil), HY.out.2.2.2.1, hrg, hrc]
                rfl
              have HS := Lib.hid hsk
              have hob : ob = true ∧ (S2.toList == [48]) = true := by rw [hrc, Bool.and_eq_true] at hrg; exact hrg
              obtain ⟨hob1, hob2⟩ := hob
              clear hsk hrg
              subst hob1
              go_wp2_with fail
              refine ⟨⟨i + 1, Y, by go_num, hin, ?_, HG7.out⟩, by simp [intOf]; omega⟩
              rw [rsK_succ, HS.out, HY.out.1]
              simp
            case' false =>
              rw [hrc] at hrg
              have hsk : rsB l i = some (b.1, b.2.1, rfF l i N) := by
                rw [rsB_doc HC.out.1 HY.out.2.2.1 (HC.out.2 i hil), HY.out.2.2.2.1, hrg, H4.out.2.2.1]
                rfl
              have HS := Lib.hid hsk
              obtain ⟨j0, j1⟩ := HK.out V7 HB7.out
              have HJ0 := Lib.hid (And.intro j0 j1)
              have HJ : Hid (∀ o, (V7.alloc o).cell? X = some (.int .i64 b.1) ∧ (V7.alloc o).cell? { block := X.block, off := X.off + 1 } = some (.string T)) := fun o => HK.out _ (HB7.out.alloc HB7.out.size o)
              clear hsk
              cases hoc : ob
              case' true =>
                rw [hoc, Bool.true_and] at hrg
                subst hoc
                go_wp2_with fail
              case' false =>
                clear hrg
                subst hoc
                go_wp2_with fail
              all_goals
                go_region_held3 (fun W => W.cell? X = some (.int .i64 b.1) ∧ W.cell? { block := X.block, off := X.off + 1 } = some (.string T)) (first | exact HJ.out _ | exact HJ0.out) (fail)
                have hG0 := HG7.out.begin (b.1, b.2.1, rfF l i N)
                dsimp only at hG0
                rw [HY.out.2.2.2.2.1] at hG0
                have HG0 := Lib.hid hG0
                clear hG0 j0 j1
                go_wp2_with fail
                go_loopw [15] (fun kv wi => ∃ (k : Nat) (vF : Value), kv = .int .i64 k ∧ k ≤ p ∧ Rgv wv wi V7.heap.size vo Y (b.1, b.2.1, rfF l i N) (rfF l i (N.take k)).length vF) (fun kv _ => p - (intOf kv).toNat)
                case atStart => exact ⟨0, _, rfl, Nat.zero_le _, HG0.out.drew⟩
                case round =>
                  obtain ⟨k, vF, rfl, hk, hG⟩ := hrel
                  obtain ⟨j, hj⟩ : ∃ j, (rfF l i (N.take k)).length = j := ⟨_, rfl⟩
                  rw [hj] at hG
                  obtain ⟨AF, cF, rfl, hcF1, hcF2, _⟩ := owns_formk hG.row
                  have hcb := hG.cell
                  dsimp only at hcb
                  rw [HY.out.2.2.2.2.1] at hcb
                  have hjl : j ≤ p := by
                    rw [← hj]
                    refine Nat.le_trans (List.length_filterMap_le _ _) ?_
                    rw [List.length_take]
                    omega
                  by_cases hkp : k < p
                  · have p0 : (0 : Int) ≤ k := by omega
                    have p1 : (k : Int) < p := by omega
                    have hkN : k < N.length := by rw [H4.out.2.2.2]; exact hkp
                    obtain ⟨nm, hnm⟩ : ∃ x, N[k] = x := ⟨_, rfl⟩
                    obtain ⟨bo, hz, hGt⟩ := H5.out.2.1 k nm (by rw [List.getElem?_eq_getElem hkN, hnm])
                    have hkZ : k < Z.length := by rw [H5.out.2.2.1]; exact hkp
                    obtain ⟨ad5, rfl, cz⟩ := (Rd.below H5.out.2.2.2.1 hG.belowv).at_ hkZ
                    have hze : Z[k] = slG n bo := by
                      rw [List.getElem?_eq_getElem hkZ] at hz
                      exact Option.some.inj hz
                    rw [hze] at cz
                    unfold slG at cz
                    obtain ⟨adN, rfl, cq⟩ := (Rd.below (A := AN) H4.out.2.1 (H5.out.2.2.2.2.trans (hG.belowv.mono H5.out.2.2.2.2.size))).at_ (k := k) (by rw [List.length_map]; exact hkN)
                    rw [List.getElem_map, hnm] at cq
                    unfold txC at cq
                    have hGw := hGt.below hG.belowv
                    have hgi := gts_get (nm := nm) hil
                    have htk : N.take (k + 1) = N.take k ++ [nm] := by rw [List.take_succ_eq_append_getElem hkN, hnm]
                    have hsn : rfF l i (N.take (k + 1)) = rfF l i (N.take k) ++ ((gotT l nm i).map fun v => (v.2, nm, v.1)).toList := by
                      rw [htk, rfF_append]
                      unfold rfF
                      rw [List.filterMap_cons, List.filterMap_nil]
                      cases gotT l nm i <;> rfl
                    obtain ⟨NS, hNS⟩ : ∃ x, str nm = x := ⟨_, rfl⟩
                    rw [hNS] at cq
                    have hlong : ∀ v, gotT l nm i = some v → v.1.length ≤ 4096 := fun v hv => by
                      rcases Nat.lt_or_ge 4096 v.1.length with h | h
                      · refine absurd (tooL_names.2 ⟨nm, by rw [H4.out.2.2.1, ← hnm]; exact List.getElem_mem hkN, ?_⟩) (HC.out.2 i hil)
                        rw [hv]
                        unfold gotC
                        dsimp only
                        rw [if_pos h]
                        exact ⟨rfl, rfl⟩
                      · exact h
                    obtain ⟨g9, hg9⟩ : ∃ x, wr.heap.size = x := ⟨_, rfl⟩
                    cases hgt : gotT l nm i with
                    | none =>
                      have hgc : gotC (gotT l nm i) = gt0 := by rw [hgt]; rfl
                      rw [hgc] at hgi
                      have g0 := hGw.cell (c := 0) hgi (by decide) rfl
                      have g1 := hGw.cell (c := 1) hgi (by decide) rfl
                      have g2 := hGw.cell (c := 2) hgi (by decide) rfl
                      have g3 := hGw.cell (c := 3) hgi (by decide) rfl
                      rw [Nat.add_zero] at g0
                      have e9 : str [] = { data := #[] } := rfl
                      dsimp only [gt0] at g0 g1 g2 g3
                      rw [e9] at g0
                      rw [hgt] at hsn
                      have HX := Lib.hid (And.intro hG (And.intro hsn hj))
                      clear hG hsn hj hgt hgc hgi hz hGt hze hkZ hGw htk hlong hcb e9 hkN hnm hNS
                      go_wp2_with fail
                      refine ⟨⟨k + 1, .slice AF j cF, by go_num, hkp, ?_⟩, by simp [intOf]; omega⟩
                      rw [HX.out.2.1]
                      simp only [Option.map_none, Option.toList_none, List.append_nil]
                      rw [HX.out.2.2]
                      exact HX.out.1.alloc _
                    | some gv =>
                      have hgc : gotC (gotT l nm i) = (gv.1, gv.2, true, false) := by
                        rw [hgt]
                        unfold gotC
                        dsimp only
                        rw [if_neg (by have := hlong gv hgt; omega)]
                      rw [hgc] at hgi
                      have g0 := hGw.cell (c := 0) hgi (by decide) rfl
                      have g1 := hGw.cell (c := 1) hgi (by decide) rfl
                      have g2 := hGw.cell (c := 2) hgi (by decide) rfl
                      have g3 := hGw.cell (c := 3) hgi (by decide) rfl
                      rw [Nat.add_zero] at g0
                      dsimp only at g0 g1 g2 g3
                      rw [hgt] at hsn
                      simp only [Option.map_some, Option.toList_some] at hsn
                      have hN2 : rfF l i N = rfF l i (N.take k) ++ ((gv.2, nm, gv.1) :: rfF l i (N.drop (k + 1))) := by
                        have e : rfF l i N = rfF l i (N.take (k + 1)) ++ rfF l i (N.drop (k + 1)) := by rw [← rfF_append, List.take_append_drop]
                        rw [e, hsn, List.append_assoc]
                        rfl
                      have hfj? : (rfF l i N)[j]? = some (gv.2, nm, gv.1) := by
                        rw [hN2, List.getElem?_append_right (by omega), hj, Nat.sub_self]
                        rfl
                      obtain ⟨GS, hGS⟩ : ∃ x, str gv.1 = x := ⟨_, rfl⟩
                      obtain ⟨GA, hGA⟩ : ∃ x, gv.2 = x := ⟨_, rfl⟩
                      rw [hGS] at g0
                      rw [hGA] at g1
                      have hfc : fdC (gv.2, nm, gv.1) = [.int .i64 GA, .string NS, .string GS] := by rw [← hGA, ← hNS, ← hGS]; rfl
                      obtain ⟨W1, hW1⟩ : ∃ x, wr.alloc (.cells #[.string GS, .int .i64 GA, .bool true, .bool false] 79) = x := ⟨_, rfl⟩
                      have hb1 : Below wr.heap.size wr W1 := by rw [← hW1]; exact (Below.refl _ _).alloc (Nat.le_refl _) _
                      have hG1 : Rgv wv W1 V7.heap.size vo Y (b.1, b.2.1, rfF l i N) j (.slice AF j cF) := by rw [← hW1]; exact hG.alloc _
                      have h9 : W1.heap[g9]? = some (.cells #[.string GS, .int .i64 GA, .bool true, .bool false] 79 (0, 0)) := by rw [← hW1, ← hg9]; exact (MapKept.heap_alloc wr _).1
                      have x0 := cell9_blk h9 0 rfl
                      have x1 := cell9_blk h9 1 rfl
                      have x2 := cell9_blk h9 2 rfl
                      have cq1 := cell9_below cq hb1
                      have hcb1 := (hb1.block _ (blk9_lt hcb)).trans hcb
                      have b2 := cell9_blk hcb1 2 (v := .slice AF j cF) rfl
                      have b2' : (W1.alloc (.cells #[.int .i64 GA, .string NS, .string GS] 49)).cell? ⟨V7.heap.size, 2, none⟩ = some (.slice AF j cF) := cell9_blk ((Below.heap_alloc W1 _ _ (blk9_lt hcb1)).trans hcb1) 2 rfl
                      obtain ⟨i0, hi0, hz0, hzz1, hzz2⟩ := info_parts fldInfoR
                      have HRr := Lib.hid (hG1.drew.row.alloc (.cells #[.int .i64 GA, .string NS, .string GS] 49))
                      have HRd : Hid (Rd (W1.drew.alloc (.cells #[.int .i64 GA, .string NS, .string GS] 49)) (some ⟨W1.heap.size, 0, none⟩) [.int .i64 GA, .string NS, .string GS]) := Rd.block (MapKept.heap_alloc W1.drew (.cells #[.int .i64 GA, .string NS, .string GS] 49)).1
                      have HS0 : Hid (W1.drew.cell? { block := g9, off := 0 } = some (.string GS) ∧ W1.drew.cell? { block := g9, off := 1 } = some (.int .i64 GA) ∧ W1.drew.cell? (adN.add k) = some (.string NS)) := ⟨x0, x1, cq1⟩
                      have hdrA : Below W1.heap.size W1 W1.drew := ⟨rfl, rfl, rfl, Nat.le_refl _, fun _ _ => rfl⟩
                      have hbA : Below W1.heap.size W1 (W1.drew.alloc (.cells #[.int .i64 GA, .string NS, .string GS] 49)) := hdrA.alloc (Nat.le_refl _) _
                      have HSA : Hid ((W1.drew.alloc (.cells #[.int .i64 GA, .string NS, .string GS] 49)).cell? { block := g9, off := 0 } = some (.string GS) ∧ (W1.drew.alloc (.cells #[.int .i64 GA, .string NS, .string GS] 49)).cell? { block := g9, off := 1 } = some (.int .i64 GA) ∧ (W1.drew.alloc (.cells #[.int .i64 GA, .string NS, .string GS] 49)).cell? (adN.add k) = some (.string NS)) := ⟨cell9_below x0 hbA, cell9_below x1 hbA, cell9_below cq1 hbA⟩
                      have b3 : W1.drew.cell? ⟨V7.heap.size, 2, none⟩ = some (.slice AF j cF) := b2
                      have b3' : (W1.drew.alloc (.cells #[.int .i64 GA, .string NS, .string GS] 49)).cell? ⟨V7.heap.size, 2, none⟩ = some (.slice AF j cF) := cell9_below b2 hbA
                      have hadN : (adN.add k).block < V7.heap.size := by
                        obtain ⟨ad', e, c4⟩ := Rd.at_ (A := some adN) H4.out.2.1 (k := k) (by rw [List.length_map]; exact hkN)
                        injection e with e
                        subst e
                        have h1 := World.block_lt_of_cell? V4 _ c4
                        have h2 := H5.out.2.2.2.2.size
                        have h3 := HG7.out.below.size
                        omega
                      have hrt : ∀ q, (Value.slice AF j cF).ownBlock = some q → V7.heap.size + 1 ≤ q ∧ q ≠ g9 := fun q hq => by
                        refine ⟨(hG1.row.lt q hq).1, fun e => ?_⟩
                        obtain ⟨cur, fr, h0⟩ := own_typed hG1.row q hq
                        rw [e, h9] at h0
                        injection h0 with h0
                        injection h0 with _ h0
                        exact absurd h0 (by decide)
                      have HNe : Hid (g9 < W1.heap.size ∧ (Value.slice AF j cF).ownBlock ≠ some g9 ∧ (adN.add k).block < W1.heap.size ∧ (Value.slice AF j cF).ownBlock ≠ some (adN.add k).block ∧ g9 ≠ V7.heap.size ∧ (adN.add k).block ≠ V7.heap.size) := by
                        have h1 := blk9_lt h9
                        have h2 := hG.low.2
                        have h3 := blk9_lt hcb1
                        exact ⟨h1, fun e => (hrt _ e).2 rfl, by omega, fun e => by have := (hrt _ e).1; omega, by omega, by omega⟩
                      have HBZ := Lib.hid (show V7.heap.size + 1 ≤ (W1.alloc (.cells #[.int .i64 GA, .string NS, .string GS] 49)).heap.size by rw [World.size_alloc]; have := hG1.low.2; omega)
                      have HONE := Lib.hid (show ∀ u ∈ [Value.int .i64 GA, .string NS, .string GS], u.oneCell' = true by
                        intro u hu
                        simp only [List.mem_cons, List.not_mem_nil, or_false] at hu
                        rcases hu with rfl | rfl | rfl <;> rfl)
                      have HF := Lib.hid (And.intro hfj? (And.intro hfc (And.intro hsn hj)))
                      have HGk := Lib.hid hG1
                      have hj6 : j ≤ 1000000 := by omega
                      clear hG hsn hj hgt hgc hgi hz hGt hze hkZ hGw htk hlong hcb hkN hnm hNS hN2 hfj? hGS hGA hfc hb1 hG1 h9 hcb1 hadN hrt hbA hdrA
                      have HW1 := Lib.hid hW1
                      clear hW1
                      go_upto_region 21 with fail
                      rw [HW1.out]
                      go_wp2_with fail
                      refine wp_region_noPanic ?_
                      refine wp_region_held_drew (S := fun W => W.cell? { block := g9, off := 0 } = some (.string GS) ∧ W.cell? { block := g9, off := 1 } = some (.int .i64 GA) ∧ W.cell? (adN.add k) = some (.string NS)) (by kernel_rfl) HS0.out (fun hHeld => ?_)
                      refine' wpAnyH_take (i := 0) (oi := { dst := some 89, op := Go.Op.fieldAddr 52 (Go.Operand.tmp 14) 2, type := 0, pos := "ref.go:215", after := #[], guard := none }) (v := _) rfl (by kernel_rfl) (by kernel_rfl) (by kernel_rfl) (fun _ _ _ h => h) (Or.inl ⟨by rfl, ?_⟩) (by assumption) ?_
                      rotate_left
                      · (intro W hSw; go_simp; try with_reducible rfl)
                      try simp only [Act.put, List.setIfInBounds_toArray, List.set_cons_zero, List.set_cons_succ]
                      refine' wpAnyH_take (i := 2) (oi := { dst := some 91, op := Go.Op.fieldAddr 79 (Go.Operand.tmp 16) 1, type := 0, pos := "ref.go:215", after := #[], guard := none }) (v := _) rfl (by kernel_rfl) (by kernel_rfl) (by kernel_rfl) (fun _ _ _ h => h) (Or.inl ⟨by rfl, ?_⟩) (by assumption) ?_
                      rotate_left
                      · (intro W hSw; go_simp; try with_reducible rfl)
                      try simp only [Act.put, List.setIfInBounds_toArray, List.set_cons_zero, List.set_cons_succ]
                      refine' wpAnyH_take (i := 3) (oi := { dst := some 92, op := Go.Op.load 3 (Go.Operand.tmp 91), type := 3, pos := "ref.go:215", after := #[{ on := 2, ground := Go.Ground.data }], guard := none }) (v := _) rfl (by kernel_rfl) (by kernel_rfl) (by kernel_rfl) (fun _ _ _ h => h) (Or.inl ⟨by rfl, ?_⟩) (by assumption) ?_
                      rotate_left
                      · (intro W hSw; obtain ⟨a0, a1, a2⟩ := hSw; go_simp; try with_reducible rfl)
                      try simp only [Act.put, List.setIfInBounds_toArray, List.set_cons_zero, List.set_cons_succ]
                      refine' wpAnyH_take (i := 4) (oi := { dst := some 93, op := Go.Op.move (Go.Operand.tmp 7), type := 71, pos := "ref.go:215", after := #[], guard := none }) (v := _) rfl (by kernel_rfl) (by kernel_rfl) (by kernel_rfl) (fun _ _ _ h => h) (Or.inl ⟨by rfl, ?_⟩) (by assumption) ?_
                      rotate_left
                      · (intro W hSw; go_simp; try with_reducible rfl)
                      try simp only [Act.put, List.setIfInBounds_toArray, List.set_cons_zero, List.set_cons_succ]
                      refine' wpAnyH_take (i := 5) (oi := { dst := some 94, op := Go.Op.move (Go.Operand.tmp 15), type := 3, pos := "ref.go:215", after := #[], guard := none }) (v := _) rfl (by kernel_rfl) (by kernel_rfl) (by kernel_rfl) (fun _ _ _ h => h) (Or.inl ⟨by rfl, ?_⟩) (by assumption) ?_
                      rotate_left
                      · (intro W hSw; go_simp; try with_reducible rfl)
                      try simp only [Act.put, List.setIfInBounds_toArray, List.set_cons_zero, List.set_cons_succ]
                      refine' wpAnyH_take (i := 6) (oi := { dst := some 95, op := Go.Op.indexAddr 71 (Go.Operand.tmp 93) (Go.Operand.tmp 94), type := 0, pos := "ref.go:215", after := #[{ on := 4, ground := Go.Ground.data }, { on := 5, ground := Go.Ground.data }], guard := none }) (v := _) rfl (by kernel_rfl) (by kernel_rfl) (by kernel_rfl) (fun _ _ _ h => h) (Or.inl ⟨by rfl, ?_⟩) (by assumption) ?_
                      rotate_left
                      · (intro W hSw; go_simp; try with_reducible rfl)
                      try simp only [Act.put, List.setIfInBounds_toArray, List.set_cons_zero, List.set_cons_succ]
                      refine' wpAnyH_take (i := 7) (oi := { dst := some 96, op := Go.Op.load 9 (Go.Operand.tmp 95), type := 9, pos := "ref.go:215", after := #[{ on := 6, ground := Go.Ground.data }], guard := none }) (v := _) rfl (by kernel_rfl) (by kernel_rfl) (by kernel_rfl) (fun _ _ _ h => h) (Or.inl ⟨by rfl, ?_⟩) (by assumption) ?_
                      rotate_left
                      · (intro W hSw; obtain ⟨a0, a1, a2⟩ := hSw; go_simp; try with_reducible rfl)
                      try simp only [Act.put, List.setIfInBounds_toArray, List.set_cons_zero, List.set_cons_succ]
                      refine' wpAnyH_take (i := 8) (oi := { dst := some 97, op := Go.Op.fieldAddr 79 (Go.Operand.tmp 16) 0, type := 0, pos := "ref.go:215", after := #[], guard := none }) (v := _) rfl (by kernel_rfl) (by kernel_rfl) (by kernel_rfl) (fun _ _ _ h => h) (Or.inl ⟨by rfl, ?_⟩) (by assumption) ?_
                      rotate_left
                      · (intro W hSw; go_simp; try with_reducible rfl)
                      try simp only [Act.put, List.setIfInBounds_toArray, List.set_cons_zero, List.set_cons_succ]
                      refine' wpAnyH_take (i := 9) (oi := { dst := some 98, op := Go.Op.load 9 (Go.Operand.tmp 97), type := 9, pos := "ref.go:215", after := #[{ on := 8, ground := Go.Ground.data }], guard := none }) (v := _) rfl (by kernel_rfl) (by kernel_rfl) (by kernel_rfl) (fun _ _ _ h => h) (Or.inl ⟨by rfl, ?_⟩) (by assumption) ?_
                      rotate_left
                      · (intro W hSw; obtain ⟨a0, a1, a2⟩ := hSw; go_simp; try with_reducible rfl)
                      try simp only [Act.put, List.setIfInBounds_toArray, List.set_cons_zero, List.set_cons_succ]
                      refine' wpAnyH_take (i := 10) (oi := { dst := some 99, op := Go.Op.build 49 #[(0, Go.Operand.tmp 92), (1, Go.Operand.tmp 96), (2, Go.Operand.tmp 98)], type := 49, pos := "ref.go:215", after := #[{ on := 3, ground := Go.Ground.data }, { on := 7, ground := Go.Ground.data }, { on := 9, ground := Go.Ground.data }], guard := none }) (v := _) rfl (by kernel_rfl) (by kernel_rfl) (by kernel_rfl) (fun _ _ _ h => h) (Or.inl ⟨by rfl, ?_⟩) (by assumption) ?_
                      rotate_left
                      · (intro W hSw; go_simp; try with_reducible rfl)
                      try simp only [Act.put, List.setIfInBounds_toArray, List.set_cons_zero, List.set_cons_succ]
                      refine wpAnyH_ready (rs := [1, 11]) (by kernel_rfl) (by simp) ?_
                      refine AllReadyH.cons (o := { dst := some 90, op := Go.Op.load 50 (Go.Operand.tmp 89), type := 50, pos := "ref.go:215", after := #[{ on := 0, ground := Go.Ground.data }], guard := none }) rfl (fun K hK => ?_) (AllReadyH.cons (o := { dst := some 100, op := Go.Op.buildSlice 50 1 #[(0, Go.Operand.tmp 99)], type := 50, pos := "ref.go:215", after := #[{ on := 10, ground := Go.Ground.data }], guard := none }) rfl (fun K hK => ?_) AllReadyH.nil)
                      go_simp
                      refine hK.out _ _ (by first | exact hHeld | exact HSA.out) (fun hHeld => ?_)
                      clear hK K
                      try simp only [Act.put, List.setIfInBounds_toArray, List.set_cons_zero, List.set_cons_succ]
                      refine wpAnyH_ready (rs := [11]) (by kernel_rfl) (by simp) ?_
                      refine AllReadyH.cons (o := { dst := some 100, op := Go.Op.buildSlice 50 1 #[(0, Go.Operand.tmp 99)], type := 50, pos := "ref.go:215", after := #[{ on := 10, ground := Go.Ground.data }], guard := none }) rfl (fun K hK => ?_) AllReadyH.nil
                      go_simp
                      refine hK.out _ _ (by first | exact hHeld | exact HSA.out) (fun hHeld => ?_)
                      clear hK K
                      try simp only [Act.put, List.setIfInBounds_toArray, List.set_cons_zero, List.set_cons_succ]
                      rotate_left
                      go_simp
                      refine hK.out _ _ (by first | exact hHeld | exact HSA.out) (fun hHeld => ?_)
                      clear hK K
                      try simp only [Act.put, List.setIfInBounds_toArray, List.set_cons_zero, List.set_cons_succ]
                      refine wpAnyH_ready (rs := [1]) (by kernel_rfl) (by simp) ?_
                      refine AllReadyH.cons (o := { dst := some 90, op := Go.Op.load 50 (Go.Operand.tmp 89), type := 50, pos := "ref.go:215", after := #[{ on := 0, ground := Go.Ground.data }], guard := none }) rfl (fun K hK => ?_) AllReadyH.nil
                      go_simp
                      refine hK.out _ _ (by first | exact hHeld | exact HSA.out) (fun hHeld => ?_)
                      clear hK K
                      try simp only [Act.put, List.setIfInBounds_toArray, List.set_cons_zero, List.set_cons_succ]
                      all_goals
                        refine wpAnyH_ready (rs := [12]) (by kernel_rfl) (by simp) ?_
                        refine AllReadyH.cons (o := { dst := some 101, op := Go.Op.call { callee := Go.Callee.builtin Go.Builtin.append, args := #[Go.Operand.tmp 90, Go.Operand.tmp 100], argTypes := #[50, 50] }, type := 50, pos := "ref.go:215", after := #[{ on := 1, ground := Go.Ground.data }, { on := 11, ground := Go.Ground.data }], guard := none }) rfl (fun K hK => ?_) AllReadyH.nil
                        refine step_appK (by rfl) (.tmp 90) (.tmp 100) _ (by rfl) Tryz.underlying50 fldInfoR rfl (by omega) (V7.heap.size + 1) (.slice AF j cF) j (((rfF l i N).take j).flatMap fdC) (by rfl) HRr.out (some ⟨W1.heap.size, 0, none⟩) 1 1 [.int .i64 GA, .string NS, .string GS] (by rfl) rfl HRd.out HONE.out (by unfold maxLen; omega) (by omega) HBZ.out ?_
                        intro v9 w9 ho9 hgr9 _
                        have hcl : ∀ (q : Addr), q.block < W1.heap.size → (Value.slice AF j cF).ownBlock ≠ some q.block → w9.cell? q = W1.cell? q := fun q h1 h2 => World.cell?_of_block ((hgr9.block q.block (by show _ < (W1.alloc _).heap.size; rw [World.size_alloc]; exact Nat.lt_succ_of_lt h1) (fun e => h2 e.symm)).trans (Below.heap_alloc W1.drew _ q.block h1))
                        refine hK.out _ _ ⟨(hcl _ HNe.out.1 HNe.out.2.1).trans HS0.out.1, (hcl _ HNe.out.1 HNe.out.2.1).trans HS0.out.2.1, (hcl _ HNe.out.2.2.1 HNe.out.2.2.2.1).trans HS0.out.2.2⟩ (fun hHeld => ?_)
                        clear hK K
                        obtain ⟨gF, capF, hv9, _, _⟩ := ho9.form (by omega)
                        subst hv9
                        rw [← HF.out.2.1] at ho9
                        have hfe := HGk.out.field (List.getElem?_eq_some_iff.1 HF.out.1).1 (List.getElem?_eq_some_iff.1 HF.out.1).2 ⟨hgr9.os, hgr9.tape, hgr9.output, hgr9.size, hgr9.block⟩ ho9
                        have kz := cell9_blk hfe.1 2 (v := .slice AF j cF) rfl
                        have fz := frz9_blk hfe.1 2
                        have HX := Lib.hid hfe.2
                        clear ho9 hgr9 hfe hcl
                        try simp only [Act.put, List.setIfInBounds_toArray, List.set_cons_zero, List.set_cons_succ]
                        refine' wpAnyH_take (i := 13) (oi := { dst := some 102, op := Go.Op.fieldAddr 52 (Go.Operand.tmp 14) 2, type := 0, pos := "ref.go:215", after := #[{ on := 0, ground := Go.Ground.phase }, { on := 1, ground := Go.Ground.phase }, { on := 2, ground := Go.Ground.phase }, { on := 3, ground := Go.Ground.phase }, { on := 4, ground := Go.Ground.phase }, { on := 5, ground := Go.Ground.phase }, { on := 6, ground := Go.Ground.phase }, { on := 7, ground := Go.Ground.phase }, { on := 8, ground := Go.Ground.phase }, { on := 9, ground := Go.Ground.phase }, { on := 10, ground := Go.Ground.phase }, { on := 11, ground := Go.Ground.phase }, { on := 12, ground := Go.Ground.phase }], guard := none }) (v := _) rfl (by kernel_rfl) (by kernel_rfl) (by kernel_rfl) (fun _ _ _ h => h) (Or.inl ⟨by rfl, ?_⟩) (by assumption) ?_
                        rotate_left
                        · (intro W hSw; go_simp; try with_reducible rfl)
                        try simp only [Act.put, List.setIfInBounds_toArray, List.set_cons_zero, List.set_cons_succ]
                        refine wpAnyH_ready (rs := [14]) (by kernel_rfl) (by simp) ?_
                        refine AllReadyH.cons (o := { dst := none, op := Go.Op.store 50 (Go.Operand.tmp 102) (Go.Operand.tmp 101), type := 0, pos := "ref.go:215", after := #[{ on := 13, ground := Go.Ground.data }, { on := 12, ground := Go.Ground.data }, { on := 12, ground := Go.Ground.chain }, { on := 0, ground := Go.Ground.phase }, { on := 1, ground := Go.Ground.phase }, { on := 2, ground := Go.Ground.phase }, { on := 3, ground := Go.Ground.phase }, { on := 4, ground := Go.Ground.phase }, { on := 5, ground := Go.Ground.phase }, { on := 6, ground := Go.Ground.phase }, { on := 7, ground := Go.Ground.phase }, { on := 8, ground := Go.Ground.phase }, { on := 9, ground := Go.Ground.phase }, { on := 10, ground := Go.Ground.phase }, { on := 11, ground := Go.Ground.phase }, { on := 12, ground := Go.Ground.phase }], guard := none }) rfl (fun K hK => ?_) AllReadyH.nil
                        go_simp
                        refine hK.out _ _ ⟨(World.cell?_of_block (a := { block := g9, off := 0 }) (Below.heap_setCell _ _ _ _ HNe.out.2.2.2.2.1)).trans hHeld.1, (World.cell?_of_block (a := { block := g9, off := 1 }) (Below.heap_setCell _ _ _ _ HNe.out.2.2.2.2.1)).trans hHeld.2.1, (World.cell?_of_block (a := adN.add k) (Below.heap_setCell _ _ _ _ HNe.out.2.2.2.2.2)).trans hHeld.2.2⟩ (fun hHeld => ?_)
                        clear hK K
                        try simp only [Act.put, List.setIfInBounds_toArray, List.set_cons_zero, List.set_cons_succ]
                        refine wpAnyH_done (by kernel_rfl) ?_ _
                        refine NoPanic.normal ?_
                        simp only [Exit.inBlock, Exit.then]
                        clear b2 b2' b3 b3' kz fz hi0 hz0 hzz1 hzz2 hHeld
                        go_wp2_with fail
                        refine ⟨⟨k + 1, .slice (some ⟨gF, 0, none⟩) (j + 1) capF, by go_num, hkp, ?_⟩, by simp [intOf]; omega⟩
                        rw [HF.out.2.2.1, List.length_append, HF.out.2.2.2]
                        first | exact HX.out | exact HX.out.drew
                  · obtain rfl : p = k := by omega
                    have hfull : N.take p = N := List.take_of_length_le (by rw [H4.out.2.2.2]; exact Nat.le_refl _)
                    rw [hfull] at hj
                    have b0 := cell9_blk hcb 0 (v := .int .i64 b.1) rfl
                    have b1 := cell9_blk hcb 1 (v := .string T) rfl
                    have b2 := cell9_blk hcb 2 (v := .slice AF j cF) rfl
                    have hvf := hG.bld.own
                    obtain ⟨ny, hny⟩ : ∃ ny, Y.length = ny := ⟨_, rfl⟩
                    rw [hny] at hvf
                    have hny9 : ny ≤ 1000 := by rw [← hny]; exact HY.out.2.2.2.2.2.2
                    have HRr := Lib.hid (hvf.alloc (.cells #[.int .i64 b.1, .string T, .slice AF j cF] 52))
                    obtain ⟨i0, hi0, hz0, hzz1, hzz2⟩ := info_parts blkInfoR
                    have HBZ := Lib.hid (show wv.heap.size ≤ (wr.alloc (.cells #[.int .i64 b.1, .string T, .slice AF j cF] 52)).heap.size by rw [World.size_alloc]; have := hG.below.size; omega)
                    have HONE := Lib.hid (show ∀ u ∈ [Value.int .i64 b.1, .string T, .slice AF j cF], u.oneCell' = true by
                      intro u hu
                      simp only [List.mem_cons, List.not_mem_nil, or_false] at hu
                      rcases hu with rfl | rfl | rfl <;> rfl)
                    have HGk := Lib.hid (And.intro hG (And.intro hj hny))
                    clear hG hj hny hvf hcb hfull
                    go_wp2_with
                      (at_builtin
                       refine wpList_appBk rfl (.tmp 103) (.tmp 105) Tryz.underlying22 hi0 hz0 hzz1 hzz2 rfl wv.heap.size vo ny (Y.flatMap bkC) rfl HRr.out wr.heap.size (.int .i64 b.1) (.string T) (.slice AF j cF) rfl (MapKept.heap_alloc wr _).1 HONE.out (by omega) HBZ.out ?_)
                    intro gb cap w4 hown4 hgrow4
                    rw [← HY.out.2.2.2.2.1] at hown4
                    have hdn := Rgv.done (b := (b.1, b.2.1, rfF l i N)) (by dsimp only; rw [HGk.out.2.1]; exact HGk.out.1) HGk.out.2.2 hgrow4 hown4
                    have HD := Lib.hid hdn
                    clear hdn hown4 hgrow4 b0 b1 b2
                    go_wp2_with fail
                    refine ⟨⟨i + 1, _, by go_num, hin, ?_, HD.out⟩, by simp [intOf]; omega⟩
                    rw [List.map_append, HY.out.1, rsK_succ, HS.out]
                    rfl
          · obtain rfl : n = i := by omega
            have HG := Lib.hid (And.intro hy hg)
            clear hy hg
            go_wp2_with fail
            refine bodyPost_ret (results_tmp3 rfl _ _ _) rfl ?_
            have h := HG.out.2.bld.rowB
            rw [HG.out.1] at h
            exact ⟨⟨_, rfl, by rw [HR.out.2.1]; exact h⟩, H5.out.1.trans (HG.out.2.below.mono H5.out.1.size)⟩
end Go.Proofs.YthnogakjaaopkaaGreatDoor

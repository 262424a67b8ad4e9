/- Contract: the reader begins a block. -/
import Derived.Test.YtbeehedppofpnaaGreatDoorBkC
import Derived.Deep.AppendLies
import Derived.Deep.RegionLaw
namespace Go.Proofs.YtbeehedppofpnaaGreatDoor
open Go.RowKit

/-- A begin: the error's number; the block. -/
def stB (out : List Bk) (p : Nat × Tx) : Nat × Option Bk :=
  match headT p.2 with
  | none => (3, none)
  | some k => if wordT k = false then (11, none) else if 1024 ≤ out.length then (10, none) else (0, some (p.1, k, []))
theorem errE_num {k : Nat} (h : k ≠ 0) : errE k = errK k := if_neg h
/-- The world behind a begin's append. -/
theorem begin_grow {w1 w2 : World} {base g gb cap n : Nat} {out : List Bk} {k : Tx} {at_ : Nat} {v m : Value} {Z : List (MB × Value)} {o : Obj} {S : ByteArray} (hS : str k = S) (hn : Z.length = n) (hlow : base ≤ g) (hb1 : base ≤ w1.heap.size)
    (hc : w1.heap[g]? = some (.cells #[v, .bool false, m] 55 (0, 0))) (hs : Z.map (·.1) = out.map iB) (hB : Bld w1 base w1.heap.size 46 48 v Z)
    (hown : w2.ownsRow base 46 3 (.slice (some ⟨gb, 0, none⟩) (n + 1) cap) (n + 1) (Z.flatMap bkC ++ [.int .i64 at_, .string S, .slice none 0 0])) (hg : (w1.alloc o).drew.grownBy w2 v.ownBlock) :
    w2.heap[g]? = some (.cells #[v, .bool false, m] 55 (0, 0)) ∧ Kp9 base w1 w2 ∧
      ∀ w3 mb, w3.heap[g]? = some (.cells #[.slice (some ⟨gb, 0, none⟩) (n + 1) cap, .bool true, .map (some mb)] 55 (0, 0)) → w2.heap.size ≤ mb → NmIs w3 mb [] → w2.heap.size ≤ w3.heap.size → (∀ i, i < w2.heap.size → i ≠ g → w3.heap[i]? = w2.heap[i]?) → Rd9 w3 base g out (some (at_, k, [])) := by
  subst hS
  have hg' : (w1.alloc o).grownBy w2 v.ownBlock := ⟨hg.os, hg.tape, hg.output, hg.size, hg.block⟩
  have hB' : Bld (w1.alloc o) base (w1.alloc o).heap.size 46 48 v Z := hB.below ((Below.refl _ w1).alloc (Nat.le_refl _) o)
  have hc' : (w1.alloc o).heap[g]? = some (.cells #[v, .bool false, m] 55 (0, 0)) := (Below.heap_alloc w1 o g (blk_lt hc)).trans hc
  have hgr : w2.heap[g]? = some (.cells #[v, .bool false, m] 55 (0, 0)) := (hg'.block g (blk_lt hc') (row_ne hB'.own hc' (by decide))).trans hc'
  have hty := own_typed hB'.own
  refine ⟨hgr, ?_, ?_⟩
  · refine ((Kp9.refl base w1).alloc hb1 o).grown hg' (by rw [World.size_alloc]; omega) fun k hk => ⟨(hB'.own.lt k hk).1, fun cs e fr h0 => ?_⟩
    obtain ⟨cs', fr', h1⟩ := hty k hk
    rw [h0] at h1
    injection h1 with h1
    injection h1 with _ h1
    exact .inl h1
  · intro w3 mb h3 hmb hnm hsz hk
    have hgb := blk_lt hgr
    have hneg : ∀ q cs fr, w2.heap[q]? = some (Obj.cells cs 48 fr) → q ≠ g := by
      rintro q cs fr h0 rfl
      rw [hgr] at h0
      injection h0 with h0
      injection h0 with _ h0
      exact absurd h0 (by decide)
    have hrows : ∀ p ∈ Z, HeldF w2 base w2.heap.size 48 p.2 p.1.2.2 := fun p hp => by
      refine ((hB'.rows p hp).grown hg' fun q hq => ?_).keep (Nat.le_refl _) hg'.size fun _ _ _ _ _ _ => rfl
      obtain ⟨cs, fr, h0⟩ := hty q hq
      exact .inr (.inr ⟨cs, _, fr, h0, by decide⟩)
    refine ⟨.slice (some ⟨gb, 0, none⟩) (n + 1) cap, .slice none 0 0, mb, w2.heap.size, Z, ?_⟩
    have hbase : base ≤ w2.heap.size := by have := hg'.size; rw [World.size_alloc] at this; omega
    exact
      { low := ⟨hlow, hbase, hsz, by omega⟩
        cell := h3
        same := hs
        own := by
          rw [hn, bkcat_snoc]
          exact own_block hown fun i hi => by
            obtain ⟨cs, fr, h0⟩ := own_typed hown i hi
            refine hk i (blk_lt h0) ?_
            rintro rfl
            rw [hgr] at h0
            injection h0 with h0
            injection h0 with _ h0
            exact absurd h0 (by decide)
        rows := fun p hp => (hrows p hp).keep (Nat.le_refl _) (Nat.le_refl _) fun b cs fr _ h2 h0 => hk b h2 (hneg b cs fr h0)
        last := World.ownsRow_nil _ _ _ _
        names := hnm }
theorem begin_end {w w1 w2 w3 w4 : World} {base g : Nat} {out : List Bk} {cur : Option Bk} {v v' m : Value} {bo : Bool} (h1 : Kp9 base w w1) (h2 : Kp9 base w1 w2) (hg2 : w2.heap[g]? = some (.cells #[v, .bool bo, m] 55 (0, 0)))
    (F : ∀ w3 mb, w3.heap[g]? = some (.cells #[v', .bool true, .map (some mb)] 55 (0, 0)) → w2.heap.size ≤ mb → NmIs w3 mb [] → w2.heap.size ≤ w3.heap.size → (∀ i, i < w2.heap.size → i ≠ g → w3.heap[i]? = w2.heap[i]?) → Rd9 w3 base g out cur)
    (h3 : Below base w2 w3 ∧ w3.heap.size = w2.heap.size ∧ ∀ i, i ≠ g → w3.heap[i]? = w2.heap[i]?) (h4 : Below base w3 w4 ∧ w4.heap.size = w3.heap.size ∧ ∀ i, i ≠ g → w4.heap[i]? = w3.heap[i]?)
    (hg4 : (w4.alloc (.map #[] 0)).heap[g]? = some (.cells #[v', .bool true, m] 55 (0, 0))) (hlow : base ≤ g) (hb : base ≤ w1.heap.size) :
    Kp9 base w ((w4.alloc (.map #[] 0)).setCell ⟨g, 2, none⟩ (.map (some w4.heap.size))) ∧ Rd9 ((w4.alloc (.map #[] 0)).setCell ⟨g, 2, none⟩ (.map (some w4.heap.size))) base g out cur := by
  have hgl := blk_lt hg2
  have hs5 : ((w4.alloc (.map #[] 0)).setCell ⟨g, 2, none⟩ (.map (some w4.heap.size))).heap.size = w2.heap.size + 1 := by
    have : ((w4.alloc (.map #[] 0)).setCell ⟨g, 2, none⟩ (.map (some w4.heap.size))).heap.size = (w4.alloc (.map #[] 0)).heap.size := by simp [World.setCell]
    rw [this, World.size_alloc, h4.2.1, h3.2.1]
  have hk5 : ∀ i, i < w2.heap.size → i ≠ g → ((w4.alloc (.map #[] 0)).setCell ⟨g, 2, none⟩ (.map (some w4.heap.size))).heap[i]? = w2.heap[i]? := fun i hi hne =>
    (heap_setCell_other _ _ i _ hne).trans ((Below.heap_alloc w4 _ i (by rw [h4.2.1, h3.2.1]; exact hi)).trans ((h4.2.2 i hne).trans (h3.2.2 i hne)))
  have hb2 : base ≤ w2.heap.size := Nat.le_trans hb h2.below.size
  constructor
  · refine (h1.trans h2).trans ⟨?_, fun k cs e fr h0 _ _ he => (hk5 k (blk_lt h0) ?_).trans h0⟩
    · exact ((h3.1.trans h4.1).alloc (by rw [h4.2.1, h3.2.1]; exact hb2) _).setCell hlow _
    · rintro rfl
      rw [hg2] at h0
      injection h0 with h0
      injection h0 with _ h0
      exact he h0.symm
  · have e4 : w4.heap.size = w2.heap.size := by rw [h4.2.1, h3.2.1]
    refine F _ w4.heap.size (heap_setCell_same _ g 2 _ _ _ hg4) (by omega) ((NmIs.made w4).block (heap_setCell_other _ _ _ _ (show w4.heap.size ≠ g by omega))) (by omega) hk5
set_option maxHeartbeats 2000000 in
set_option maxRecDepth 100000 in
theorem begin_any (base g : Nat) (out : List Bk) (at_ : Nat) (t : Tx) (w : World) (ht : Solid t) (ho : out.length ≤ 1024) (hb0 : base ≤ w.heap.size) (hs : Out9 w base g out) :
    Calls Tryz.prog 34 #[.pointer (some ⟨g, 0, none⟩), .agg #[.int .i64 (at_ : Int), .string (str t)]] w fun e w' => e = .returned (errE (stB out (at_, t)).1) ∧ Kp9 base w w' ∧ ((stB out (at_, t)).1 = 0 → Rd9 w' base g out (stB out (at_, t)).2) := by
  have hkl : (kindP t).length ≤ 4096 := Nat.le_trans (kind_len t) ht.2.2
  have HK := Lib.hid (fun W => kindOf_any t W ht)
  have hd := head_kind ht
  obtain ⟨K, hK⟩ : ∃ K, kindP t = K := ⟨_, rfl⟩
  rw [hK] at hkl HK hd
  have HW := Lib.hid (fun W => isWord_any K W (by omega))
  have e2 : ∀ x, x = stB out (at_, t) → stB out (at_, t) = x := fun x h => h.symm
  have hst : stB out (at_, t) = if K = [] then (3, none) else if wordT K = false then (11, none) else if 1024 ≤ out.length then (10, none) else (0, some (at_, K, [])) := by
    unfold stB
    simp only []
    rw [hd]
    split
    · rename_i h
      split at h
      · rename_i h1
        rw [if_pos h1]
      · cases h
    · rename_i k h
      split at h
      · cases h
      · rename_i h1
        injection h with h
        subst h
        rw [if_neg h1]
  rw [hst]
  clear hK hd hst e2
  obtain ⟨v, m, Z, hc, hzs, hbl⟩ := hs.st
  obtain ⟨A, c, rfl, hc1, hc2, hzl, hrd, _⟩ := owns_formk hbl.own
  have hn : Z.length = out.length := by have := congrArg List.length hzs; simpa using this
  obtain ⟨n, hnn⟩ : ∃ n, Z.length = n := ⟨_, rfl⟩
  rw [hnn] at hc hbl
  have hno : out.length = n := by omega
  rw [hno] at ho ⊢
  have hw1b : base ≤ (w.alloc (.cells #[.int .i64 (at_ : Int), .string (str t)] 57)).heap.size := by rw [World.size_alloc]; omega
  have HS : Hid (∀ W, Below (w.alloc (.cells #[.int .i64 (at_ : Int), .string (str t)] 57)).heap.size (w.alloc (.cells #[.int .i64 (at_ : Int), .string (str t)] 57)) W → W.heap[g]? = some (.cells #[.slice A n c, .bool false, m] 55 (0, 0)) ∧ W.heap[w.heap.size]? = some (.cells #[.int .i64 (at_ : Int), .string (str t)] 57 (0, 0)) ∧ Bld W base W.heap.size 46 48 (.slice A n c) Z ∧ Kp9 base w W) := by
    intro W hW
    have h0 := (Below.refl w.heap.size w).alloc (Nat.le_refl _) (.cells #[.int .i64 (at_ : Int), .string (str t)] 57)
    have h1 := h0.trans (hW.mono h0.size)
    exact ⟨(h1.block _ (blk_lt hc)).trans hc, (hW.block _ (by rw [World.size_alloc]; exact Nat.lt_succ_self _)).trans (MapKept.heap_alloc w _).1, hbl.below h1, Kp9.of h1 hb0⟩
  have HN := Lib.hid (And.intro hnn (And.intro hno (And.intro hzs (And.intro hs.low (And.intro hb0 hw1b)))))
  obtain ⟨T, hT⟩ : ∃ T, str t = T := ⟨_, rfl⟩
  rw [hT] at HK HS HN ⊢
  clear hs hc hzs hbl hzl hrd hn hnn hno hb0 hw1b hT ht
  by_cases h1 : K = []
  · subst h1
    rw [if_pos rfl]
    have e0 : str [] = { data := #[] } := rfl
    rw [e0] at HK
    clear e0 HW hkl hc1 hc2 ho
    go_enter Tryz.func34, Tryz.ntmps34
    go_wp2_with fail
    refine (HK.out _).mono ?_
    rintro e w1 ⟨rfl, hb⟩
    have HH := Lib.hid (HS.out _ hb)
    clear hb
    go_wp2_with fail
    go_ret
    exact ⟨rfl, HH.out.2.2.2, fun h => absurd h (by decide)⟩
  · rw [if_neg h1]
    have hE := str_ne8 (l := K) (b := false) (by cases K; exact absurd rfl h1; rfl)
    cases hw : wordT K
    · rw [hw] at HW
      rw [if_pos rfl]
      generalize str K = S at *
      clear hkl hc1 hc2 ho h1 hw
      go_enter Tryz.func34, Tryz.ntmps34
      go_wp2_with fail
      refine (HK.out _).mono ?_
      rintro e w1 ⟨rfl, hb⟩
      have HH := Lib.hid (HS.out _ hb)
      clear hb
      go_wp2_with fail
      refine (HW.out _).mono ?_
      rintro e w' ⟨rfl, rfl⟩
      go_wp2_with fail
      go_ret
      exact ⟨rfl, HH.out.2.2.2, fun h => absurd h (by decide)⟩
    · rw [hw] at HW
      rw [if_neg (by simp)]
      by_cases h2 : 1024 ≤ n
      · rw [if_pos h2]
        obtain rfl : n = 1024 := by omega
        generalize str K = S at *
        clear hkl ho h1 hw h2
        go_enter Tryz.func34, Tryz.ntmps34
        go_wp2_with fail
        refine (HK.out _).mono ?_
        rintro e w1 ⟨rfl, hb⟩
        have HH := Lib.hid (HS.out _ hb)
        clear hb
        have c0 := cell_blk HH.out.1 0 (v := .slice A 1024 c) rfl
        go_wp2_with fail
        refine (HW.out _).mono ?_
        rintro e w' ⟨rfl, rfl⟩
        go_wp2_with fail
        go_ret
        exact ⟨rfl, HH.out.2.2.2, fun h => absurd h (by decide)⟩
      · rw [if_neg h2]
        have q : ((n : Int) == 1024) = false := beq_eq_false_iff_ne.2 (by omega)
        have q' : ¬ ((n : Int) = 1024) := by omega
        obtain ⟨S, hSK⟩ : ∃ S, str K = S := ⟨_, rfl⟩
        have HSK := Lib.hid hSK
        rw [hSK] at HK HW hE
        have hn6 : n ≤ 1024 := ho
        clear hkl ho h1 hw h2 hSK
        go_enter Tryz.func34, Tryz.ntmps34
        go_wp2_with fail
        refine (HK.out _).mono ?_
        rintro e w1 ⟨rfl, hb⟩
        have HH := Lib.hid (HS.out _ hb)
        have hz1 : w.heap.size < w1.heap.size := blk_lt HH.out.2.1
        have hgz : g < w1.heap.size := blk_lt HH.out.1
        clear hb
        have c0 := cell_blk HH.out.1 0 (v := .slice A n c) rfl
        have k0 := cell_blk HH.out.2.1 0 (v := .int .i64 (at_ : Int)) rfl
        have c0' : (w1.alloc (.cells #[.int .i64 (at_ : Int), .string S, .slice none 0 0] 46)).cell? ⟨g, 0, none⟩ = some (.slice A n c) := cell_blk ((Below.heap_alloc w1 _ g hgz).trans HH.out.1) 0 rfl
        obtain ⟨i0, hi0, hz0, hzz1, hzz2⟩ := info_parts blkInfo
        have HR := Lib.hid ((HH.out.2.2.1.own).alloc (.cells #[.int .i64 (at_ : Int), .string S, .slice none 0 0] 46))
        rw [HN.out.1] at HR
        have HBZ := Lib.hid (show base ≤ (w1.alloc (.cells #[.int .i64 (at_ : Int), .string S, .slice none 0 0] 46)).heap.size by rw [World.size_alloc]; have := HN.out.2.2.2.2.1; omega)
        have HONE := Lib.hid (show ∀ u ∈ [Value.int .i64 (at_ : Int), .string S, .slice none 0 0], u.oneCell' = true by
          intro u hu
          simp only [List.mem_cons, List.not_mem_nil, or_false] at hu
          rcases hu with rfl | rfl | rfl <;> rfl)
        go_wp2_with fail
        refine (HW.out _).mono ?_
        rintro e w' ⟨rfl, rfl⟩
        go_wp2_with fail
        go_region_law ((refine step_append_lies _ (by rfl) _ _ _ (by rfl) base 46 i0 _ 3 48 Tryz.underlying23 hi0 hz0 hzz1 hzz2 rfl (by omega) (.slice A n c) n (Z.flatMap bkC) (by rfl) HR.out ⟨w1.heap.size, 0, none⟩ 1 1 [.int .i64 (at_ : Int), .string S, .slice none 0 0] (by rfl) (by rfl) (World.news_of_block (cs := #[.int .i64 (at_ : Int), .string S, .slice none 0 0]) (t := 46) (fr := (0, 0)) (heap_alloc_new w1 _)) HONE.out (by omega) (by unfold maxLen; omega) (by omega) HBZ.out (w1.heap.size + 1) (by simp) ?_; intro gb cap w2 hown2 hgrow2 _ _; have hbg := begin_grow (k := K) (at_ := at_) HSK.out HN.out.1 HN.out.2.2.2.1 (by have := HN.out.2.2.2.2.1; omega) HH.out.1 HN.out.2.2.1 HH.out.2.2.1 hown2 hgrow2; have hp2 := hbg.1; have c2' := cell_blk hp2 0 (v := .slice A n c) rfl; have f2' := frz_blk hp2 0; have HZ := Lib.hid hbg; clear hown2 hgrow2 hp2 hbg))
        all_goals
          obtain ⟨w3, hw3⟩ : ∃ x, w2.setCell ⟨g, 0, none⟩ (.slice (some ⟨gb, 0, none⟩) (n + 1) cap) = x := ⟨_, rfl⟩
          have hg3 : w3.heap[g]? = some (.cells #[.slice (some ⟨gb, 0, none⟩) (n + 1) cap, .bool false, m] 55 (0, 0)) := by rw [← hw3]; exact heap_setCell_same w2 g 0 _ _ _ HZ.out.1
          have hk3 : Below base w2 w3 ∧ w3.heap.size = w2.heap.size ∧ ∀ i, i ≠ g → w3.heap[i]? = w2.heap[i]? := by
            rw [← hw3]
            exact ⟨(Below.refl base w2).setCell HN.out.2.2.2.1 _, by simp [World.setCell], fun i hi => heap_setCell_other w2 _ i _ hi⟩
          change Exit.then _ _ _ _ (w2.setCell ⟨g, 0, none⟩ (.slice (some ⟨gb, 0, none⟩) (n + 1) cap))
          rw [hw3]
          have H3 := Lib.hid (And.intro hg3 hk3)
          have c1 := cell_blk hg3 1 (v := .bool false) rfl
          have f1 := frz_blk hg3 1
          clear hw3 hg3 hk3 c2' f2' c0 c0' k0 hi0 hz0 hzz1 hzz2
          go_upto_region 10 with (fail)
          obtain ⟨w4, hw4⟩ : ∃ x, w3.setCell ⟨g, 1, none⟩ (.bool true) = x := ⟨_, rfl⟩
          have hg4 : w4.heap[g]? = some (.cells #[.slice (some ⟨gb, 0, none⟩) (n + 1) cap, .bool true, m] 55 (0, 0)) := by rw [← hw4]; exact heap_setCell_same w3 g 1 _ _ _ H3.out.1
          have hk4 : Below base w3 w4 ∧ w4.heap.size = w3.heap.size ∧ ∀ i, i ≠ g → w4.heap[i]? = w3.heap[i]? := by
            rw [← hw4]
            exact ⟨(Below.refl base w3).setCell HN.out.2.2.2.1 _, by simp [World.setCell], fun i hi => heap_setCell_other w3 _ i _ hi⟩
          rw [hw4]
          have H4 := Lib.hid (And.intro hg4 hk4)
          have hg4' : (w4.alloc (.map #[] 0)).heap[g]? = some (.cells #[.slice (some ⟨gb, 0, none⟩) (n + 1) cap, .bool true, m] 55 (0, 0)) := (Below.heap_alloc w4 _ g (blk_lt hg4)).trans hg4
          have c2 := cell_blk hg4' 2 (v := m) rfl
          have f2 := frz_blk hg4' 2
          have hmm := @run_makeMap Tryz.prog
          have HG4 := Lib.hid hg4'
          clear hw4 hg4 hk4 hg4' c1 f1
          go_wp2_with fail
          go_ret
          have hend := begin_end HH.out.2.2.2 HZ.out.2.1 HZ.out.1 HZ.out.2.2 H3.out.2 H4.out.2 HG4.out HN.out.2.2.2.1 (by have := HN.out.2.2.2.2.1; have := HH.out.2.2.2.below.size; omega)
          exact ⟨rfl, hend.1, fun _ => hend.2⟩
end Go.Proofs.YtbeehedppofpnaaGreatDoor

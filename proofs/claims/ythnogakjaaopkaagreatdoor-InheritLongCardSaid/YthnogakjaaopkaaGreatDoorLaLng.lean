/- Law InheritLong: its walk. -/
import Derived.Test.YthnogakjaaopkaaGreatDoorIhRe
import Derived.Test.YthnogakjaaopkaaGreatDoorLaSz
import Derived.Test.YthnogakjaaopkaaGreatDoorBs
import Derived.Deep.Cut
import Derived.Deep.RegionHeld3
import Derived.Laws.OwnMore
namespace Go.Proofs.YthnogakjaaopkaaGreatDoor
open Go.RowKit

theorem u64_remL (T : Int) (b : Nat) (h0 : 0 < b) : ∃ j : Nat, (IntKind.u64.wrap T).tmod b = (j : Int) ∧ j < b := by
  have e : IntKind.u64.wrap T = T % 18446744073709551616 := by simp [IntKind.wrap, IntKind.bits, IntKind.signed]
  have hn : 0 ≤ IntKind.u64.wrap T := by rw [e]; omega
  rw [Int.tmod_eq_emod_of_nonneg hn]
  have h1 := Int.emod_nonneg (IntKind.u64.wrap T) (show (b : Int) ≠ 0 by omega)
  have h2 := Int.emod_lt_of_pos (IntKind.u64.wrap T) (show (0 : Int) < b by omega)
  exact ⟨((IntKind.u64.wrap T) % b).toNat, by omega, by omega⟩
def abc : Tx := [97, 98, 99, 100, 101, 102, 103, 104, 105, 106, 107, 108, 109, 110, 111, 112, 113, 114, 115, 116]
def lgN (i : Nat) : Tx := (abc.drop i).take 1
theorem lgN_len (i : Nat) : (lgN i).length ≤ 1 := by unfold lgN; rw [List.length_take]; omega
/-- The blocks, whose values are doubled from one to the next. -/
def lgB (s : Tx) (i : Nat) : MB := if i = 0 then (1, [120], [(0, nmN, [97]), (0, [121], s)]) else ((i : Int) + 1, [120], [(0, nmN, lgN i), (0, nmU, lgN (i - 1)), (0, [121], 43 :: (s ++ s))])
def lgL (s : Tx) (k : Nat) : List MB := (List.range k).map (lgB s)
theorem lgL_succ (s : Tx) (k : Nat) : lgL s (k + 1) = lgL s k ++ [lgB s k] := by
  unfold lgL
  rw [List.range_succ, List.map_append]
  rfl
theorem lgL_len (s : Tx) (k : Nat) : (lgL s k).length = k := by unfold lgL; simp
theorem lgL_smal {s : Tx} {k : Nat} (hs : s.length ≤ 300) : ∀ b ∈ lgL s k, Smal 9000 b := by
  intro b hb
  obtain ⟨i, _, rfl⟩ := List.mem_map.1 hb
  unfold lgB
  have h1 := lgN_len i
  have h2 := lgN_len (i - 1)
  split
  · refine ⟨by simp, by simp, fun f hf => ?_⟩
    simp only [List.mem_cons, List.not_mem_nil, or_false] at hf
    rcases hf with rfl | rfl
    · simp
    · dsimp only
      simp only [List.length_cons, List.length_nil]
      omega
  · refine ⟨by simp, by simp, fun f hf => ?_⟩
    simp only [List.mem_cons, List.not_mem_nil, or_false] at hf
    rcases hf with rfl | rfl | rfl
    · dsimp only
      simp only [List.length_cons, List.length_nil]
      omega
    · dsimp only
      simp only [List.length_cons, List.length_nil]
      omega
    · dsimp only
      simp only [List.length_cons, List.length_nil, List.length_append]
      omega
/-! Two rows of blocks of one's own, side by side. -/
theorem Bld.allocL {w : World} {base : Nat} {eB eF : TypeId} {v : Value} {Z : List (MB × Value)} (h : Bld w base w.heap.size eB eF v Z) (o : Obj) : Bld (w.alloc o) base (w.alloc o).heap.size eB eF v Z :=
  ⟨h.own.alloc o, fun p hp => (h.rows p hp).keep (Nat.le_refl _) (by rw [World.size_alloc]; omega) fun c _ _ _ h2 _ => Below.heap_alloc w o c h2⟩
theorem Bld.drewL {w : World} {base : Nat} {eB eF : TypeId} {v : Value} {Z : List (MB × Value)} (h : Bld w base w.heap.size eB eF v Z) : Bld w.drew base w.drew.heap.size eB eF v Z := ⟨h.own, h.rows⟩
theorem Bld.otherL {w w' : World} {base : Nat} {eB eF : TypeId} {v : Value} {Z : List (MB × Value)} {row : Option Nat} (h : Bld w base w.heap.size eB eF v Z) (hg : w.grownBy w' row) (hr : ∀ g, row = some g → ∃ cs e' fr, w.heap[g]? = some (.cells cs e' fr) ∧ e' ≠ eB ∧ e' ≠ eF) : Bld w' base w'.heap.size eB eF v Z := by
  refine ⟨own_same h.own fun g hgo => hg.block g (h.own.lt g hgo).2 fun e => ?_, fun p hp => ?_⟩
  · obtain ⟨cs, e', fr, h1, h2, _⟩ := hr g e.symm
    obtain ⟨cur, fr2, h3⟩ := own_typed h.own g hgo
    rw [h1] at h3
    injection h3 with h3
    injection h3 with _ h3
    exact h2 h3
  · refine ((h.rows p hp).grown hg fun g hgr => ?_).keep (Nat.le_refl _) hg.size fun _ _ _ _ _ _ => rfl
    obtain ⟨cs, e', fr, h1, _, h2⟩ := hr g hgr
    exact .inr (.inr ⟨cs, e', fr, h1, h2⟩)
theorem Bld.pushL {w w' : World} {base n : Nat} {eB eF : TypeId} {v v' vF : Value} {Z : List (MB × Value)} {b : MB} (h : Bld w base w.heap.size eB eF v Z) (hF : HeldF w base w.heap.size eF vF b.2.2) (hn : Z.length = n) (hg : w.grownBy w' v.ownBlock) (ho : w'.ownsRow base eB 3 v' (n + 1) (Z.flatMap bkC ++ bkC (b, vF))) (hne : eB ≠ eF) : Bld w' base w'.heap.size eB eF v' (Z ++ [(b, vF)]) := by
  have hty : ∀ g, v.ownBlock = some g → g < base ∨ w.heap.size ≤ g ∨ ∃ cs e' fr, w.heap[g]? = some (.cells cs e' fr) ∧ e' ≠ eF := fun g hgo => by
    obtain ⟨cs, fr, h0⟩ := own_typed h.own g hgo
    exact .inr (.inr ⟨cs, _, fr, h0, hne⟩)
  refine ⟨?_, fun p hp => ?_⟩
  · rw [List.length_append, hn, bkcat_snoc]
    exact ho
  · have hrow : HeldF w base w.heap.size eF p.2 p.1.2.2 := by
      rcases List.mem_append.1 hp with hp | hp
      · exact h.rows p hp
      · rw [List.mem_singleton.1 hp]; exact hF
    exact (hrow.grown hg hty).keep (Nat.le_refl _) hg.size fun _ _ _ _ _ _ => rfl
theorem heldF_lit {w : World} {g base n : Nat} {cs : Array Value} {e : TypeId} {L : List MF} (h : w.heap[g]? = some (.cells cs e (0, 0))) (hb : base ≤ g) (hn : L.length = n) (hm : n ≤ maxLen) (hc : cs.toList = L.flatMap fdC) : HeldF w base w.heap.size e (.slice (some ⟨g, 0, none⟩) n n) L := by
  subst hn
  refine ⟨some ⟨g, 0, none⟩, L.length, rfl, Nat.le_refl _, hm, by rw [← hc]; exact Rd.block h, fun q hq => ?_⟩
  injection hq with hq
  subst hq
  exact ⟨hb, blk9_lt h, cs, _, h⟩
theorem rep_str (j : Nat) : str (List.replicate j 118) ++ { data := #[118] } = str (List.replicate (j + 1) 118) := by
  have h : str (List.replicate j 118) ++ str [118] = str (List.replicate j 118 ++ [118]) := str_append _ _
  rw [List.replicate_succ']
  exact h
theorem flat_str (s : Tx) (j : Nat) : str (43 :: (List.replicate j s).flatten) ++ str s = str (43 :: (List.replicate (j + 1) s).flatten) := by
  rw [str_append, List.replicate_succ', List.flatten_append]
  simp
theorem flat_lenL (s : Tx) (j : Nat) : ((List.replicate j s).flatten).length = j * s.length := by
  rw [List.length_flatten, List.map_replicate, List.sum_replicate_nat]
set_option maxHeartbeats 4000000 in
set_option maxRecDepth 100000 in
theorem lng_walk (n size : Int) (w : World) (hg : ErrT w) (_ : -9223372036854775808 ≤ n ∧ n ≤ 9223372036854775807) (_ : -9223372036854775808 ≤ size ∧ size ≤ 9223372036854775807) :
    Calls Tryz.prog 5 #[.int .i64 n, .int .i64 size] w fun e w' => e = .returned (.bool true) ∧ Below w.heap.size w w' := by
  obtain ⟨a, ha, ha2⟩ := u64_remL n 14 (by omega)
  obtain ⟨b, hb, hb2⟩ := u64_remL size 300 (by omega)
  have ha' : (IntKind.u64.wrap n).tmod 14 = (a : Int) := ha
  have hb' : (IntKind.u64.wrap size).tmod 300 = (b : Int) := hb
  have hwa : wrap64 (a : Int) = (a : Int) := IntWalk.wrap64_in _ ⟨by omega, by omega⟩
  have hwb : wrap64 (b : Int) = (b : Int) := IntWalk.wrap64_in _ ⟨by omega, by omega⟩
  have hae : wrap64 ((IntKind.u64.wrap n).tmod 14) = (a : Int) := by rw [ha']; exact hwa
  have hbe : wrap64 ((IntKind.u64.wrap size).tmod 300) = (b : Int) := by rw [hb']; exact hwb
  obtain ⟨k, hk⟩ : ∃ k, 2 + a = k := ⟨_, rfl⟩
  have hkI : (2 : Int) + a = k := by omega
  obtain ⟨m, hm⟩ : ∃ m, 1 + b = m := ⟨_, rfl⟩
  have hmI : (1 : Int) + b = m := by omega
  have hk15 : k ≤ 15 := by omega
  have hk2 : 2 ≤ k := by omega
  have hm300 : m ≤ 300 := by omega
  have HSu := Lib.hid (fun W h => sure_any W h)
  have HM := Lib.hid hg
  have h0 : (0 : Int) ≤ a := by omega
  have h1 : (a : Int) < 14 := by omega
  have h2 : (0 : Int) ≤ b := by omega
  have h3 : (b : Int) < 300 := by omega
  clear hg ha hb hk hm
  go_enter Tryz.func5, Tryz.ntmps5
  go_wp2_with fail
  go_loopw [6, 7] (fun sv iv wr => ∃ j : Nat, iv = .int .i64 j ∧ j ≤ m ∧ sv = .string (str (List.replicate j 118)) ∧ wr = w) (fun _ iv _ => m - (intOf iv).toNat)
  case atStart => exact ⟨0, rfl, Nat.zero_le _, rfl, rfl⟩
  case round =>
    obtain ⟨j, rfl, hj, rfl, rfl⟩ := hrel
    have hsz : (str (List.replicate j 118)).size = j := by rw [str_size, List.length_replicate]
    rcases Nat.lt_or_ge j m with hlt | hge
    · have q0 : (0 : Int) ≤ j := by omega
      have q1 : (j : Int) < m := by omega
      have HJ := Lib.hid (rep_str j)
      generalize str (List.replicate j 118) = S at *
      go_wp2_with fail
      exact ⟨⟨j + 1, by go_num, hlt, congrArg Value.string HJ.out, by trivial⟩, by simp [intOf]; omega⟩
    · obtain rfl : m = j := by omega
      obtain ⟨w0, hw0⟩ : ∃ x, x = wr := ⟨_, rfl⟩
      subst hw0
      obtain ⟨s, hs⟩ : ∃ s : Tx, List.replicate m 118 = s := ⟨_, rfl⟩
      have hsl : s.length = m := by rw [← hs, List.length_replicate]
      rw [hs] at hsz
      rw [hs]
      obtain ⟨S, hS⟩ : ∃ S, str s = S := ⟨_, rfl⟩
      rw [hS] at hsz ⊢
      obtain ⟨g, hgw⟩ : ∃ g, w0.heap.size = g := ⟨_, rfl⟩
      obtain ⟨w4, hw4⟩ : ∃ x, (((w0.alloc (.cells #[.int .i64 0, .string { data := #[110, 97, 109, 101] }, .string { data := #[97] }, .int .i64 0, .string { data := #[121] }, .string S] 45)).alloc (.cells #[.int .i64 1, .string { data := #[120] }, .slice (some ⟨g, 0, none⟩) 2 2] 48)).alloc (.cells #[.int .i64 0, .string { data := #[110, 97, 109, 101] }, .string { data := #[97] }, .int .i64 0, .string { data := #[121] }, .string S] 49)).alloc (.cells #[.int .i64 1, .string { data := #[120] }, .slice (some ⟨g + 1 + 1, 0, none⟩) 2 2] 52) = x := ⟨_, rfl⟩
      have hrows : Below w0.heap.size w0 w4 ∧ Bld w4 g w4.heap.size 48 45 (.slice (some ⟨g + 1, 0, none⟩) 1 1) [(lgB s 0, .slice (some ⟨g, 0, none⟩) 2 2)] ∧ Bld w4 g w4.heap.size 52 49 (.slice (some ⟨g + 1 + 1 + 1, 0, none⟩) 1 1) [(lgB s 0, .slice (some ⟨g + 1 + 1, 0, none⟩) 2 2)] := by
        have hcF : (#[.int .i64 0, .string { data := #[110, 97, 109, 101] }, .string { data := #[97] }, .int .i64 0, .string { data := #[121] }, .string S] : Array Value).toList = (lgB s 0).2.2.flatMap fdC := by rw [← hS]; rfl
        obtain ⟨x1, hx1⟩ : ∃ x, w0.alloc (.cells #[.int .i64 0, .string { data := #[110, 97, 109, 101] }, .string { data := #[97] }, .int .i64 0, .string { data := #[121] }, .string S] 45) = x := ⟨_, rfl⟩
        obtain ⟨x2, hx2⟩ : ∃ x, x1.alloc (.cells #[.int .i64 1, .string { data := #[120] }, .slice (some ⟨g, 0, none⟩) 2 2] 48) = x := ⟨_, rfl⟩
        obtain ⟨x3, hx3⟩ : ∃ x, x2.alloc (.cells #[.int .i64 0, .string { data := #[110, 97, 109, 101] }, .string { data := #[97] }, .int .i64 0, .string { data := #[121] }, .string S] 49) = x := ⟨_, rfl⟩
        have e1 : x1.heap.size = g + 1 := by rw [← hx1, World.size_alloc, hgw]
        have e2 : x2.heap.size = g + 1 + 1 := by rw [← hx2, World.size_alloc, e1]
        have e3 : x3.heap.size = g + 1 + 1 + 1 := by rw [← hx3, World.size_alloc, e2]
        rw [hx1, hx2, hx3] at hw4
        have c1 := (MapKept.heap_alloc w0 (.cells #[.int .i64 0, .string { data := #[110, 97, 109, 101] }, .string { data := #[97] }, .int .i64 0, .string { data := #[121] }, .string S] 45)).1
        rw [hx1, hgw] at c1
        have c2 : x2.heap[g]? = _ := (show x2.heap[g]? = x1.heap[g]? by rw [← hx2]; exact Below.heap_alloc _ _ _ (by omega)).trans c1
        have c3 := (MapKept.heap_alloc x2 (.cells #[.int .i64 0, .string { data := #[110, 97, 109, 101] }, .string { data := #[97] }, .int .i64 0, .string { data := #[121] }, .string S] 49)).1
        rw [hx3, e2] at c3
        have c4 : w4.heap[g + 1 + 1]? = _ := (show w4.heap[g + 1 + 1]? = x3.heap[g + 1 + 1]? by rw [← hw4]; exact Below.heap_alloc _ _ _ (by omega)).trans c3
        refine ⟨?_, ?_, ?_⟩
        · rw [← hw4, ← hx3, ← hx2, ← hx1]
          exact ((((Below.refl _ _).alloc (Nat.le_refl _) _).alloc (by simp) _).alloc (by simp; omega) _).alloc (by simp; omega) _
        · have o1 := World.ownsRow_lit (base := g) (e := 48) (size := 3) x1 #[.int .i64 1, .string { data := #[120] }, .slice (some ⟨g, 0, none⟩) 2 2] 1 (by omega) (by decide) rfl
          rw [hx2, e1] at o1
          have b1 : Bld x2 g x2.heap.size 48 45 (.slice (some ⟨g + 1, 0, none⟩) 1 1) [(lgB s 0, .slice (some ⟨g, 0, none⟩) 2 2)] := ⟨o1, fun p hp => by
            rw [List.mem_singleton.1 hp]
            exact heldF_lit c2 (Nat.le_refl _) rfl (by decide) hcF⟩
          have b2 := (b1.allocL (.cells #[.int .i64 0, .string { data := #[110, 97, 109, 101] }, .string { data := #[97] }, .int .i64 0, .string { data := #[121] }, .string S] 49)).allocL (.cells #[.int .i64 1, .string { data := #[120] }, .slice (some ⟨g + 1 + 1, 0, none⟩) 2 2] 52)
          rw [hx3, hw4] at b2
          exact b2
        · have o1 := World.ownsRow_lit (base := g) (e := 52) (size := 3) x3 #[.int .i64 1, .string { data := #[120] }, .slice (some ⟨g + 1 + 1, 0, none⟩) 2 2] 1 (by omega) (by decide) rfl
          rw [hw4, e3] at o1
          exact ⟨o1, fun p hp => by
            rw [List.mem_singleton.1 hp]
            exact heldF_lit c4 (by omega) rfl (by decide) hcF⟩
      obtain ⟨hb4, hL4, hM4⟩ := hrows
      have H4 := Lib.hid (And.intro hb4 (And.intro hL4 hM4))
      have HS := Lib.hid (And.intro hS hsl)
      clear hs hS hsl hb4 hL4 hM4
      go_wp2_with fail
      clear hw4
      go_loopw [9, 10, 11] (fun lv mv iv wx => ∃ (i : Nat) (ZL ZM : List (MB × Value)), iv = .int .i64 i ∧ 1 ≤ i ∧ i ≤ k ∧ Below w0.heap.size w0 wx ∧ ZL.map (·.1) = lgL s i ∧ ZM.map (·.1) = lgL s i ∧ Bld wx g wx.heap.size 48 45 lv ZL ∧ Bld wx g wx.heap.size 52 49 mv ZM) (fun _ _ iv _ => k - (intOf iv).toNat)
      case atStart => exact ⟨1, _, _, rfl, Nat.le_refl _, by omega, H4.out.1, rfl, rfl, H4.out.2.1, H4.out.2.2⟩
      case round =>
        obtain ⟨i, ZL, ZM, rfl, hi1, hik, hbx, hzl, hzm, hBL, hBM⟩ := hrel
        obtain ⟨wx, hwx⟩ : ∃ x, x = wr := ⟨_, rfl⟩
        subst hwx
        have hlenL : ZL.length = i := by have := congrArg List.length hzl; rw [List.length_map, lgL_len] at this; exact this
        have hlenM : ZM.length = i := by have := congrArg List.length hzm; rw [List.length_map, lgL_len] at this; exact this
        by_cases hlt : i < k
        · have q0 : (0 : Int) ≤ i := by omega
          have q1 : (i : Int) < k := by omega
          have HX := Lib.hid (And.intro hbx (And.intro hzl (And.intro hzm (And.intro hBL (And.intro hBM (And.intro hlenL hlenM))))))
          clear hbx hzl hzm hBL hBM hlenL hlenM
          go_wp2_with fail
          go_loopw [12, 13] (fun mo jv wy => ∃ j : Nat, jv = .int .i64 j ∧ j ≤ 2 ∧ mo = .string (str (43 :: (List.replicate j s).flatten)) ∧ wy = wx) (fun _ jv _ => 2 - (intOf jv).toNat)
          case atStart => exact ⟨0, rfl, by omega, rfl, rfl⟩
          case round =>
            obtain ⟨j, rfl, hj2, rfl, rfl⟩ := hrel
            obtain ⟨z, hz⟩ : ∃ z, j * m = z := ⟨_, rfl⟩
            have hz6 : z ≤ 600 := by rw [← hz]; exact Nat.le_trans (Nat.mul_le_mul hj2 hm300) (by decide)
            have hsj : (str (43 :: (List.replicate j s).flatten)).size = z + 1 := by rw [str_size, List.length_cons, flat_lenL, HS.out.2, hz]
            have HFS := Lib.hid (flat_str s j)
            rw [HS.out.1] at HFS
            have hmo : j = 2 → 43 :: (List.replicate j s).flatten = 43 :: (s ++ s) := fun h => by rw [h]; simp [List.replicate]
            by_cases hjl : j < 2
            · have z0 : (0 : Int) ≤ j := by omega
              have z1 : (j : Int) < 2 := by omega
              clear hmo hz
              generalize str (43 :: (List.replicate j s).flatten) = MO at *
              go_wp2_with fail
              exact ⟨⟨j + 1, by go_num, hjl, congrArg Value.string HFS.out, by trivial⟩, by simp [intOf]; omega⟩
            · have z1 : ¬ (j : Int) < 2 := by omega
              obtain ⟨i0, hi0⟩ : ∃ i0, i = i0 + 1 := ⟨i - 1, by omega⟩
              rw [hmo (by omega)] at hsj ⊢
              obtain ⟨MO, hMO⟩ : ∃ x, str (43 :: (s ++ s)) = x := ⟨_, rfl⟩
              rw [hMO] at hsj ⊢
              obtain ⟨NI, hNI⟩ : ∃ x, str (lgN i) = x := ⟨_, rfl⟩
              obtain ⟨NJ, hNJ⟩ : ∃ x, str (lgN i0) = x := ⟨_, rfl⟩
              have hnms : (str abc).size = 20 := rfl
              have hlit : ({ data := #[97, 98, 99, 100, 101, 102, 103, 104, 105, 106, 107, 108, 109, 110, 111, 112, 113, 114, 115, 116] } : ByteArray) = str abc := rfl
              have k1 : IntKind.i64.wrap ((i : Int) + 1) = (i : Int) + 1 := IntWalk.i64_in _ (by omega)
              have k2 : IntKind.i64.wrap ((i : Int) - 1) = (i0 : Int) := by
                have e : (i : Int) - 1 = i0 := by omega
                rw [e]
                exact IntWalk.i64_in _ (by omega)
              have hsl1 : ∀ W, (Instr.slice 9 (.string { data := #[97, 98, 99, 100, 101, 102, 103, 104, 105, 106, 107, 108, 109, 110, 111, 112, 113, 114, 115, 116] }) (some (.int .i64 (i : Int))) (some (.int .i64 ((i : Int) + 1))) none).run Tryz.prog W = .ok (.string NI) W := fun W => by
                rw [hlit, run_slice_string _ _ _ _ _ _ _ Tryz.underlying9 (by omega) (by omega) (by rw [hnms]; omega), show ((i : Int)).toNat = i by omega, show ((i : Int) + 1).toNat = i + 1 by omega, str_cut, Nat.add_sub_cancel_left, ← hNI]
                rfl
              have hsl2 : ∀ W, (Instr.slice 9 (.string { data := #[97, 98, 99, 100, 101, 102, 103, 104, 105, 106, 107, 108, 109, 110, 111, 112, 113, 114, 115, 116] }) (some (.int .i64 (i0 : Int))) (some (.int .i64 (i : Int))) none).run Tryz.prog W = .ok (.string NJ) W := fun W => by
                rw [hlit, run_slice_string _ _ _ _ _ _ _ Tryz.underlying9 (by omega) (by omega) (by rw [hnms]; omega), show ((i0 : Int)).toNat = i0 by omega, show ((i : Int)).toNat = i by omega, str_cut, show i - i0 = 1 by omega, ← hNJ]
                rfl
              have hlg : lgB s i = ((i : Int) + 1, [120], [(0, nmN, lgN i), (0, nmU, lgN i0), (0, [121], 43 :: (s ++ s))]) := by
                unfold lgB
                rw [if_neg (by omega), show i - 1 = i0 by omega]
              have hcF : (#[.int .i64 0, .string { data := #[110, 97, 109, 101] }, .string NI, .int .i64 0, .string { data := #[117, 115, 101] }, .string NJ, .int .i64 0, .string { data := #[121] }, .string MO] : Array Value).toList = (lgB s i).2.2.flatMap fdC := by rw [hlg, ← hNI, ← hNJ, ← hMO]; rfl
              obtain ⟨gx, hgx⟩ : ∃ x, wr.heap.size = x := ⟨_, rfl⟩
              have hg0 : g ≤ gx := by rw [← hgx]; have := HX.out.1.size; omega
              have hU : ∀ (W : World) (q : Nat) (eF eB : TypeId), W.heap.size = q → ((W.drew.alloc (.cells #[.int .i64 0, .string { data := #[110, 97, 109, 101] }, .string NI, .int .i64 0, .string { data := #[117, 115, 101] }, .string NJ, .int .i64 0, .string { data := #[121] }, .string MO] eF)).alloc (.cells #[.int .i64 ((i : Int) + 1), .string { data := #[120] }, .slice (some ⟨q, 0, none⟩) 3 3] eB)).heap[q]? = some (.cells #[.int .i64 0, .string { data := #[110, 97, 109, 101] }, .string NI, .int .i64 0, .string { data := #[117, 115, 101] }, .string NJ, .int .i64 0, .string { data := #[121] }, .string MO] eF (0, 0)) ∧ Rd ((W.drew.alloc (.cells #[.int .i64 0, .string { data := #[110, 97, 109, 101] }, .string NI, .int .i64 0, .string { data := #[117, 115, 101] }, .string NJ, .int .i64 0, .string { data := #[121] }, .string MO] eF)).alloc (.cells #[.int .i64 ((i : Int) + 1), .string { data := #[120] }, .slice (some ⟨q, 0, none⟩) 3 3] eB)) (some ⟨q + 1, 0, none⟩) [.int .i64 ((i : Int) + 1), .string { data := #[120] }, .slice (some ⟨q, 0, none⟩) 3 3] ∧ ((W.drew.alloc (.cells #[.int .i64 0, .string { data := #[110, 97, 109, 101] }, .string NI, .int .i64 0, .string { data := #[117, 115, 101] }, .string NJ, .int .i64 0, .string { data := #[121] }, .string MO] eF)).alloc (.cells #[.int .i64 ((i : Int) + 1), .string { data := #[120] }, .slice (some ⟨q, 0, none⟩) 3 3] eB)).heap.size = q + 2 := fun W q eF eB hq => by
                have c1 := (MapKept.heap_alloc W.drew (.cells #[.int .i64 0, .string { data := #[110, 97, 109, 101] }, .string NI, .int .i64 0, .string { data := #[117, 115, 101] }, .string NJ, .int .i64 0, .string { data := #[121] }, .string MO] eF)).1
                have hq2 : W.drew.heap.size = q := hq
                rw [hq2] at c1
                have c2 := (MapKept.heap_alloc (W.drew.alloc (.cells #[.int .i64 0, .string { data := #[110, 97, 109, 101] }, .string NI, .int .i64 0, .string { data := #[117, 115, 101] }, .string NJ, .int .i64 0, .string { data := #[121] }, .string MO] eF)) (.cells #[.int .i64 ((i : Int) + 1), .string { data := #[120] }, .slice (some ⟨q, 0, none⟩) 3 3] eB)).1
                have hs2 : (W.drew.alloc (.cells #[.int .i64 0, .string { data := #[110, 97, 109, 101] }, .string NI, .int .i64 0, .string { data := #[117, 115, 101] }, .string NJ, .int .i64 0, .string { data := #[121] }, .string MO] eF)).heap.size = q + 1 := by rw [World.size_alloc, hq2]
                rw [hs2] at c2
                refine ⟨(Below.heap_alloc _ _ _ (by omega)).trans c1, Rd.block c2, by rw [World.size_alloc, hs2]⟩
              have HU := Lib.hid hU
              have HC := Lib.hid hcF
              have HLG := Lib.hid (And.intro hlg hg0)
              have HONE := Lib.hid (show ∀ q, ∀ u ∈ [Value.int .i64 ((i : Int) + 1), .string { data := #[120] }, .slice (some ⟨q, 0, none⟩) 3 3], u.oneCell' = true from fun q u hu => by
                simp only [List.mem_cons, List.not_mem_nil, or_false] at hu
                rcases hu with rfl | rfl | rfl <;> rfl)
              have HBL := Lib.hid ((HX.out.2.2.2.1.drewL.allocL (.cells #[.int .i64 0, .string { data := #[110, 97, 109, 101] }, .string NI, .int .i64 0, .string { data := #[117, 115, 101] }, .string NJ, .int .i64 0, .string { data := #[121] }, .string MO] 45)).allocL (.cells #[.int .i64 ((i : Int) + 1), .string { data := #[120] }, .slice (some ⟨gx, 0, none⟩) 3 3] 48))
              have HBM := Lib.hid ((HX.out.2.2.2.2.1.drewL.allocL (.cells #[.int .i64 0, .string { data := #[110, 97, 109, 101] }, .string NI, .int .i64 0, .string { data := #[117, 115, 101] }, .string NJ, .int .i64 0, .string { data := #[121] }, .string MO] 45)).allocL (.cells #[.int .i64 ((i : Int) + 1), .string { data := #[120] }, .slice (some ⟨gx, 0, none⟩) 3 3] 48))
              have HUx := Lib.hid (HU.out wr gx 45 48 hgx)
              have hdw : Below w0.heap.size w0 wr.drew := ⟨HX.out.1.os, HX.out.1.tape, HX.out.1.output, HX.out.1.size, HX.out.1.block⟩
              have hdw2 := hdw.alloc hdw.size (.cells #[.int .i64 0, .string { data := #[110, 97, 109, 101] }, .string NI, .int .i64 0, .string { data := #[117, 115, 101] }, .string NJ, .int .i64 0, .string { data := #[121] }, .string MO] 45)
              have HBw := Lib.hid (hdw2.alloc hdw2.size (.cells #[.int .i64 ((i : Int) + 1), .string { data := #[120] }, .slice (some ⟨gx, 0, none⟩) 3 3] 48))
              clear hdw hdw2 hi0 hmo hz hMO hNI hNJ hnms hlit hU hcF hlg
              go_wp2_with fail
              go_region_held3 (fun _ => True) (exact trivial) (first
                | (refine step_appK (by rfl) (.tmp 60) (.tmp 79) _ (by rfl) Tryz.underlying25 blkInfo9 rfl (by omega) g u9 i (ZL.flatMap bkC) (by rfl) (HX.out.2.2.2.2.2.1 ▸ HBL.out.own) (some ⟨gx + 1, 0, none⟩) 1 1 [.int .i64 ((i : Int) + 1), .string { data := #[120] }, .slice (some ⟨gx, 0, none⟩) 3 3] (by rfl) rfl HUx.out.2.1 (HONE.out gx) (by unfold maxLen; omega) (by omega) (Nat.le_trans (Nat.le_trans HLG.out.2 (Nat.le_add_right gx 2)) (Nat.le_of_eq HUx.out.2.2.symm)) ?_
                   intro v9 w9 ho9 hg9 hb9))
              have hHF : HeldF ((wr.drew.alloc (.cells #[.int .i64 0, .string { data := #[110, 97, 109, 101] }, .string NI, .int .i64 0, .string { data := #[117, 115, 101] }, .string NJ, .int .i64 0, .string { data := #[121] }, .string MO] 45)).alloc (.cells #[.int .i64 ((i : Int) + 1), .string { data := #[120] }, .slice (some ⟨gx, 0, none⟩) 3 3] 48)) g ((wr.drew.alloc (.cells #[.int .i64 0, .string { data := #[110, 97, 109, 101] }, .string NI, .int .i64 0, .string { data := #[117, 115, 101] }, .string NJ, .int .i64 0, .string { data := #[121] }, .string MO] 45)).alloc (.cells #[.int .i64 ((i : Int) + 1), .string { data := #[120] }, .slice (some ⟨gx, 0, none⟩) 3 3] 48)).heap.size 45 (.slice (some ⟨gx, 0, none⟩) 3 3) (lgB s i).2.2 := heldF_lit HUx.out.1 HLG.out.2 (by rw [HLG.out.1]; rfl) (by decide) HC.out
              have hbkc : bkC (lgB s i, .slice (some ⟨gx, 0, none⟩) 3 3) = [.int .i64 ((i : Int) + 1), .string { data := #[120] }, .slice (some ⟨gx, 0, none⟩) 3 3] := by rw [HLG.out.1]; rfl
              rw [← hbkc] at ho9
              have hL9 := Bld.pushL HBL.out hHF HX.out.2.2.2.2.2.1 ⟨hg9.os, hg9.tape, hg9.output, hg9.size, hg9.block⟩ ho9 (by decide)
              have hM9 := Bld.otherL (w' := w9) (row := u9.ownBlock) HBM.out ⟨hg9.os, hg9.tape, hg9.output, hg9.size, hg9.block⟩ (fun q hq => by
                obtain ⟨cs, fr, h0⟩ := own_typed HBL.out.own q hq
                exact ⟨cs, _, fr, h0, by decide, by decide⟩)
              have hb9 : Below w0.heap.size w0 w9 := HBw.out.grown (row := u9.ownBlock) ⟨hg9.os, hg9.tape, hg9.output, hg9.size, hg9.block⟩ (Nat.le_trans HX.out.1.size (by rw [HUx.out.2.2, hgx]; omega)) (fun q hq => by have := (HX.out.2.2.2.1.own.lt q hq).1; rw [← hgw] at this; exact this)
              obtain ⟨gy, hgy⟩ : ∃ x, w9.heap.size = x := ⟨_, rfl⟩
              have hg1 : g ≤ gy := by rw [← hgy, ← hgw]; exact hb9.size
              have HUy := Lib.hid (HU.out w9 gy 49 52 hgy)
              have HL9 := Lib.hid hL9
              have HMy := Lib.hid ((hM9.drewL.allocL (.cells #[.int .i64 0, .string { data := #[110, 97, 109, 101] }, .string NI, .int .i64 0, .string { data := #[117, 115, 101] }, .string NJ, .int .i64 0, .string { data := #[121] }, .string MO] 49)).allocL (.cells #[.int .i64 ((i : Int) + 1), .string { data := #[120] }, .slice (some ⟨gy, 0, none⟩) 3 3] 52))
              have HLy := Lib.hid ((hL9.drewL.allocL (.cells #[.int .i64 0, .string { data := #[110, 97, 109, 101] }, .string NI, .int .i64 0, .string { data := #[117, 115, 101] }, .string NJ, .int .i64 0, .string { data := #[121] }, .string MO] 49)).allocL (.cells #[.int .i64 ((i : Int) + 1), .string { data := #[120] }, .slice (some ⟨gy, 0, none⟩) 3 3] 52))
              have hdw : Below w0.heap.size w0 w9.drew := ⟨hb9.os, hb9.tape, hb9.output, hb9.size, hb9.block⟩
              have hdw2 := hdw.alloc hdw.size (.cells #[.int .i64 0, .string { data := #[110, 97, 109, 101] }, .string NI, .int .i64 0, .string { data := #[117, 115, 101] }, .string NJ, .int .i64 0, .string { data := #[121] }, .string MO] 49)
              have HBy := Lib.hid (hdw2.alloc hdw2.size (.cells #[.int .i64 ((i : Int) + 1), .string { data := #[120] }, .slice (some ⟨gy, 0, none⟩) 3 3] 52))
              have HG1 := Lib.hid hg1
              clear hdw hdw2 hb9 hL9 hM9 hHF hbkc ho9 hg9 hg1 hgx
              go_wp2_with fail
              go_region_held3 (fun _ => True) (exact trivial) (first
                | (refine step_appK (by rfl) (.tmp 81) (.tmp 100) _ (by rfl) Tryz.underlying22 blkInfoR rfl (by omega) g u10 i (ZM.flatMap bkC) (by rfl) (HX.out.2.2.2.2.2.2 ▸ HMy.out.own) (some ⟨gy + 1, 0, none⟩) 1 1 [.int .i64 ((i : Int) + 1), .string { data := #[120] }, .slice (some ⟨gy, 0, none⟩) 3 3] (by rfl) rfl HUy.out.2.1 (HONE.out gy) (by unfold maxLen; omega) (by omega) (Nat.le_trans (Nat.le_trans HG1.out (Nat.le_add_right gy 2)) (Nat.le_of_eq HUy.out.2.2.symm)) ?_
                   intro vz wz hoz hgz hbz))
              have hHF : HeldF ((w9.drew.alloc (.cells #[.int .i64 0, .string { data := #[110, 97, 109, 101] }, .string NI, .int .i64 0, .string { data := #[117, 115, 101] }, .string NJ, .int .i64 0, .string { data := #[121] }, .string MO] 49)).alloc (.cells #[.int .i64 ((i : Int) + 1), .string { data := #[120] }, .slice (some ⟨gy, 0, none⟩) 3 3] 52)) g ((w9.drew.alloc (.cells #[.int .i64 0, .string { data := #[110, 97, 109, 101] }, .string NI, .int .i64 0, .string { data := #[117, 115, 101] }, .string NJ, .int .i64 0, .string { data := #[121] }, .string MO] 49)).alloc (.cells #[.int .i64 ((i : Int) + 1), .string { data := #[120] }, .slice (some ⟨gy, 0, none⟩) 3 3] 52)).heap.size 49 (.slice (some ⟨gy, 0, none⟩) 3 3) (lgB s i).2.2 := heldF_lit HUy.out.1 HG1.out (by rw [HLG.out.1]; rfl) (by decide) HC.out
              have hbkc : bkC (lgB s i, .slice (some ⟨gy, 0, none⟩) 3 3) = [.int .i64 ((i : Int) + 1), .string { data := #[120] }, .slice (some ⟨gy, 0, none⟩) 3 3] := by rw [HLG.out.1]; rfl
              rw [← hbkc] at hoz
              have hMz := Bld.pushL HMy.out hHF HX.out.2.2.2.2.2.2 ⟨hgz.os, hgz.tape, hgz.output, hgz.size, hgz.block⟩ hoz (by decide)
              have hLz := Bld.otherL (w' := wz) (row := u10.ownBlock) HLy.out ⟨hgz.os, hgz.tape, hgz.output, hgz.size, hgz.block⟩ (fun q hq => by
                obtain ⟨cs, fr, h0⟩ := own_typed HMy.out.own q hq
                exact ⟨cs, _, fr, h0, by decide, by decide⟩)
              have hbz2 : Below w0.heap.size w0 wz := HBy.out.grown (row := u10.ownBlock) ⟨hgz.os, hgz.tape, hgz.output, hgz.size, hgz.block⟩ (by rw [HUy.out.2.2, hgw]; have := HG1.out; omega) (fun q hq => by have := (HX.out.2.2.2.2.1.own.lt q hq).1; rw [← hgw] at this; exact this)
              have HZ := Lib.hid (And.intro hbz2 (And.intro hLz hMz))
              clear hMz hLz hbz2 hHF hbkc hoz hgz
              go_wp2_with fail
              go_roundw
              case rel =>
                refine ⟨i + 1, _, _, by go_num, by omega, hlt, HZ.out.1, ?_, ?_, HZ.out.2.1, HZ.out.2.2⟩
                · rw [List.map_append, HX.out.2.1, lgL_succ]
                  rfl
                · rw [List.map_append, HX.out.2.2.1, lgL_succ]
                  rfl
              case measure => simp [intOf]; omega
        · obtain rfl : k = i := by omega
          have hLr := hBL.rowB
          have hMr := hBM.rowB
          rw [hzl] at hLr
          rw [hzm] at hMr
          have hsm := lgL_smal (s := s) (k := k) (by rw [HS.out.2]; exact hm300)
          have hszs : Szs (lgL s k) := szs_of (by rw [lgL_len]; omega) hsm
          obtain ⟨R9, hR9⟩ : ∃ R9, lgL s k = R9 := ⟨_, rfl⟩
          have hln : R9.length = k := by rw [← hR9, lgL_len]
          rw [hR9] at hLr hMr hsm hszs
          have HE := Lib.hid (HM.out.below hbx)
          have HX := Lib.hid (And.intro hbx (And.intro hMr (And.intro hsm hln)))
          have HR9 := Lib.hid hR9
          obtain ⟨AL, cL, hvL, hLr2⟩ := hLr.form
          obtain ⟨AM, cM, hvM, hMr2⟩ := hMr.form
          clear hzl hzm hBL hBM hR9 hbx hLr hMr hsm hln hlenL hlenM
          subst hvL
          subst hvM
          rw [HX.out.2.2.2]
          cases hck : chkI R9 with
          | some q =>
            have HRs := Lib.hid (resolve_no hck (.slice AL R9.length cL) wx hszs HE.out hLr2)
            have hRf := fun W (h : RowB W (.slice AM R9.length cM) R9) => refResolve_any (.slice AM R9.length cM) R9 W (by rw [HX.out.2.2.2]; omega) (fun b hb => ⟨by have := (HX.out.2.2.1 b hb).1; omega, fun f hf => by have := ((smal_len (HX.out.2.2.1 b hb)).2.2 f hf).2; omega⟩) h
            unfold RfE2 at hRf
            rw [hck] at hRf
            dsimp only at hRf
            have HMr := Lib.hid hMr2
            rw [HX.out.2.2.2] at HRs hRf HMr
            unfold plV at HRs
            obtain ⟨q1, hq1⟩ : ∃ x, q.1 = x := ⟨_, rfl⟩
            obtain ⟨q2, hq2⟩ : ∃ x, ((q.2 : Nat) : Int) = x := ⟨_, rfl⟩
            rw [hq1, hq2] at HRs hRf
            have HNu := Lib.hid (fun W h => num_err q2 W h)
            unfold errK at HRs HNu
            have HRf := Lib.hid hRf
            clear hRf hck hq1 hq2 hMr2 hLr2
            go_wp2_with fail
            with_reducible refine HRs.out.mono ?_
            rintro e w4 ⟨rfl, hb⟩
            have hb34 := HX.out.1.trans (hb.mono HX.out.1.size)
            have HB5 := Lib.hid (hb34.alloc hb34.size (.cells #[.int .i64 q1, .int .i64 q2] 29))
            have hal : Below w4.heap.size w4 (w4.alloc (.cells #[.int .i64 q1, .int .i64 q2] 29)) := (Below.refl _ _).alloc (Nat.le_refl _) _
            have HP5 := Lib.hid (MapKept.heap_alloc w4 (.cells #[.int .i64 q1, .int .i64 q2] 29)).1
            have HO5 := Lib.hid (HMr.out.below (hb.trans (hal.mono hb.size)))
            obtain ⟨w5, hw5⟩ : ∃ x, w4.alloc (.cells #[.int .i64 q1, .int .i64 q2] 29) = x := ⟨_, rfl⟩
            rw [hw5] at HB5 HO5 HP5
            have HW5 := Lib.hid hw5
            clear hb hb34 hal hw5
            go_upto_region 21 with fail
            rw [HW5.out]
            go_wp2_with fail
            with_reducible refine (HRf.out _ HO5.out).mono ?_
            rintro e w6 ⟨rfl, hb⟩
            have HB6 := Lib.hid (HB5.out.trans (hb.mono HB5.out.size))
            have hpl := (hb.block _ (blk9_lt HP5.out)).trans HP5.out
            have HSm := Lib.hid (same_any _ _ true ([] : List MB) ([] : List MB) w6 (RowB.nil w6) (RowB.nil w6) (Sm.refl _ _))
            have HPl := Lib.hid hpl
            have t1 : ((q1 : Int) == q1) = true := beq_self_eq_true _
            have t2 : ((q2 : Int) == q2) = true := beq_self_eq_true _
            clear hb hpl
            go_wp2_with fail
            with_reducible refine HSm.out.mono ?_
            rintro e w7 ⟨rfl, hb⟩
            have hpl := (hb.block _ (blk9_lt HPl.out)).trans HPl.out
            have k0 := cell9_blk hpl 0 rfl
            have k1 := cell9_blk hpl 1 rfl
            have HB7 := Lib.hid (HB6.out.trans (hb.mono HB6.out.size))
            clear hb hpl
            go_wp2_with fail
            with_reducible refine (HNu.out w7 (HM.out.below HB7.out)).mono ?_
            rintro e w8 ⟨rfl, hb⟩
            have HB8 := Lib.hid (HB7.out.trans (hb.mono HB7.out.size))
            clear hb k0 k1
            go_wp2_with fail
            with_reducible refine (HSu.out _ (HM.out.below HB8.out)).mono ?_
            rintro e w9 ⟨rfl, hb⟩
            have HB9 := Lib.hid (HB8.out.trans (hb.mono HB8.out.size))
            clear hb
            go_wp2_with fail
            go_ret
            have h := ret_trueI HB9.out
            first | exact h | (rw [hgw] at h; exact h)
          | none =>
            have HRs := Lib.hid (resolve_ok hck (.slice AL R9.length cL) wx hszs HE.out hLr2)
            have hRf := fun W (h : RowB W (.slice AM R9.length cM) R9) => refResolve_any (.slice AM R9.length cM) R9 W (by rw [HX.out.2.2.2]; omega) (fun b hb => ⟨by have := (HX.out.2.2.1 b hb).1; omega, fun f hf => by have := ((smal_len (HX.out.2.2.1 b hb)).2.2 f hf).2; omega⟩) h
            unfold RfE2 at hRf
            rw [hck] at hRf
            dsimp only at hRf
            have HMr := Lib.hid hMr2
            rw [HX.out.2.2.2] at HRs hRf HMr
            unfold plV at HRs
            obtain ⟨R, hR⟩ : ∃ R, rsK R9 R9.length = R := ⟨_, rfl⟩
            rw [← HX.out.2.2.2, hR, HX.out.2.2.2] at HRs
            rw [← HX.out.2.2.2, hR, HX.out.2.2.2] at hRf
            have HNu := Lib.hid (fun W => num_nil W)
            have HRf := Lib.hid hRf
            clear hRf hck hR hMr2 hLr2
            go_wp2_with fail
            with_reducible refine HRs.out.mono ?_
            rintro e w4 ⟨⟨v4, rfl, hrow⟩, hb⟩
            have hb34 := HX.out.1.trans (hb.mono HX.out.1.size)
            have HB5 := Lib.hid (hb34.alloc hb34.size (.cells #[.int .i64 0, .int .i64 0] 29))
            have hal : Below w4.heap.size w4 (w4.alloc (.cells #[.int .i64 0, .int .i64 0] 29)) := (Below.refl _ _).alloc (Nat.le_refl _) _
            have HP5 := Lib.hid (MapKept.heap_alloc w4 (.cells #[.int .i64 0, .int .i64 0] 29)).1
            have HO5 := Lib.hid (HMr.out.below (hb.trans (hal.mono hb.size)))
            have HR5 := Lib.hid (hrow.below hal)
            obtain ⟨w5, hw5⟩ : ∃ x, w4.alloc (.cells #[.int .i64 0, .int .i64 0] 29) = x := ⟨_, rfl⟩
            rw [hw5] at HB5 HO5 HP5 HR5
            have HW5 := Lib.hid hw5
            clear hb hb34 hal hw5 hrow
            go_upto_region 21 with fail
            rw [HW5.out]
            go_wp2_with fail
            with_reducible refine (HRf.out _ HO5.out).mono ?_
            rintro e w6 ⟨⟨v6, rfl, hrow6⟩, hb⟩
            have HB6 := Lib.hid (HB5.out.trans (hb.mono HB5.out.size))
            have hpl := (hb.block _ (blk9_lt HP5.out)).trans HP5.out
            have HSm := Lib.hid (same_any _ _ true R R w6 (HR5.out.below hb) (hrow6) (Sm.refl _ _))
            have HPl := Lib.hid hpl
            have t1 : ((0 : Int) == 0) = true := beq_self_eq_true _
            have t2 : ((0 : Int) == 0) = true := beq_self_eq_true _
            clear hb hpl hrow6
            go_wp2_with fail
            with_reducible refine HSm.out.mono ?_
            rintro e w7 ⟨rfl, hb⟩
            have hpl := (hb.block _ (blk9_lt HPl.out)).trans HPl.out
            have k0 := cell9_blk hpl 0 rfl
            have k1 := cell9_blk hpl 1 rfl
            have HB7 := Lib.hid (HB6.out.trans (hb.mono HB6.out.size))
            clear hb hpl
            go_wp2_with fail
            with_reducible refine (HNu.out w7).mono ?_
            rintro e w8 ⟨rfl, hb⟩
            have HB8 := Lib.hid (HB7.out.trans (hb.mono HB7.out.size))
            clear hb k0 k1
            go_wp2_with fail
            with_reducible refine (HSu.out _ (HM.out.below HB8.out)).mono ?_
            rintro e w9 ⟨rfl, hb⟩
            have HB9 := Lib.hid (HB8.out.trans (hb.mono HB8.out.size))
            clear hb
            go_wp2_with fail
            go_ret
            have h := ret_trueI HB9.out
            first | exact h | (rw [hgw] at h; exact h)
end Go.Proofs.YthnogakjaaopkaaGreatDoor

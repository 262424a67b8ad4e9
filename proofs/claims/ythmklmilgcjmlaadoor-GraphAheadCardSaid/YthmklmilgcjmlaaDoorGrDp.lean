/- Contract: the document's Depths. -/
import Derived.Test.YthmklmilgcjmlaaDoorGrRe
import Derived.StillTailTactics
namespace Go.Proofs.YthmklmilgcjmlaaDoor
open Go.RowKit

theorem below_dq {B : Nat} (w : World) (q : Nat) : Below B w (w.drewN q) := ⟨rfl, rfl, rfl, Nat.le_refl _, fun _ _ => rfl⟩
/-- Places in a block of their own. -/
def IntB (b : Nat) (O : List Nat) (W : World) : Prop := W.heap[b]? = some (.cells (O.map intC).toArray 3 (0, 0))
theorem IntB.lt {b : Nat} {O : List Nat} {W : World} (h : IntB b O W) : b < W.heap.size := (Array.getElem?_eq_some_iff.1 h).1
theorem IntB.load {b : Nat} {O : List Nat} {W : World} (h : IntB b O W) {k v : Nat} (hk : O[k]? = some v) : W.cell? ⟨b, k, none⟩ = some (.int .i64 (v : Nat)) :=
  cell9_blk h k (by rw [List.getElem?_toArray, List.getElem?_map, hk]; rfl)
theorem IntB.frz {b : Nat} {O : List Nat} {W : World} (h : IntB b O W) (k : Nat) : W.frozen? ⟨b, k, none⟩ = false := frz9_blk h k
theorem IntB.below {b : Nat} {O : List Nat} {W W' : World} (h : IntB b O W) (hb : Below W.heap.size W W') : IntB b O W' := (hb.block _ h.lt).trans h
theorem IntB.set {b : Nat} {O : List Nat} {W : World} (h : IntB b O W) (k v : Nat) : IntB b (O.set k v) (W.setCell ⟨b, k, none⟩ (.int .i64 (v : Nat))) := by
  have := heap_setCell_same W b k _ _ (.int .i64 (v : Nat)) h
  unfold IntB
  rw [this]
  congr 2
  rw [List.map_set, List.setIfInBounds_toArray]
  rfl
theorem IntB.drewN {b : Nat} {O : List Nat} {W : World} (h : IntB b O W) (q : Nat) : IntB b O (W.drewN q) := h
theorem IntB.row {b n : Nat} {O : List Nat} {W : World} (h : IntB b O W) (hn : O.length = n) (h9 : n ≤ maxLen) : RowN W (.slice (some ⟨b, 0, none⟩) n n) O := by
  subst hn
  exact ⟨_, _, rfl, Nat.le_refl _, h9, Rd.block h⟩
set_option maxRecDepth 100000 in
theorem IntB.make (w : World) (n : Nat) (hn : n ≤ 4096) : ∃ V, (Instr.makeSlice 30 (.int .i64 (n : Nat)) (.int .i64 (n : Nat))).run Tryd.prog w = .ok (.slice (some ⟨w.heap.size, 0, none⟩) n n) V ∧ IntB w.heap.size (List.replicate n 0) V ∧ Below w.heap.size w V := by
  refine ⟨w.alloc (.cells ((List.replicate n 0).map intC).toArray 3), ?_, (MapKept.heap_alloc w _).1, (Below.refl _ _).alloc (Nat.le_refl _) _⟩
  have h := run_mk (P := Tryd.prog) elN (n : Nat) (n : Nat) (by omega) (Int.le_refl _) (by omega) (by omega) w
  rw [h]
  congr 3
  rw [Int.toNat_natCast]
  apply Array.toList_inj.1
  have h2 := toList_madeCells_one (Value.int .i64 0) n
  rw [show (Value.int .i64 0 : Value).cells = #[Value.int .i64 0] from rfl, h2, List.map_replicate]
  rfl
set_option maxRecDepth 100000 in
theorem BolB.make (w : World) (n : Nat) (hn : n ≤ 4096) : ∃ V, (Instr.makeSlice 51 (.int .i64 (n : Nat)) (.int .i64 (n : Nat))).run Tryd.prog w = .ok (.slice (some ⟨w.heap.size, 0, none⟩) n n) V ∧ BolB w.heap.size (List.replicate n false) V ∧ Below w.heap.size w V := by
  refine ⟨w.alloc (.cells ((List.replicate n false).map Value.bool).toArray 4), ?_, (MapKept.heap_alloc w _).1, (Below.refl _ _).alloc (Nat.le_refl _) _⟩
  have h := run_mk (P := Tryd.prog) elBo (n : Nat) (n : Nat) (by omega) (Int.le_refl _) (by omega) (by omega) w
  rw [h]
  congr 3
  rw [Int.toNat_natCast]
  apply Array.toList_inj.1
  have h2 := toList_madeCells_one (Value.bool false) n
  rw [show (Value.bool false : Value).cells = #[Value.bool false] from rfl, h2, List.map_replicate]
set_option maxRecDepth 100000 in
set_option maxHeartbeats 2000000 in
theorem refDp_any (n : Nat) (v : Value) (M : Wt) (w : World) (hn : n ≤ 4096) (hM : Okw n M) (hc : ¬ Cyc (eM M)) (hv : RowW w v (cst M)) :
    Calls Tryd.prog 18 #[.int .i64 (n : Nat), v] w fun e w' => ∃ o, e = .returned o ∧ RowN w' o ((List.range n).map (dpT M n)) ∧ Below w.heap.size w w' := by
  obtain ⟨A, c, rfl, hr⟩ := hv.form
  obtain ⟨m, hm⟩ : ∃ m, M.length = m := ⟨_, rfl⟩
  have hm9 : m ≤ 9223372036854775807 := by
    have h1 := hr.parts.2.1
    have h2 := hr.parts.2.2.1
    unfold maxLen at h2
    rw [cst_len, hm] at h1
    omega
  rw [cst_len, hm] at hr ⊢
  obtain ⟨V1, hmb, hK1, hb1⟩ := IntB.make w n hn
  obtain ⟨bt, hbt⟩ : ∃ x, w.heap.size = x := ⟨_, rfl⟩
  rw [hbt] at hmb hK1
  have H1 := Lib.hid (And.intro hb1 (And.intro hK1 (And.intro hr (And.intro hm (And.intro hM (And.intro hbt hc))))))
  have q0 : (0 : Int) ≤ n := by omega
  clear hb1 hK1 hr hv hM hm hbt hc
  go_enter Tryd.func18, Tryd.ntmps18
  go_wp2_with fail
  clear hmb
  go_loopw [6] (fun kv wr => ∃ (k : Nat) (O : List Nat), kv = .int .i64 k ∧ k ≤ n ∧ Below w.heap.size w wr ∧ IntB bt O wr ∧ Rlx M n k 0 O) (fun kv _ => n - (intOf kv).toNat)
  case atStart => exact ⟨0, _, rfl, Nat.zero_le _, H1.out.1, H1.out.2.1, Rlx.init M n⟩
  case round =>
    obtain ⟨k, O0, rfl, hk, hb, hF, hL⟩ := hrel
    have HK := Lib.hid (And.intro hb (And.intro hF hL))
    clear hb hF hL
    by_cases hkn : k < n
    · have q1 : (k : Int) < n := by omega
      go_wp2_with fail
      go_loopw [7] (fun iv wr => ∃ (i : Nat) (O : List Nat), iv = .int .i64 i ∧ i ≤ m ∧ Below w.heap.size w wr ∧ IntB bt O wr ∧ Rlx M n k i O) (fun iv _ => m - (intOf iv).toNat)
      case atStart => exact ⟨0, O0, rfl, Nat.zero_le _, HK.out.1, HK.out.2.1, HK.out.2.2⟩
      case round =>
        obtain ⟨i, O, rfl, hi, hb, hF, hL⟩ := hrel
        by_cases him : i < m
        · have s0 : (0 : Int) ≤ i := by omega
          have s1 : (i : Int) < m := by omega
          have hil : i < M.length := by rw [H1.out.2.2.2.1]; exact him
          obtain ⟨p, hp⟩ : ∃ p, M[i]? = some p := ⟨_, List.getElem?_eq_getElem hil⟩
          have hpm : p ∈ M := List.mem_of_getElem? hp
          obtain ⟨ad, X, rfl, hX, k0, k1⟩ := (H1.out.2.2.1.below hb).parts.2.2.2 i him _ (cst_get hp)
          obtain ⟨hp1, hp2⟩ := H1.out.2.2.2.2.1 p hpm
          dsimp only at k0 k1
          obtain ⟨a, ha⟩ : ∃ a, O[p.2]? = some a := ⟨_, List.getElem?_eq_getElem (by rw [hL.len]; exact hp2)⟩
          obtain ⟨b, hb'⟩ : ∃ b, O[p.1]? = some b := ⟨_, List.getElem?_eq_getElem (by rw [hL.len]; exact hp1)⟩
          have c1 := hF.load hb'
          have c2 := hF.load ha
          have fz := hF.frz p.2
          have hb9 : b ≤ 4096 := Nat.le_trans (hL.ub _ _ hb') (Nat.le_trans (dpT_le H1.out.2.2.2.2.1 H1.out.2.2.2.2.2.2 hp1) hn)
          have hst := hL.step H1.out.2.2.2.2.1 H1.out.2.2.2.2.2.2 hp ha hb'
          have hF2 := hF.set p.2 (max a (b + 1))
          have hb2 := hb.setCell (p := ⟨bt, p.2, none⟩) (by show _ ≤ bt; rw [H1.out.2.2.2.2.2.1]; exact Nat.le_refl _) (.int .i64 ((max a (b + 1) : Nat) : Int))
          have hmx : (if (a : Int) < (b : Int) + 1 then (b : Int) + 1 else (a : Int)) = ((max a (b + 1) : Nat) : Int) := by split <;> omega
          have HP := Lib.hid (And.intro hst (And.intro hF2 (And.intro hb2 hmx)))
          obtain ⟨a1, ha1⟩ : ∃ y, p.1 = y := ⟨_, rfl⟩
          obtain ⟨a2, ha2⟩ : ∃ y, p.2 = y := ⟨_, rfl⟩
          rw [ha1] at k0 c1 hp1
          rw [ha2] at k1 c2 hp2 fz
          rw [ha2] at HP
          have y0 : IntKind.i64.wrap ((b : Int) + 1) = (b : Int) + 1 := IntWalk.i64_in _ (by omega)
          have z0 : (0 : Int) ≤ a1 := by omega
          have z1 : (a1 : Int) < n := by omega
          have z2 : (0 : Int) ≤ a2 := by omega
          have z3 : (a2 : Int) < n := by omega
          clear hb hF hL hp hpm hst hF2 hb2 hmx hil ha hb' ha1 ha2
          go_wp2_with fail
          go_still_tail 25, (by kernel_rfl)
          change wpList _ _ _ _ _ wr.drew
          have fd : wr.drew.frozen? ⟨bt, a2, none⟩ = false := fz
          have cd : wr.drew.cell? ⟨bt, a2, none⟩ = some (.int .i64 a) := c2
          clear fz c1 c2 k0 k1
          go_wp2_with fail
          rw [HP.out.2.2.2]
          exact ⟨⟨i + 1, _, by go_num, him, HP.out.2.2.1.trans (below_dq _ 1), HP.out.2.1, HP.out.1⟩, by simp [intOf]; omega⟩
        · obtain rfl : m = i := by omega
          have HP := Lib.hid (And.intro hb (And.intro hF hL))
          clear hb hF hL
          go_wp2_with fail
          have hsl := HP.out.2.2
          rw [← H1.out.2.2.2.1] at hsl
          exact ⟨⟨k + 1, O, by go_num, hkn, HP.out.1, HP.out.2.1, hsl.round H1.out.2.2.2.2.1 H1.out.2.2.2.2.2.2⟩, by simp [intOf]; omega⟩
    · have q1 : ¬ (k : Int) < n := by omega
      obtain rfl : n = k := by omega
      go_wp2_with fail
      go_ret
      refine ⟨_, rfl, ?_, HK.out.1⟩
      rw [← HK.out.2.2.done H1.out.2.2.2.2.1 H1.out.2.2.2.2.2.2]
      exact HK.out.2.1.row HK.out.2.2.len (by unfold maxLen; omega)
end Go.Proofs.YthmklmilgcjmlaaDoor

/- Contract: sameBlocks of blocks that are the same. -/
import Derived.Test.YthnogakjaaopkaaGreatDoorBp9
import Derived.Test.YthnogakjaaopkaaGreatDoorBase
import Derived.Deep.RegionHeld3
import Derived.Test.YthnogakjaaopkaaGreatDoorVaLb
import Derived.BigQuiet
import Derived.Deep.QuietTactic
namespace Go.Proofs.YthnogakjaaopkaaGreatDoor
open Go.RowKit

/-- Blocks that are the same; but for where they stand. -/
def Sm (a : Bool) (L1 L2 : List MB) : Prop := L1.length = L2.length ∧ ∀ (i : Nat) (b1 b2 : MB), L1[i]? = some b1 → L2[i]? = some b2 → b1.2.1 = b2.2.1 ∧ (a = true → b1.1 = b2.1) ∧ b1.2.2.length = b2.2.2.length ∧ ∀ (k : Nat) (f1 f2 : MF), b1.2.2[k]? = some f1 → b2.2.2[k]? = some f2 → f1.2 = f2.2 ∧ (a = true → f1.1 = f2.1)
theorem Sm.refl (a : Bool) (L : List MB) : Sm a L L := ⟨rfl, fun i b1 b2 h1 h2 => by
  rw [h1] at h2
  injection h2 with h2
  subst h2
  exact ⟨rfl, fun _ => rfl, rfl, fun k f1 f2 g1 g2 => by
    rw [g1] at g2
    injection g2 with g2
    subst g2
    exact ⟨rfl, fun _ => rfl⟩⟩⟩
def SamP (w : World) (e : Ending) (w' : World) : Prop := e = .returned (.bool true) ∧ Below w.heap.size w w'
theorem samP {w w' : World} (h : Below w.heap.size w w') : SamP w (.returned (.bool true)) w' := ⟨rfl, h⟩
theorem below_al2 (w : World) (o o' : Obj) : Below w.heap.size w ((w.alloc o).alloc o').drew := by
  have h := ((Below.refl w.heap.size w).alloc (Nat.le_refl _) o).alloc (by simp) o'
  exact ⟨h.os, h.tape, h.output, h.size, h.block⟩
set_option maxHeartbeats 4000000 in
set_option maxRecDepth 100000 in
theorem same_any (v1 v2 : Value) (a : Bool) (L1 L2 : List MB) (w : World) (h1 : RowB w v1 L1) (h2 : RowB w v2 L2) (hs : Sm a L1 L2) :
    Calls Tryz.prog 14 #[v1, v2, .bool a] w (SamP w) := by
  obtain ⟨A1, c1, rfl, hr1⟩ := h1.form
  obtain ⟨A2, c2, rfl, hr2⟩ := h2.form
  obtain ⟨n, hn⟩ : ∃ n, L1.length = n := ⟨_, rfl⟩
  have hn2 : L2.length = n := by rw [← hs.1, hn]
  rw [hn] at hr1 ⊢
  rw [hn2] at hr2 ⊢
  have hn9 : n ≤ 9223372036854775807 := Nat.le_trans hr1.parts.2.1 hr1.parts.2.2.1
  have HR := Lib.hid (And.intro hr1 (And.intro hr2 (And.intro hs (And.intro hn hn2))))
  clear h1 h2 hr1 hr2 hs hn hn2
  cases a
  all_goals
    go_enter Tryz.func14, Tryz.ntmps14
    go_wp2_with fail
    go_loopw [7] (fun iv wr => ∃ i : Nat, iv = .int .i64 i ∧ i ≤ n ∧ Below w.heap.size w wr) (fun iv _ => n - (intOf iv).toNat)
    case atStart => exact ⟨0, rfl, Nat.zero_le _, Below.refl _ _⟩
    case round =>
      obtain ⟨i, rfl, hi, hb⟩ := hrel
      obtain ⟨wo, hwo⟩ : ∃ x, x = wr := ⟨_, rfl⟩
      subst hwo
      have HO := Lib.hid hb
      rcases Nat.lt_or_ge i n with hlt | hge
      · have hi1 : i < L1.length := by rw [HR.out.2.2.2.1]; exact hlt
        have hi2 : i < L2.length := by rw [HR.out.2.2.2.2]; exact hlt
        obtain ⟨b1, e1⟩ : ∃ b, L1[i]? = some b := ⟨_, List.getElem?_eq_getElem hi1⟩
        obtain ⟨b2, e2⟩ : ∃ b, L2[i]? = some b := ⟨_, List.getElem?_eq_getElem hi2⟩
        obtain ⟨hk, ha, hfl, hff⟩ := HR.out.2.2.1.2 i b1 b2 e1 e2
        obtain ⟨ad, X, vF, rfl, hX, k0, k1, k2, hrf⟩ := (HR.out.1.below hb).parts.2.2.2 i hlt _ e1
        obtain ⟨ae, Y, vG, rfl, hY, g0, g1, g2, hrg⟩ := (HR.out.2.1.below hb).parts.2.2.2 i hlt _ e2
        obtain ⟨AF, cF, rfl, hrF⟩ := hrf.form
        obtain ⟨AG, cG, rfl, hrG⟩ := hrg.form
        obtain ⟨f, hf⟩ : ∃ f, b1.2.2.length = f := ⟨_, rfl⟩
        have hf2 : b2.2.2.length = f := by rw [← hfl, hf]
        rw [hf] at k2 hrF
        rw [hf2] at g2 hrG
        have hfc : f ≤ 9223372036854775807 := Nat.le_trans hrF.parts.2.1 hrF.parts.2.2.1
        obtain ⟨S, hS⟩ : ∃ S, str b1.2.1 = S := ⟨_, rfl⟩
        rw [hS] at k1
        rw [← hk, hS] at g1
        try rw [← ha (by first | rfl | trivial)] at g0
        have HF := Lib.hid (And.intro hrF (And.intro hrG (And.intro hff (And.intro hf hf2))))
        obtain ⟨x1, hx1⟩ : ∃ x, b1.1 = x := ⟨_, rfl⟩
        obtain ⟨y1, hy1⟩ : ∃ x, b2.1 = x := ⟨_, rfl⟩
        rw [hx1] at k0
        try rw [hy1] at g0
        try rw [hx1] at g0
        have t1 : (S.toList == S.toList) = true := beq_self_eq_true _
        have t2 : ((x1 : Int) == x1) = true := beq_self_eq_true _
        have t3 : ((f : Int) == (f : Int)) = true := beq_self_eq_true _
        have q0 : (0 : Int) ≤ i := by omega
        have q1 : (i : Int) < n := by omega
        clear hrf hrg hrF hrG hff hf hf2 hfl hk ha hS e1 e2 hi1 hi2 hb hx1 hy1
        go_wp2_with fail
        go_quiet (fail)
        clear k0 k1 g0 g1 t1 t2 t3
        go_wp2_with fail
        go_loopw [8] (fun kv wr => ∃ k : Nat, kv = .int .i64 k ∧ k ≤ f ∧ Below wo.heap.size wo wr) (fun kv _ => f - (intOf kv).toNat)
        case atStart => exact ⟨0, rfl, Nat.zero_le _, below_dr _ _⟩
        case round =>
          obtain ⟨k, rfl, hk, hb2⟩ := hrel
          have HI := Lib.hid hb2
          have k2' := cell9_below k2 hb2
          have g2' := cell9_below g2 hb2
          rcases Nat.lt_or_ge k f with hlt5 | hge5
          · obtain ⟨f1, e1⟩ : ∃ q, b1.2.2[k]? = some q := ⟨_, List.getElem?_eq_getElem (by rw [HF.out.2.2.2.1]; exact hlt5)⟩
            obtain ⟨f2, e2⟩ : ∃ q, b2.2.2[k]? = some q := ⟨_, List.getElem?_eq_getElem (by rw [HF.out.2.2.2.2]; exact hlt5)⟩
            obtain ⟨hv, ha⟩ := HF.out.2.2.1 k f1 f2 e1 e2
            obtain ⟨ag, X3, rfl, hX3, m0, m1, m2⟩ := (HF.out.1.below hb2).parts.2.2.2 k hlt5 _ e1
            obtain ⟨ah, Y3, rfl, hY3, n0, n1, n2⟩ := (HF.out.2.1.below hb2).parts.2.2.2 k hlt5 _ e2
            rw [← hv] at n1 n2
            obtain ⟨N1, hN1⟩ : ∃ x, str f1.2.1 = x := ⟨_, rfl⟩
            obtain ⟨N2, hN2⟩ : ∃ x, str f1.2.2 = x := ⟨_, rfl⟩
            rw [hN1] at m1 n1
            rw [hN2] at m2 n2
            obtain ⟨x1, hx1⟩ : ∃ x, f1.1 = x := ⟨_, rfl⟩
            obtain ⟨y1, hy1⟩ : ∃ x, f2.1 = x := ⟨_, rfl⟩
            first
              | (have hq := ha (by first | rfl | trivial)
                 rw [hx1, hy1] at hq
                 subst hq)
              | skip
            rw [hx1] at m0
            rw [hy1] at n0
            have HJ := Lib.hid (fun W (hW : Below wr.heap.size wr W) => And.intro (cell9_below k2' hW) (And.intro (cell9_below g2' hW) (And.intro (cell9_below m0 hW) (And.intro (cell9_below m1 hW) (And.intro (cell9_below m2 hW) (And.intro (cell9_below n0 hW) (And.intro (cell9_below n1 hW) (cell9_below n2 hW))))))))
            have t1 : (N1.toList == N1.toList) = true := beq_self_eq_true _
            have t2 : (N2.toList == N2.toList) = true := beq_self_eq_true _
            have t3 : ((x1 : Int) == x1) = true := beq_self_eq_true _
            have p0 : (0 : Int) ≤ k := by omega
            have p1 : (k : Int) < f := by omega
            clear hb2 e1 e2 hv ha hN1 hN2 hx1 hy1
            go_wp2_with fail
            first
              | go_region_held3 (fun W => W.cell? { block := X.block, off := X.off + 2 } = some (.slice (some ag) f cF) ∧ W.cell? { block := Y.block, off := Y.off + 2 } = some (.slice (some ah) f cG) ∧ W.cell? X3 = some (.int .i64 x1) ∧ W.cell? { block := X3.block, off := X3.off + 1 } = some (.string N1) ∧ W.cell? { block := X3.block, off := X3.off + 2 } = some (.string N2) ∧ W.cell? Y3 = some (.int .i64 x1) ∧ W.cell? { block := Y3.block, off := Y3.off + 1 } = some (.string N1) ∧ W.cell? { block := Y3.block, off := Y3.off + 2 } = some (.string N2)) (first | exact HJ.out wr (Below.refl _ _) | exact HJ.out (wr.alloc _) ((Below.refl _ _).alloc (Nat.le_refl _) _) | exact HJ.out ((wr.alloc _).alloc _) (((Below.refl _ _).alloc (Nat.le_refl _) _).alloc (by simp) _)) (fail)
              | go_region_held3 (fun W => W.cell? { block := X.block, off := X.off + 2 } = some (.slice (some ag) f cF) ∧ W.cell? { block := Y.block, off := Y.off + 2 } = some (.slice (some ah) f cG) ∧ W.cell? X3 = some (.int .i64 x1) ∧ W.cell? { block := X3.block, off := X3.off + 1 } = some (.string N1) ∧ W.cell? { block := X3.block, off := X3.off + 2 } = some (.string N2) ∧ W.cell? Y3 = some (.int .i64 y1) ∧ W.cell? { block := Y3.block, off := Y3.off + 1 } = some (.string N1) ∧ W.cell? { block := Y3.block, off := Y3.off + 2 } = some (.string N2)) (first | exact HJ.out wr (Below.refl _ _) | exact HJ.out (wr.alloc _) ((Below.refl _ _).alloc (Nat.le_refl _) _) | exact HJ.out ((wr.alloc _).alloc _) (((Below.refl _ _).alloc (Nat.le_refl _) _).alloc (by simp) _)) (fail)
            all_goals
              clear m0 m1 m2 n0 n1 n2 k2' g2'
              go_wp2_with fail
              exact ⟨⟨k + 1, by go_num, hlt5, HI.out.trans ((below_al2 _ _ _).mono HI.out.size)⟩, by simp [intOf]; omega⟩
          · obtain rfl : k = f := by omega
            have p1 : ¬ ((k : Int) < k) := by omega
            clear hb2
            go_wp2_with fail
            exact ⟨⟨i + 1, by go_num, hlt, HO.out.trans (HI.out.mono HO.out.size)⟩, by simp [intOf]; omega⟩
      · obtain rfl : i = n := by omega
        have q1 : ¬ ((i : Int) < i) := by omega
        clear hb
        go_wp2_with fail
        go_ret
        exact samP HO.out
end Go.Proofs.YthnogakjaaopkaaGreatDoor

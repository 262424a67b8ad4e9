/- Contracts of crc's Open. -/
import Derived.Test.YtbemloijgabfcaaDoorCrcB
import Derived.Deep.RegionHeld3
import Derived.Deep.RegionWith
namespace Go.Proofs.YtbemloijgabfcaaDoor
open Go.RowKit

theorem open_short (A : Option Addr) (c : Nat) (l : List UInt8) (w : World) (hl : l.length < 4) :
    Calls Tryd.prog 14 #[.slice A l.length c] w fun e w' => e = .returned (.tuple #[.slice none 0 0, .iface 43 (.int .i64 4)]) ∧ w = w' := by
  go_enter Tryd.func14, Tryd.ntmps14
  go_wp2_with fail
  go_ret2
  exact ⟨rfl, rfl⟩

theorem cut_facts (l : List UInt8) (n : Nat) (hn : l.length = n + 4) : (l.take n).length = n ∧ (l.drop n).length = 4 := by
  rw [List.length_take, List.length_drop]; omega

set_option maxHeartbeats 400000 in
theorem open_bad (ad : Addr) (n c : Nat) (l : List UInt8) (w : World) (ht : Tab w) (hr : Rd w (some ad) (bs l)) (hn : l.length = n + 4) (hm : n + 4 ≤ maxLen)
    (hc : n + 4 ≤ c) (hbad : ¬ l.drop n = le4 (more 0 (l.take n))) :
    Calls Tryd.prog 14 #[.slice (some ad) (n + 4 : Nat) c] w fun e w' => e = .returned (.tuple #[.slice none 0 0, .iface 43 (.int .i64 6)]) ∧ Below w.heap.size w w' := by
  unfold maxLen at hm
  obtain ⟨hx1, hx2⟩ := cut_facts l n hn
  obtain ⟨c0, c1, c2, c3, hd⟩ := list4 _ hx2
  have hat : ∀ W : World, (Instr.arrayAt 45 (.slice (some (ad.add n)) 4 (c - n))).run Tryd.prog W = .ok (.pointer (some (ad.add n))) W := fun W =>
    run_arrayAt W _ _ 4 _ 4 _ Tryd.underlying45 (Nat.le_refl _)
  have hne : ∀ W : World, (binOp .neq 45 (.agg #[.int .u8 (c0.toNat : Int), .int .u8 (c1.toNat : Int), .int .u8 (c2.toNat : Int), .int .u8 (c3.toNat : Int)]) (tailV (more 0 (l.take n)))).run Tryd.prog W = .ok (.bool true) W := fun W => by
    have := run_neq_arr8 (P := Tryd.prog) Tryd.underlying45 Tryd.underlying5 (fun w => by kernel_rfl) [c0, c1, c2, c3] (le4 (more 0 (l.take n))) rfl rfl W
    rw [← hd, beq_eq_false_iff_ne.2 hbad, hd] at this
    exact this
  have hld : ∀ W : World, Rd W (some ad) (bs l) → _ := fun W hR => Rd.four (v0 := .int .u8 (c0.toNat : Int)) (v1 := .int .u8 (c1.toNat : Int)) (v2 := .int .u8 (c2.toNat : Int)) (v3 := .int .u8 (c3.toNat : Int)) (a := ad.add n) (fun j v hj => hR.from_ (by rw [bs_length]; omega) j v (by rw [bs_drop, hd]; exact hj))
  have HT := Lib.hid ht
  have HR := Lib.hid hr
  have HL := Lib.hid hld
  have HX := Lib.hid hx1
  obtain ⟨l0, l1, l2, l3⟩ := hld w.drew hr
  clear ht hr hbad hn hld hx1 hx2 hd
  obtain ⟨x0, x1, x2, x3, _, hv⟩ := tailV_form (more 0 (l.take n))
  rw [hv] at hne
  have HTV := Lib.hid hv
  clear hv
  have i0 : (0 : Int) ≤ (n : Int) := by omega
  have i1 : (n : Int) ≤ ((n + 4 : Nat) : Int) := by omega
  have i1' : (n : Int) ≤ (n : Int) + 4 := by omega
  have i2 : (n : Int) ≤ (c : Int) := by omega
  have i3 : ¬ c = n := by omega
  go_enter Tryd.func14, Tryd.ntmps14
  go_wp2_with fail
  go_region_held3 (fun W => W.cell? (ad.add n) = some (.int .u8 (c0.toNat : Int)) ∧ W.cell? { block := (ad.add n).block, off := (ad.add n).off + 1 } = some (.int .u8 (c1.toNat : Int)) ∧ W.cell? { block := (ad.add n).block, off := (ad.add n).off + 2 } = some (.int .u8 (c2.toNat : Int)) ∧ W.cell? { block := (ad.add n).block, off := (ad.add n).off + 3 } = some (.int .u8 (c3.toNat : Int)))
    (first | exact ⟨l0, l1, l2, l3⟩ | exact ⟨m0, m1, m2, m3⟩)
    (first
    | (go_at_call 20
       refine (tail_n (some ad) n c (l.take n) _ HX.out ?_ ?_ ?_).mono ?_
       · exact HT.out.drewN 1
       · rw [← bs_take]; exact (HR.out.drewN 1).take
       · unfold maxLen; omega
       rintro e w1 ⟨he, hb1⟩
       rw [HTV.out] at he
       subst he
       obtain ⟨m0, m1, m2, m3⟩ := HL.out w1 ((HR.out.drewN 1).below hb1)))
  all_goals
    go_wp2_with fail
    go_ret2
    exact ⟨rfl, (Below.refl _ w).drew.trans hb1⟩
set_option maxHeartbeats 400000 in
theorem open_good (ad : Addr) (n c : Nat) (l : List UInt8) (w : World) (ht : Tab w) (hr : Rd w (some ad) (bs l)) (hn : l.length = n + 4) (hm : n + 4 ≤ 1000000)
    (hc : n + 4 ≤ c) (hbad : l.drop n = le4 (more 0 (l.take n))) :
    Calls Tryd.prog 14 #[.slice (some ad) (n + 4 : Nat) c] w fun e w' => ∃ v, e = .returned (.tuple #[v, .nilIface]) ∧ w'.ownsRow w.heap.size 5 1 v n (bs (l.take n)) ∧ Below w.heap.size w w' := by
  obtain ⟨hx1, hx2⟩ := cut_facts l n hn
  obtain ⟨c0, c1, c2, c3, hd⟩ := list4 _ hx2
  have hat : ∀ W : World, (Instr.arrayAt 45 (.slice (some (ad.add n)) 4 (c - n))).run Tryd.prog W = .ok (.pointer (some (ad.add n))) W := fun W =>
    run_arrayAt W _ _ 4 _ 4 _ Tryd.underlying45 (Nat.le_refl _)
  have hne : ∀ W : World, (binOp .neq 45 (.agg #[.int .u8 (c0.toNat : Int), .int .u8 (c1.toNat : Int), .int .u8 (c2.toNat : Int), .int .u8 (c3.toNat : Int)]) (tailV (more 0 (l.take n)))).run Tryd.prog W = .ok (.bool false) W := fun W => by
    have := run_neq_arr8 (P := Tryd.prog) Tryd.underlying45 Tryd.underlying5 (fun w => by kernel_rfl) [c0, c1, c2, c3] (le4 (more 0 (l.take n))) rfl rfl W
    rw [← hd, beq_iff_eq.2 hbad, hd] at this
    exact this
  have hld : ∀ W : World, Rd W (some ad) (bs l) → _ := fun W hR => Rd.four (v0 := .int .u8 (c0.toNat : Int)) (v1 := .int .u8 (c1.toNat : Int)) (v2 := .int .u8 (c2.toNat : Int)) (v3 := .int .u8 (c3.toNat : Int)) (a := ad.add n) (fun j v hj => hR.from_ (by rw [bs_length]; omega) j v (by rw [bs_drop, hd]; exact hj))
  have HT := Lib.hid ht
  have HR := Lib.hid hr
  have HL := Lib.hid hld
  have HX := Lib.hid hx1
  obtain ⟨l0, l1, l2, l3⟩ := hld w.drew hr
  clear ht hr hbad hn hld hx1 hx2 hd
  obtain ⟨x0, x1, x2, x3, _, hv⟩ := tailV_form (more 0 (l.take n))
  rw [hv] at hne
  have HTV := Lib.hid hv
  clear hv
  have i0 : (0 : Int) ≤ (n : Int) := by omega
  have i1 : (n : Int) ≤ ((n + 4 : Nat) : Int) := by omega
  have i1' : (n : Int) ≤ (n : Int) + 4 := by omega
  have i2 : (n : Int) ≤ (c : Int) := by omega
  have i3 : ¬ c = n := by omega
  go_enter Tryd.func14, Tryd.ntmps14
  go_wp2_with fail
  go_region_held3 (fun W => W.cell? (ad.add n) = some (.int .u8 (c0.toNat : Int)) ∧ W.cell? { block := (ad.add n).block, off := (ad.add n).off + 1 } = some (.int .u8 (c1.toNat : Int)) ∧ W.cell? { block := (ad.add n).block, off := (ad.add n).off + 2 } = some (.int .u8 (c2.toNat : Int)) ∧ W.cell? { block := (ad.add n).block, off := (ad.add n).off + 3 } = some (.int .u8 (c3.toNat : Int)))
    (first | exact ⟨l0, l1, l2, l3⟩ | exact ⟨m0, m1, m2, m3⟩)
    (first
    | (go_at_call 20
       refine (tail_n (some ad) n c (l.take n) _ HX.out ?_ ?_ ?_).mono ?_
       · exact HT.out.drewN 1
       · rw [← bs_take]; exact (HR.out.drewN 1).take
       · unfold maxLen; omega
       rintro e w1 ⟨he, hb1⟩
       rw [HTV.out] at he
       subst he
       obtain ⟨m0, m1, m2, m3⟩ := HL.out w1 ((HR.out.drewN 1).below hb1)))
  all_goals
    have hb := (Below.refl _ w).drew.trans hb1
    have hbs := hb.size
    go_wp2_with (first
      | (at_builtin
         refine wpList_app rfl (.const (.slice none 0 0)) (.tmp 24) _ rfl elU8 w.heap.size (.slice none 0 0) 0 [] rfl (World.ownsRow_nil _ _ _ _) (some ad) n c (bs (l.take n)) rfl (by rw [bs_length]; exact HX.out) ?rd (bs_one _) (by unfold maxLen; omega) (by omega) hbs ?_
         case rd =>
           rw [← bs_take]
           exact (HR.out.below hb).take
         intro v2 w2 hown2 hg2 hat2))
    go_ret2
    exact ⟨v2, rfl, by simpa using hown2, hb.grown hg2 hbs (fun k hk => by simp [Value.ownBlock] at hk)⟩
theorem sealed_cut (l : List UInt8) : (sealed l).take l.length = l ∧ (sealed l).drop l.length = le4 (more 0 l) := by
  unfold sealed
  exact ⟨List.take_left, List.drop_left⟩
/-- What was sealed is opened. -/
theorem open_sealed (A : Option Addr) (n c : Nat) (l : List UInt8) (w : World) (hn : n = l.length + 4) (ht : Tab w) (hr : Rd w A (bs (sealed l))) (hm : n ≤ 1000000) (hc : n ≤ c) :
    Calls Tryd.prog 14 #[.slice A n c] w fun e w' => ∃ v, e = .returned (.tuple #[v, .nilIface]) ∧ w'.ownsRow w.heap.size 5 1 v l.length (bs l) ∧ Below w.heap.size w w' := by
  subst hn
  obtain ⟨ad, rfl, _⟩ := hr (by rw [bs_length, seal_length]; omega)
  obtain ⟨h1, h2⟩ := sealed_cut l
  have h := open_good ad l.length c (sealed l) w ht hr (seal_length l) hm hc (by rw [h1, h2])
  rw [h1] at h
  exact h
end Go.Proofs.YtbemloijgabfcaaDoor

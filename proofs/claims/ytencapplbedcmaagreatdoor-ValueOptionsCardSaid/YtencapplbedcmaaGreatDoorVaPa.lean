/- Contracts: value's trim, parts; parts deals out a list's parts. -/
import Derived.Test.YtencapplbedcmaaGreatDoorVaSq
import Derived.Test.YtencapplbedcmaaGreatDoorVaJo
import Derived.Shelf.RegionOpen
namespace Go.Proofs.YtencapplbedcmaaGreatDoor
open Go.RowKit Go.Shelf
attribute [local go_sem] Oper.semAt_some

theorem cut_le : ∀ (l : Tx) (p : Tx), p ∈ cutAt 44 l → p.length ≤ l.length
  | [], p, h => by
    rw [cutAt] at h
    rw [List.mem_singleton.1 h]
    exact Nat.le_refl _
  | b :: l, p, h => by
    by_cases e : b = 44
    · subst e
      rw [cutAt_self] at h
      rcases List.mem_cons.1 h with rfl | h
      · exact Nat.zero_le _
      · have := cut_le l p h
        simp only [List.length_cons]
        omega
    · obtain ⟨q, ps, e1, e2⟩ := cutAt_cons 44 b l e
      rw [e2] at h
      rcases List.mem_cons.1 h with rfl | h
      · have := cut_le l q (by rw [e1]; simp)
        simp only [List.length_cons]
        omega
      · have := cut_le l p (by rw [e1]; simp [h])
        simp only [List.length_cons]
        omega
set_option maxRecDepth 100000 in
theorem parts_any (l : Tx) (w : World) : Calls Tryz.prog 30 #[.string (str l)] w fun e w' => e = .returned (.func (.func 54) #[] #[.pointer (some ⟨w.heap.size, 0, none⟩)]) ∧ Below w.heap.size w w' ∧ w'.heap.size = w.heap.size + 1 ∧ Bx w' w.heap.size 9 (.string (str l)) := by
  obtain ⟨S, hS⟩ : ∃ S, str l = S := ⟨_, rfl⟩
  rw [hS]
  clear hS
  go_enter Tryz.func30, Tryz.ntmps30
  go_wp2_with fail
  go_ret
  exact ⟨rfl, (Below.refl _ w).alloc (Nat.le_refl _) _, by simp, Bx.new w _ _⟩
set_option maxRecDepth 100000 in
set_option maxHeartbeats 2000000 in
theorem parts1_deals (l : Tx) (hl : l.length ≤ 1000000) (B : Nat) (S0 : Nat → Prop) (_ : S0 B) (W : World) (hS0 : ∀ k, S0 k → k < W.heap.size) (hB : Bx W B 9 (.string (str l))) :
    Deals Tryz.prog 54 #[.pointer (some ⟨B, 0, none⟩)] txC (partsT l) S0 W := by
  intro L J Jx hJ hJx hY h0
  refine callsIn_of_wp_marks Tryz.func54 rfl trivial ?_ rfl
  simp only [Tryz.ntmps54, List.size_toArray, List.length_cons, List.length_nil, Nat.reduceAdd, Nat.reduceSub, Array.replicate_succ, Array.replicate_zero, List.push_toArray, List.append_toArray, List.nil_append, List.cons_append]
  have HS := Lib.hid (fun sep hsep w => splitSeq_any l sep hsep w)
  have HDl := Lib.hid (fun b1 b2 b3 h12 h32 T h1 h2 h3 V hT x1 x2 x3 => splitSeq1_deals l hl b1 b2 b3 h12 h32 T h1 h2 h3 V hT x1 x2 x3)
  have HP : Hid (∀ pre x post, cutAt 44 l = pre ++ x :: post → partsT l = pre.map trw ++ trw x :: post.map trw ∧ x.length ≤ 1000000) := fun pre x post h => by
    refine ⟨by rw [partsT, h, List.map_append, List.map_cons], ?_⟩
    have := cut_le l x (by rw [h]; simp)
    omega
  have HE : Hid (partsT l = (cutAt 44 l).map trw) := rfl
  obtain ⟨V1, hV1⟩ : ∃ V1, W.alloc (.cells #[.func (.yield L) #[] #[]] 59) = V1 := ⟨_, rfl⟩
  have hb1 : Below W.heap.size W V1 := by rw [← hV1]; exact (Below.refl _ _).alloc (Nat.le_refl _) _
  have hz1 : V1.heap.size = W.heap.size + 1 := by rw [← hV1]; simp
  have hy1 : Bx V1 W.heap.size 59 (.func (.yield L) #[] #[]) := by rw [← hV1]; exact Bx.new W _ _
  have kB := (hB.below hb1).cell
  have HY := Lib.hid hY
  have HH := Lib.hid (And.intro hb1 (And.intro hz1 (And.intro hy1 (And.intro h0 (And.intro hS0 hB)))))
  generalize cutAt 44 l = xs at *
  generalize partsT l = ys at *
  generalize str l = D at *
  clear hb1 hz1 hy1 hY h0 hS0 hB hl
  gi_wp2_with fail
  refine ⟨trivial, rfl, (callsIn_wide.2 (HS.out _ rfl _)).mono ?_⟩
  rintro e V2 ⟨rfl, hb2, hz2, x1, x2, x3⟩
  have hT : ∀ k, (V1.heap.size ≤ k ∧ k < V1.heap.size + 3) → k < V2.heap.size := fun k h => by omega
  have hbW : Below W.heap.size W V2 := HH.out.1.trans (hb2.mono HH.out.1.size)
  have hy2 : Bx V2 W.heap.size 59 (.func (.yield L) #[] #[]) := HH.out.2.2.1.below hb2
  have hsq : ∀ V, Below V2.heap.size V2 V → Deals Tryz.prog 97 #[.pointer (some ⟨V1.heap.size + 1, 0, none⟩), .pointer (some ⟨V1.heap.size, 0, none⟩), .pointer (some ⟨V1.heap.size + 2, 0, none⟩)] txC xs (fun k => V1.heap.size ≤ k ∧ k < V1.heap.size + 3) V := fun V hb =>
    HDl.out _ _ _ (by omega) (by omega) _ (by omega) (by omega) (by omega) V (fun k h => Nat.lt_of_lt_of_le (hT k h) hb.size) (x2.below hb) (x1.below hb) (x3.below hb)
  have hj2 : J (fun k => (V1.heap.size ≤ k ∧ k < V1.heap.size + 3) ∨ S0 k ∨ k = W.heap.size) [] V2 := by
    have h1 := HH.out.2.1
    refine hJ S0 _ [] W V2 HH.out.2.2.2.1 ⟨hbW.os, hbW.tape, hbW.output, hbW.size, fun k hk _ => hbW.block k hk, fun k h => ?_, fun k h => ?_⟩
    · rcases h with h | h | h
      · exact .inr (by omega)
      · exact .inl h
      · exact .inr (by omega)
    · rcases h with h | h | h
      · exact hT k h
      · exact Nat.lt_of_lt_of_le (HH.out.2.2.2.2.1 k h) hbW.size
      · omega
  have HK := Lib.hid (And.intro hT (And.intro hbW (And.intro hy2 (And.intro hsq hj2))))
  clear hT hbW hy2 hsq hj2 x1 x2 x3 hb2
  gi_wp2_with fail
  refine wpIn_deals (gf := 97) rfl (enters_of Tryz.func97 (by kernel_rfl) rfl) (enc := txC) (xs := xs) (S0 := fun k => V1.heap.size ≤ k ∧ k < V1.heap.size + 3) HK.out.1 HK.out.2.2.2.1
    (fun S pre V => J (fun k => S k ∨ S0 k ∨ k = W.heap.size) (pre.map trw) V ∧ Bx V W.heap.size 59 (.func (.yield L) #[] #[]) ∧ ¬ S W.heap.size ∧ W.heap.size ≤ V.heap.size)
    (fun S pre V => Jx (fun k => S k ∨ S0 k ∨ k = W.heap.size) (pre.map trw) V ∧ W.heap.size < V.heap.size)
    ?stI ?stX ?start (fun x => { tmps := #[.func (.yield L) #[] #[], .pointer (some ⟨B, 0, none⟩), .pointer (some ⟨W.heap.size, 0, none⟩), .string (str x), .string D,
      .func (.func 97) #[] #[.pointer (some ⟨V1.heap.size + 1, 0, none⟩), .pointer (some ⟨V1.heap.size, 0, none⟩), .pointer (some ⟨V1.heap.size + 2, 0, none⟩)], .string (str x), undef, undef, undef, undef, undef], defers := [] }) ?assign ?body ?done ?stop
  case stI =>
    rintro S T pre V V' ⟨h1, h2, h3, h4⟩ ht
    have hyl := h2.lt
    refine ⟨hJ _ _ _ _ _ h1 ⟨ht.os, ht.tape, ht.output, ht.size, fun k hk hn => ht.same k hk (fun hs => hn (.inl hs)), fun k hk => ?_, fun k hk => ?_⟩, h2.turned ht h3, fun hT => (ht.more _ hT).elim h3 (fun h => by omega), Nat.le_trans h4 ht.size⟩
    · rcases hk with hk | hk
      · exact (ht.more k hk).elim (fun h => .inl (.inl h)) .inr
      · exact .inl (.inr hk)
    · rcases hk with hk | hk | hk
      · exact ht.lt k hk
      · exact Nat.lt_of_lt_of_le (HH.out.2.2.2.2.1 k hk) (Nat.le_trans h4 ht.size)
      · exact hk ▸ Nat.lt_of_lt_of_le hyl ht.size
  case stX =>
    rintro S T pre V V' ⟨h1, h4⟩ ht
    refine ⟨hJx _ _ _ _ _ h1 ⟨ht.os, ht.tape, ht.output, ht.size, fun k hk hn => ht.same k hk (fun hs => hn (.inl hs)), fun k hk => ?_, fun k hk => ?_⟩, Nat.lt_of_lt_of_le h4 ht.size⟩
    · rcases hk with hk | hk
      · exact (ht.more k hk).elim (fun h => .inl (.inl h)) .inr
      · exact .inl (.inr hk)
    · rcases hk with hk | hk | hk
      · exact ht.lt k hk
      · exact Nat.lt_of_lt_of_le (HH.out.2.2.2.2.1 k hk) (Nat.le_trans (Nat.le_of_lt h4) ht.size)
      · exact hk ▸ Nat.lt_of_lt_of_le h4 ht.size
  case start =>
    have h1 := HH.out.2.1
    exact ⟨HK.out.2.2.2.2, HK.out.2.2.1, fun h => absurd h.1 (by omega), HK.out.2.1.size⟩
  case assign =>
    intro l2 x V K hK
    gi_wp2_with fail
    exact hK
  case done =>
    rintro D2 S V hlt hD ⟨h1, h2, h3, h4⟩ hd
    have HZ := Lib.hid (And.intro h1 (And.intro hD hd))
    have hls : ∀ k, (S k ∨ S0 k ∨ k = W.heap.size) → k < V.heap.size := fun k hk => by
      have h5 := h2.lt
      rcases hk with hk | hk | hk
      · exact hlt k hk
      · exact Nat.lt_of_lt_of_le (HH.out.2.2.2.2.1 k hk) h4
      · omega
    have HL := Lib.hid hls
    clear h1 h2 h3 h4 hd hD hlt hls
    gi_wp2_with fail
    refine ⟨by simp, .inl ⟨_, _, rfl, run_takeDeferred HZ.out.2.2, ?_⟩⟩
    refine ⟨_, results_none rfl _ _ _, ⟨_, rfl⟩, _, .inl (hJ _ _ _ _ _ (HE.out.symm ▸ HZ.out.1) (Turns.putObj HL.out (.inl HZ.out.2.1) _))⟩
  case stop =>
    rintro D2 S pre V hlt hD ⟨h1, h4⟩ hd
    have HZ := Lib.hid (And.intro h1 (And.intro hD hd))
    have hls : ∀ k, (S k ∨ S0 k ∨ k = W.heap.size) → k < V.heap.size := fun k hk => by
      rcases hk with hk | hk | hk
      · exact hlt k hk
      · exact Nat.lt_of_lt_of_le (HH.out.2.2.2.2.1 k hk) (Nat.le_of_lt h4)
      · omega
    have HL := Lib.hid hls
    clear h1 h4 hd hD hlt hls
    gi_wp2_with fail
    refine ⟨by simp, .inl ⟨_, _, rfl, run_takeDeferred HZ.out.2.2, ?_⟩⟩
    refine ⟨_, results_none rfl _ _ _, ⟨_, rfl⟩, _, .inr ⟨_, hJx _ _ _ _ _ HZ.out.1 (Turns.putObj HL.out (.inl HZ.out.2.1) _)⟩⟩
  case body =>
    rintro l2 S pre x post V hx hlt ⟨h1, h2, h3, h4⟩
    have ky := h2.cell
    have hyl := h2.lt
    obtain ⟨hxs, hxl⟩ := HP.out pre x post hx
    have hall : ∀ k, (S k ∨ S0 k ∨ k = W.heap.size) → k < V.heap.size := fun k hk => by
      rcases hk with hk | hk | hk
      · exact hlt k hk
      · exact Nat.lt_of_lt_of_le (HH.out.2.2.2.2.1 k hk) h4
      · exact hk ▸ hyl
    have HT := Lib.hid (fun w => trim_any x w hxl)
    have HYV : Hid (∀ V2, Below V.heap.size V.drew V2 → YieldAt (Fence.wide.inRound l2) 0 Tryz.prog L #[.string (str (trw x))] V2 fun e V3 => ∃ b : Bool, e = .returned (.bool b) ∧ Spares S V V3 ∧
        ((b = true → (J (fun k => S k ∨ S0 k ∨ k = W.heap.size) ((pre ++ [x]).map trw) V3 ∧ Bx V3 W.heap.size 59 (.func (.yield L) #[] #[]) ∧ ¬ S W.heap.size ∧ W.heap.size ≤ V3.heap.size)) ∧
         (b = false → (Jx (fun k => S k ∨ S0 k ∨ k = W.heap.size) ((pre ++ [x]).map trw) V3 ∧ W.heap.size < V3.heap.size)))) := fun V2 hb => by
      have hbV : Below V.heap.size V V2 := ⟨hb.os, hb.tape, hb.output, hb.size, hb.block⟩
      obtain ⟨fn, tmps, assign, body, hy, hR⟩ := HY.out _ _ _ _ V2 hxs (hJ _ _ _ _ _ h1 (Turns.below hall hbV))
      refine ⟨fn, tmps, assign, body, hy, (show RoundIn (Fence.wide.inRound l2) 0 Tryz.prog L fn tmps assign body V2 _ from hR).mono ?_⟩
      rintro e V3 ⟨hsp, hq⟩
      have e1 : (pre ++ [x]).map trw = pre.map trw ++ [trw x] := by rw [List.map_append]; rfl
      have hsz : W.heap.size < V3.heap.size := Nat.lt_of_lt_of_le hyl (Nat.le_trans hbV.size hsp.size)
      have hsp' := (Spares.below hlt hbV).trans (hsp.sub (S := S) fun k hk => .inl hk)
      rcases hq with ⟨rfl, hj⟩ | ⟨rfl, hj⟩
      · exact ⟨true, rfl, hsp', fun _ => ⟨e1 ▸ hj, (h2.below hbV).spared hsp (.inr (.inr rfl)), h3, Nat.le_of_lt hsz⟩, fun h => by cases h⟩
      · exact ⟨false, rfl, hsp', (fun h => by cases h), fun _ => ⟨e1 ▸ hj, hsz⟩⟩
    have HB2 := Lib.hid h2
    clear hlt h1 h2 h3 h4 hxl hall hyl
    generalize str x = X at *
    obtain ⟨T, hT⟩ : ∃ T, str (trw x) = T := ⟨_, rfl⟩
    rw [hT] at HT HYV
    clear hT
    have kyd : V.drew.cell? ⟨W.heap.size, 0, none⟩ = some (.func (.yield L) #[] #[]) := ky
    have hmx : Tryz.prog.follows .mixedOrders = true := by kernel_rfl
    gi_wp2_with fail
    gi_region_with_o (first
      | (refine ⟨trivial, rfl, ?_⟩
         gi_at_call 29
         refine (CallsIn.inRound l2 (callsIn_wide.2 (HT.out _))).mono ?_
         rintro e V2 ⟨rfl, hb⟩
         have hbV : Below V.heap.size V V2 := ⟨hb.os, hb.tape, hb.output, hb.size, hb.block⟩
         have ky2 := (HB2.out.below hbV).cell
         obtain ⟨fn, tmps, assign, body, hy, hR⟩ := HYV.out V2 hb
         have HR := Lib.hid hR
         clear hR hb hbV)
      | (refine ⟨rfl, HR.out.mono ?_⟩
         rintro e V3 ⟨b, rfl, hq⟩
         have HQ := Lib.hid hq
         clear hq))
    all_goals cases b
    all_goals gi_wp2_with fail
    all_goals first
      | exact ⟨HQ.out.1, HQ.out.2.1 (by simp)⟩
      | exact ⟨HQ.out.1, HQ.out.2.2 (by simp)⟩
end Go.Proofs.YtencapplbedcmaaGreatDoor

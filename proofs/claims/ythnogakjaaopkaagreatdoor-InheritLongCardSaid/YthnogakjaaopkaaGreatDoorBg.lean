/- Contract: giveBlocks: the document's blocks as the program's. -/
import Derived.Test.YthnogakjaaopkaaGreatDoorBp9
import Derived.Deep.AppendLies
import Derived.Deep.RegionLaw
import Derived.Deep.RegionHeld3
namespace Go.Proofs.YthnogakjaaopkaaGreatDoor
open Go.RowKit

theorem blkInfo9 : (Tryz.prog.info? 48).map (fun i => (i.zero, i.size, i.bytes)) = some (some (.agg #[.int .i64 0, .string ⟨#[]⟩, .slice none 0 0]), 3, 48) := by kernel_rfl
theorem fldInfo9 : (Tryz.prog.info? 45).map (fun i => (i.zero, i.size, i.bytes)) = some (some (.agg #[.int .i64 0, .string ⟨#[]⟩, .string ⟨#[]⟩]), 3, 40) := by kernel_rfl
theorem own_block9 {w w' : World} {base k : Nat} {e : TypeId} {v : Value} {n : Nat} {xs : List Value} (h : w.ownsRow base e k v n xs) (hb : ∀ i, v.ownBlock = some i → w'.heap[i]? = w.heap[i]?) : w'.ownsRow base e k v n xs := by
  refine ⟨h.1, ?_⟩
  rcases h.2 with h0 | ⟨g, cap, cur, hv, hbg, hg, r⟩
  · exact .inl h0
  · exact .inr ⟨g, cap, cur, hv, hbg, (hb g (by rw [hv]; rfl)).trans hg, r⟩
theorem frz9_blk {w : World} {g : Nat} {cs : Array Value} {t : TypeId} (h : w.heap[g]? = some (.cells cs t (0, 0))) (k : Nat) : w.frozen? ⟨g, k, none⟩ = false := by
  simp [World.frozen?, h]
theorem take_get {α : Type} (L : List α) (k : Nat) (h : k < L.length) : L.take (k + 1) = L.take k ++ [L[k]] := List.take_succ_eq_append_getElem h
/-- append of a block. -/
theorem wpList_appBk {P : Program} {w : World} {ops : Array Oper} {rest : List Oper} {o : Oper} {a : Act} {Q : Exit → Act → World → Prop} {t e : TypeId} {i : TypeInfo} {z : Value} {bytes : Nat} (hgd : o.guard = none) (s x : Operand) (ht : P.underlying t = some (.slice e)) (hi : P.info? e = some i) (hz : i.zero = some z) (hs3 : i.size = 3) (hby : i.bytes = bytes)
    (ho : o.op = .call { callee := .builtin .append, args := #[s, x], argTypes := #[t, t] })
    (base : Nat) (v : Value) (n : Nat) (xs : List Value) (hs : a.eval s = v) (hown : w.ownsRow base e 3 v n xs) (g : Nat) (y0 y1 y2 : Value) (hx : a.eval x = .slice (some ⟨g, 0, none⟩) 1 1) {fr : Nat × Nat} (hb : w.heap[g]? = some (.cells #[y0, y1, y2] e fr)) (hone : ∀ u ∈ [y0, y1, y2], u.oneCell' = true)
    (hn : n + 1 ≤ 1000000) (hbase : base ≤ w.heap.size)
    (h : ∀ gb cap w', w'.ownsRow base e 3 (.slice (some ⟨gb, 0, none⟩) (n + 1) cap) (n + 1) (xs ++ [y0, y1, y2]) → w.grownBy w' v.ownBlock → wpList P ops Q rest (a.put o.dst (.slice (some ⟨gb, 0, none⟩) (n + 1) cap)) w') (hbb : bytes ≤ 1000 := by decide) (hzz : z.cells.size = 3 := by rfl) : wpList P ops Q (o :: rest) a w := by
  refine wpList_plain hgd fun _ hK => ?_
  exact wp_append_lies w s x t ho base e i z 3 bytes ht hi hz hs3 hby hzz (by omega) v n xs hs hown ⟨g, 0, none⟩ 1 1 [y0, y1, y2] hx rfl (World.news_of_block hb) hone (by omega) (by unfold maxLen; omega) (Nat.le_trans (Nat.mul_le_mul hn hbb) (by omega)) hbase w.heap.size rfl fun gb cap w' h1 h2 _ _ => hK _ _ (h gb cap w' h1 h2)
/-- Within a round: bb holds the block that is made, k of its fields are copied. -/
structure Giv (w wr : World) (bb : Nat) (vo : Value) (Z : List (MB × Value)) (b : MB) (k : Nat) (vF : Value) : Prop where
  below : Below w.heap.size w wr
  low : w.heap.size ≤ bb ∧ bb < wr.heap.size
  bld : Bld wr w.heap.size bb 48 45 vo Z
  under : ∀ i, vo.ownBlock = some i → i < bb
  cell : wr.heap[bb]? = some (.cells #[.int .i64 b.1, .string (str b.2.1), vF] 48 (0, 0))
  row : wr.ownsRow (bb + 1) 45 3 vF k ((b.2.2.take k).flatMap fdC)
theorem Giv.field {w wr w3 : World} {bb k gF capF : Nat} {vo vF : Value} {Z : List (MB × Value)} {b : MB} {o : Obj} {f : MF} (h : Giv w wr bb vo Z b k vF) (hk : k < b.2.2.length) (hf : b.2.2[k] = f) (hg3 : (wr.alloc o).drew.grownBy w3 vF.ownBlock)
    (hown : w3.ownsRow (bb + 1) 45 3 (.slice (some ⟨gF, 0, none⟩) (k + 1) capF) (k + 1) ((b.2.2.take k).flatMap fdC ++ fdC f)) :
    w3.heap[bb]? = some (.cells #[.int .i64 b.1, .string (str b.2.1), vF] 48 (0, 0)) ∧ Giv w (w3.setCell ⟨bb, 2, none⟩ (.slice (some ⟨gF, 0, none⟩) (k + 1) capF)) bb vo Z b (k + 1) (.slice (some ⟨gF, 0, none⟩) (k + 1) capF) := by
  have hg : (wr.alloc o).grownBy w3 vF.ownBlock := ⟨hg3.os, hg3.tape, hg3.output, hg3.size, hg3.block⟩
  have hlow : ∀ i, i ≤ bb → w3.heap[i]? = wr.heap[i]? := fun i hi => by
    have hl : i < wr.heap.size := by have := h.low.2; omega
    refine (hg.block i (by rw [World.size_alloc]; omega) fun e => ?_).trans (Below.heap_alloc wr o i hl)
    have := (h.row.lt i e.symm).1
    omega
  have hc3 := (hlow bb (Nat.le_refl _)).trans h.cell
  refine ⟨hc3, ?_⟩
  have hset : ∀ i, i ≠ bb → (w3.setCell ⟨bb, 2, none⟩ (.slice (some ⟨gF, 0, none⟩) (k + 1) capF)).heap[i]? = w3.heap[i]? := fun i hi => heap_setCell_other _ _ i _ hi
  have hsz : w3.heap.size ≥ wr.heap.size + 1 := by have := hg.size; rw [World.size_alloc] at this; exact this
  refine ⟨?_, ⟨h.low.1, ?_⟩, ⟨own_block9 h.bld.own fun i hi => ?_, fun p hp => (h.bld.rows p hp).keep (Nat.le_refl _) (Nat.le_refl _) fun c _ _ _ h2 _ => (hset c (by omega)).trans (hlow c (by omega))⟩, h.under, heap_setCell_same w3 bb 2 _ _ _ hc3, ?_⟩
  · refine (((h.below.alloc h.below.size o).grown hg ?_ fun i hi => ?_)).setCell h.low.1 _
    · rw [World.size_alloc]; have := h.below.size; omega
    · have := (h.row.lt i hi).1; have := h.low.1; omega
  · have : (w3.setCell ⟨bb, 2, none⟩ (.slice (some ⟨gF, 0, none⟩) (k + 1) capF)).heap.size = w3.heap.size := by simp [World.setCell]
    have := h.low.2
    omega
  · have hi2 := h.under i hi
    exact (hset i (by omega)).trans (hlow i (by omega))
  · rw [take_get b.2.2 k hk, hf, List.flatMap_append]
    have e : [f].flatMap fdC = fdC f := by simp
    rw [e]
    refine own_block9 hown fun i hi => hset i ?_
    have := (hown.lt i hi).1
    omega
theorem Giv.drew {w wr : World} {bb k : Nat} {vo vF : Value} {Z : List (MB × Value)} {b : MB} (h : Giv w wr bb vo Z b k vF) : Giv w wr.drew bb vo Z b k vF :=
  ⟨⟨h.below.os, h.below.tape, h.below.output, h.below.size, h.below.block⟩, h.low, ⟨h.bld.own, h.bld.rows⟩, h.under, h.cell, h.row⟩
/-- Between rounds. -/
structure Gvn (w wr : World) (vo : Value) (Z : List (MB × Value)) : Prop where
  below : Below w.heap.size w wr
  bld : Bld wr w.heap.size wr.heap.size 48 45 vo Z
theorem Gvn.begin {w wr : World} {vo : Value} {Z : List (MB × Value)} (h : Gvn w wr vo Z) (b : MB) : Giv w (wr.alloc (.cells #[.int .i64 b.1, .string (str b.2.1), .slice none 0 0] 48)) wr.heap.size vo Z b 0 (.slice none 0 0) where
  below := h.below.alloc h.below.size _
  low := ⟨h.below.size, by rw [World.size_alloc]; exact Nat.lt_succ_self _⟩
  bld := ⟨h.bld.own.alloc _, fun p hp => (h.bld.rows p hp).keep (Nat.le_refl _) (Nat.le_refl _) fun c _ _ _ h2 _ => Below.heap_alloc wr _ c h2⟩
  under := fun i hi => (h.bld.own.lt i hi).2
  cell := (MapKept.heap_alloc wr _).1
  row := World.ownsRow_nil _ _ _ _
theorem Giv.done {w wr w3 : World} {bb gb cap n : Nat} {vo vF : Value} {Z : List (MB × Value)} {b : MB} {o : Obj} (h : Giv w wr bb vo Z b b.2.2.length vF) (hn : Z.length = n) (hg : (wr.alloc o).grownBy w3 vo.ownBlock)
    (hown : w3.ownsRow w.heap.size 48 3 (.slice (some ⟨gb, 0, none⟩) (n + 1) cap) (n + 1) (Z.flatMap bkC ++ bkC (b, vF))) : Gvn w w3 (.slice (some ⟨gb, 0, none⟩) (n + 1) cap) (Z ++ [(b, vF)]) := by
  have hty : ∀ q, vo.ownBlock = some q → q < w.heap.size ∨ w3.heap.size ≤ q ∨ ∃ cs e' fr, (wr.alloc o).heap[q]? = some (.cells cs e' fr) ∧ e' ≠ 45 := fun q hq => by
    obtain ⟨cs, fr, h0⟩ := own_typed (h.bld.own.alloc o) q hq
    exact .inr (.inr ⟨cs, _, fr, h0, by decide⟩)
  have hsz : wr.heap.size < w3.heap.size := by have := hg.size; rw [World.size_alloc] at this; exact this
  refine ⟨(h.below.alloc h.below.size o).grown hg (by rw [World.size_alloc]; have := h.below.size; omega) fun i hi => (h.bld.own.lt i hi).1, ⟨?_, fun p hp => ?_⟩⟩
  · rw [List.length_append, hn, bkcat_snoc]
    exact hown
  · have hrow : HeldF wr w.heap.size wr.heap.size 45 p.2 p.1.2.2 := by
      rcases List.mem_append.1 hp with hp | hp
      · exact (h.bld.rows p hp).keep (Nat.le_refl _) (by have := h.low.2; omega) fun _ _ _ _ _ _ => rfl
      · rw [List.mem_singleton.1 hp]
        have hr := h.row
        rw [List.take_length] at hr
        exact (HeldF.owned rfl hr).keep (by have := h.low.1; omega) (Nat.le_refl _) fun _ _ _ _ _ _ => rfl
    have hal : HeldF (wr.alloc o) w.heap.size w3.heap.size 45 p.2 p.1.2.2 := hrow.keep (Nat.le_refl _) (Nat.le_of_lt hsz) fun c _ _ _ h2 _ => Below.heap_alloc wr o c h2
    exact hal.grown hg hty
set_option maxHeartbeats 4000000 in
set_option maxRecDepth 100000 in
theorem give_any (v : Value) (L : List MB) (w : World) (hl : L.length ≤ 2000) (hf : ∀ b ∈ L, b.2.2.length ≤ 100000) (hv : RowB w v L) :
    Calls Tryz.prog 11 #[v] w fun e w' => ∃ v', e = .returned v' ∧ RowB w' v' L ∧ Below w.heap.size w w' := by
  obtain ⟨A, c, rfl, hr⟩ := hv.form
  have hc1 := hr.parts.2.1
  have hc2 := hr.parts.2.2.1
  obtain ⟨n, hn⟩ : ∃ n, L.length = n := ⟨_, rfl⟩
  rw [hn] at hr hl hc1 ⊢
  have HR := Lib.hid hr
  have HN := Lib.hid (And.intro hn hf)
  clear hr hn hf hv
  go_enter Tryz.func11, Tryz.ntmps11
  go_wp2_with fail
  go_loopw [3, 4] (fun o i wr => ∃ (a : Nat) (Z : List (MB × Value)), i = .int .i64 a ∧ a ≤ n ∧ Z.map (·.1) = L.take a ∧ Gvn w wr o Z) (fun _ i _ => n - (intOf i).toNat)
  case atStart => exact ⟨0, [], rfl, Nat.zero_le _, rfl, Below.refl _ _, Bld.nil _ _ _ _ _⟩
  case round =>
    obtain ⟨a, Z, rfl, ha, hz, hg⟩ := hrel
    obtain ⟨wo, hwo⟩ : ∃ x, x = wr := ⟨_, rfl⟩
    subst hwo
    obtain ⟨vo, hvo⟩ : ∃ x, x = u3 := ⟨_, rfl⟩
    subst hvo
    rcases Nat.lt_or_ge a n with hlt | hge
    · have hal : a < L.length := by rw [HN.out.1]; exact hlt
      obtain ⟨b, hbe⟩ : ∃ b, L[a] = b := ⟨_, rfl⟩
      have hbq : L[a]? = some b := by rw [List.getElem?_eq_getElem hal, hbe]
      have hp := HR.out.parts.2.2.2
      obtain ⟨ad, X, vR, rfl, hX, g0, g1, g2, hrf⟩ := hp a hlt b hbq
      obtain ⟨AR, cR, rfl, hrf'⟩ := hrf.form
      have hbl : b.2.2.length ≤ 100000 := HN.out.2 b (List.mem_of_getElem? hbq)
      obtain ⟨m, hm⟩ : ∃ m, b.2.2.length = m := ⟨_, rfl⟩
      rw [hm] at g2 hrf' hbl
      have q0 : (0 : Int) ≤ a := by omega
      have q1 : (a : Int) < n := by omega
      have hz1 : Z.length = a := by have := congrArg List.length hz; rw [List.length_map, List.length_take] at this; omega
      have HZ := Lib.hid (And.intro hz (And.intro hz1 (And.intro hbe hm)))
      have HG := Lib.hid hg
      obtain ⟨T, hT⟩ : ∃ T, str b.2.1 = T := ⟨_, rfl⟩
      have HTs := Lib.hid hT
      rw [hT] at g1
      have HK := Lib.hid (And.intro hrf' g2)
      have k0 := cell9_below g0 hg.below
      have k1 := cell9_below g1 hg.below
      have hX1 := World.block_lt_of_cell? wo _ k0
      have HJ0 := Lib.hid (And.intro k0 k1)
      have HJ : Hid (∀ o, (wo.alloc o).cell? X = some (.int .i64 b.1) ∧ (wo.alloc o).cell? { block := X.block, off := X.off + 1 } = some (.string T)) := fun o =>
        ⟨(World.cell?_of_block (Below.heap_alloc wo o X.block hX1)).trans k0, (World.cell?_of_block (a := { block := X.block, off := X.off + 1 }) (Below.heap_alloc wo o X.block hX1)).trans k1⟩
      clear hz hg hp hz1 hrf hrf' hbq hbe hT g0 g1 g2
      go_wp2_with fail
      go_region_held3 (fun W => W.cell? X = some (.int .i64 b.1) ∧ W.cell? { block := X.block, off := X.off + 1 } = some (.string T)) (first | exact HJ.out _ | exact HJ0.out) (fail)
      have hG0 := HG.out.begin b
      rw [HTs.out] at hG0
      have HG0 := Lib.hid hG0
      clear hG0 k0 k1 hX1
      go_wp2_with fail
      go_loopw [6] (fun i wi => ∃ (k : Nat) (vF : Value), i = .int .i64 k ∧ k ≤ m ∧ Giv w wi wo.heap.size vo Z b k vF) (fun i _ => m - (intOf i).toNat)
      case atStart =>
        exact ⟨0, _, rfl, Nat.zero_le _, HG0.out.drew⟩
      case round =>
        obtain ⟨k, vF, rfl, hk, hG⟩ := hrel
        obtain ⟨AF, cF, rfl, hcF1, hcF2, _⟩ := owns_formk hG.row
        have k2 := cell9_below HK.out.2 hG.below
        have hcb := hG.cell
        rw [HTs.out] at hcb
        have b0 := cell9_blk hcb 0 (v := .int .i64 b.1) rfl
        have b1 := cell9_blk hcb 1 (v := .string T) rfl
        have b2 := cell9_blk hcb 2 (v := .slice AF k cF) rfl
        rcases Nat.lt_or_ge k m with hkm | hkm
        · have hq := (HK.out.1.below hG.below).parts.2.2.2
          have hkl : k < b.2.2.length := by rw [HZ.out.2.2.2]; exact hkm
          obtain ⟨f, hf⟩ : ∃ f, b.2.2[k] = f := ⟨_, rfl⟩
          obtain ⟨ad2, X2, rfl, hX2, f0, f1, f2⟩ := hq k hkm f (by rw [List.getElem?_eq_getElem hkl, hf])
          have p0 : (0 : Int) ≤ k := by omega
          have p1 : (k : Int) < m := by omega
          obtain ⟨N1, hN1⟩ : ∃ x, str f.2.1 = x := ⟨_, rfl⟩
          obtain ⟨N2, hN2⟩ : ∃ x, str f.2.2 = x := ⟨_, rfl⟩
          rw [hN1] at f1
          rw [hN2] at f2
          have hfc : fdC f = [.int .i64 f.1, .string N1, .string N2] := by rw [← hN1, ← hN2]; rfl
          have HF := Lib.hid (And.intro hkl (And.intro hf hfc))
          have b2' : (wr.alloc (.cells #[.int .i64 f.1, .string N1, .string N2] 45)).cell? ⟨wo.heap.size, 2, none⟩ = some (.slice AF k cF) := cell9_blk ((Below.heap_alloc wr _ _ (blk9_lt hcb)).trans hcb) 2 rfl
          obtain ⟨i0, hi0, hz0, hzz1, hzz2⟩ := info_parts fldInfo9
          have HRr := Lib.hid (hG.row.alloc (.cells #[.int .i64 f.1, .string N1, .string N2] 45))
          have HBZ := Lib.hid (show wo.heap.size + 1 ≤ (wr.alloc (.cells #[.int .i64 f.1, .string N1, .string N2] 45)).heap.size by rw [World.size_alloc]; have := hG.low.2; omega)
          have HONE := Lib.hid (show ∀ u ∈ [Value.int .i64 f.1, .string N1, .string N2], u.oneCell' = true by
            intro u hu
            simp only [List.mem_cons, List.not_mem_nil, or_false] at hu
            rcases hu with rfl | rfl | rfl <;> rfl)
          have HGk := Lib.hid hG
          have hk6 : k ≤ 100000 := by omega
          clear hG hcb hq hN1 hN2 hfc b0 b1
          go_wp2_with fail
          go_region_law ((refine step_append_lies _ (by rfl) _ _ _ (by rfl) (wo.heap.size + 1) 45 i0 _ 3 40 Tryz.underlying46 hi0 hz0 hzz1 hzz2 rfl (by omega) (.slice AF k cF) k ((b.2.2.take k).flatMap fdC) (by rfl) HRr.out ⟨wr.heap.size, 0, none⟩ 1 1 [.int .i64 f.1, .string N1, .string N2] (by rfl) (by rfl) (World.news_of_block (cs := #[.int .i64 f.1, .string N1, .string N2]) (t := 45) (fr := (0, 0)) (heap_alloc_new wr _)) HONE.out (by omega) (by unfold maxLen; omega) (by omega) HBZ.out (wr.heap.size + 1) (by simp) ?_; intro gF capF w4 hown4 hgrow4 _ _; rw [← HF.out.2.2] at hown4; have hfe := HGk.out.field HF.out.1 HF.out.2.1 hgrow4 hown4; have kz := cell9_blk hfe.1 2 (v := .slice AF k cF) rfl; have fz := frz9_blk hfe.1 2; have HX := Lib.hid hfe.2; clear hown4 hgrow4 hfe))
          all_goals
            clear k2 b2 b2' f0 f1 f2 kz fz hi0 hz0 hzz1 hzz2
            go_wp2_with fail
            exact ⟨⟨k + 1, _, by go_num, hkm, by first | exact HX.out | exact HX.out.drew⟩, by simp [intOf]; omega⟩
        · obtain rfl : k = m := by omega
          have p1 : ¬ ((k : Int) < k) := by omega
          have HGk := Lib.hid hG
          have hvf := hG.bld.own
          rw [HZ.out.2.1] at hvf
          have HRr := Lib.hid (hvf.alloc (.cells #[.int .i64 b.1, .string T, .slice AF k cF] 48))
          obtain ⟨i0, hi0, hz0, hzz1, hzz2⟩ := info_parts blkInfo9
          have HBZ := Lib.hid (show w.heap.size ≤ (wr.alloc (.cells #[.int .i64 b.1, .string T, .slice AF k cF] 48)).heap.size by rw [World.size_alloc]; have := hG.below.size; omega)
          have HONE := Lib.hid (show ∀ u ∈ [Value.int .i64 b.1, .string T, .slice AF k cF], u.oneCell' = true by
            intro u hu
            simp only [List.mem_cons, List.not_mem_nil, or_false] at hu
            rcases hu with rfl | rfl | rfl <;> rfl)
          have ha6 : a ≤ 2000 := by omega
          clear hG hcb hvf
          go_wp2_with
            (at_builtin
             refine wpList_appBk rfl (.tmp 47) (.tmp 49) Tryz.underlying25 hi0 hz0 hzz1 hzz2 rfl w.heap.size vo a (Z.flatMap bkC) rfl HRr.out wr.heap.size (.int .i64 b.1) (.string T) (.slice AF k cF) rfl (MapKept.heap_alloc wr _).1 HONE.out (by omega) HBZ.out ?_)
          intro gb cap w4 hown4 hgrow4
          rw [← HTs.out] at hown4
          have hk9 : b.2.2.length = k := HZ.out.2.2.2
          have hdn := Giv.done (by rw [hk9]; exact HGk.out) HZ.out.2.1 hgrow4 hown4
          have HD := Lib.hid hdn
          clear hdn hown4 hgrow4 k2 b0 b1 b2
          go_wp2_with fail
          refine ⟨⟨a + 1, _, by go_num, hlt, ?_, HD.out⟩, by simp [intOf]; omega⟩
          rw [List.map_append, HZ.out.1, List.take_succ_eq_append_getElem hal, HZ.out.2.2.1]
          rfl
    · obtain rfl : a = n := by omega
      have q1 : ¬ ((a : Int) < a) := by omega
      have HG := Lib.hid (And.intro hz hg)
      clear hz hg
      go_wp2_with fail
      go_ret
      have h := HG.out.2.bld.rowB
      rw [HG.out.1, List.take_of_length_le (by rw [HN.out.1]; exact Nat.le_refl _)] at h
      exact ⟨_, rfl, h, HG.out.2.below⟩
end Go.Proofs.YthnogakjaaopkaaGreatDoor

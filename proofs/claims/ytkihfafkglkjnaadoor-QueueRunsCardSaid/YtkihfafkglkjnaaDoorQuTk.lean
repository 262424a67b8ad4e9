/- Layer 15: take. -/
import Derived.Test.YtkihfafkglkjnaaDoorQuRs
namespace Go.Proofs.YtkihfafkglkjnaaDoor
open Go.RowKit

theorem own_cutQ {w : World} {e : TypeId} {ad : Addr} {m l c : Nat} {xs : List Value} (h : w.ownsRow 0 e 3 (.slice (some ad) m c) m xs) (hl : l ≤ m) : w.ownsRow 0 e 3 (.slice (some ad) l c) l (xs.take (l * 3)) := by
  have h1 := h.1
  rcases h.2 with ⟨hv, _⟩ | ⟨r, cap, cur, hv, hb, hg, hnc, hcm, hcs, htake⟩
  · cases hv
  injection hv with e1 e2 e3
  subst e3
  have hmn : l * 3 ≤ m * 3 := Nat.mul_le_mul_right 3 hl
  refine ⟨by rw [List.length_take]; omega, .inr ⟨r, c, cur, by rw [e1], hb, hg, by omega, hcm, hcs, ?_⟩⟩
  rw [← htake, List.take_take, Nat.min_eq_left hmn]
theorem flat_takeQ (H : List Ev) (a : Nat) (ha : a ≤ H.length) : (H.take a).flatMap evC = (H.flatMap evC).take (a * 3) := by
  have h1 : H.flatMap evC = (H.take a).flatMap evC ++ (H.drop a).flatMap evC := by rw [← List.flatMap_append, List.take_append_drop]
  rw [h1, List.take_left' (by rw [evC_len, List.length_take]; congr 1; omega)]
theorem cutQ_run (r m c l : Nat) (hl : l ≤ m) (hc : m ≤ c) (W : World) : (Instr.slice 48 (.slice (some ⟨r, 0, none⟩) m c) none (some (.int .i64 (l : Int))) none).run Tryd.prog W = .ok (.slice (some ⟨r, 0, none⟩) l c) W := by
  have hel : Tryd.prog.elem 48 = 38 := by kernel_rfl
  have hsz : ∀ W, (sizeOf 38).run Tryd.prog W = .ok 3 W := fun W => by kernel_rfl
  rw [run_slice_h _ _ _ _ _ (by rw [hel]; exact Tryd.underlying48) .i64 (l : Int) (by omega) (by omega), hel, hsz]
  simp [Result.andThen, sliced, Addr.add]
set_option maxRecDepth 100000 in
theorem step_qdel {w : World} {o : Oper} {a : Act} {K : Act → World → Prop} {Q : Exit → Act → World → Prop} (b c : Nat) (f : Int × Int → Option Nat) (k i : Int) (ty : TypeId) (hown : MapQ w b c f) (hk : In64 k) (hi : In64 i)
    (h : ∀ w', MapQ w' b (if (f (k, i)).isSome = true then c - 1 else c) (fun x => if x = (k, i) then none else f x) → w.grownBy w' (some b) → K (a.put o.dst (.tuple #[])) w') :
    Oper.upon Tryd.prog o a K Q (((Builtin.delete_ #[54, 62] ty #[.map (some b), .agg #[.int .i64 k, .int .i64 i]]).run Tryd.prog w).andThen fun v w' => .ok (.value v) w') := by
  obtain ⟨w', hrun, r1, r2⟩ := hown.del hk hi ty
  unfold kqV at hrun
  rw [hrun]
  exact h w' r1 r2
set_option maxRecDepth 100000 in
set_option maxHeartbeats 4000000 in
theorem take_any (q g : Nat) (v : Value) (n : Int) (H : List Ev) (p : Nat) (w : World) (h : QuI w q g v n H) (hp : p < H.length) (hh : HeapE H) :
    Calls Tryd.prog 25 #[.pointer (some ⟨q, 0, none⟩), .int .i64 (p : Nat)] w fun x w' => x = .returned (.tuple #[]) ∧ ∃ v', v'.ownBlock = v.ownBlock ∧ ∃ H', QuI w' q g v' n H' ∧ H'.Perm (tkL H p) ∧ HeapE H' ∧ TuF (FqB q g v) (FqB q g v) w w' := by
  have hlen := h.len
  obtain ⟨r, c, rfl, hc⟩ := h.rows (by omega)
  obtain ⟨m, hm⟩ : ∃ m, H.length = m := ⟨_, rfl⟩
  obtain ⟨l, hl⟩ : ∃ l, m - 1 = l := ⟨_, rfl⟩
  have hl0 : H.length - 1 = l := by rw [hm]; exact hl
  have hll : l < H.length := by omega
  have c0 := cell9_blk h.blk 1 rfl
  have HS := Lib.hid (swap_any q g _ n H p l w h hp hll)
  have HH := Lib.hid (And.intro h (And.intro hm (And.intro hp (And.intro hl0 hh))))
  have hsl := fun W => cutQ_run r m c l (by omega) (by omega) W
  have HR := Lib.hid (show r ≠ g ∧ q ≠ r from ⟨fun e => h.d3 (by rw [e]; rfl), fun e => h.d2 (by rw [e]; rfl)⟩)
  rw [hm] at c0 hlen hc HS ⊢
  have l1 : (m : Int) - 1 = l := by omega
  have l0 : (0 : Int) ≤ l := by omega
  have l2 : (l : Int) < m := by omega
  have p0 : (0 : Int) ≤ p := by omega
  have hpl : p < l ∨ ¬ p < l := by omega
  have HSL := Lib.hid hsl
  clear h hp hll hl0 hm hl hh hsl
  go_enter Tryd.func25, Tryd.ntmps25
  go_wp2_with fail
  with_reducible refine HS.out.mono ?_
  rintro e w1 ⟨rfl, hI1, ht1⟩
  have hl1 : (swL H p l).length = m := by rw [swL_len]; exact HH.out.2.1
  have hat := rowE_at (by have h := hI1.row; rw [hl1] at h; exact h) hl1 l (by omega)
  obtain ⟨⟨x1, x2, x3⟩, hx⟩ : ∃ x, evA (swL H p l) l = x := ⟨_, rfl⟩
  rw [hx] at hat
  have hr1 : ReM w1.drew q g (.slice (some ⟨r, 0, none⟩) m c) r (l * 3) (x1, x2, x3) := ⟨cell9_blk hI1.blk 1 rfl, cell9_blk hI1.blk 2 rfl, hat.1⟩
  have hkx : In64 x2 ∧ In64 x3 := by have := hI1.k64 _ (evA_mem (i := l) (by rw [hl1]; omega)); rw [hx] at this; exact this
  have hmp := hI1.map
  rw [hl1] at hmp
  have hsx : (PosE (swL H p l) (x2, x3)).isSome = true := by
    have h2 := PosE.hit hI1.key (i := l) (by rw [hl1]; omega)
    rw [hx] at h2
    rw [h2]
    rfl
  have H1 := Lib.hid (And.intro hI1 (And.intro ht1 (And.intro hl1 (And.intro hx (And.intro hmp hsx)))))
  have HKX := Lib.hid hkx
  have HKb : Hid (∀ V V', ReM V q g (.slice (some ⟨r, 0, none⟩) m c) r (l * 3) (x1, x2, x3) → Below V.heap.size V V' → ReM V' q g (.slice (some ⟨r, 0, none⟩) m c) r (l * 3) (x1, x2, x3)) := Lib.hid (fun V V' h hb => h.bl hb)
  have HKg : Hid (∀ V V', ReM V q g (.slice (some ⟨r, 0, none⟩) m c) r (l * 3) (x1, x2, x3) → V.grownBy V' (some g) → ReM V' q g (.slice (some ⟨r, 0, none⟩) m c) r (l * 3) (x1, x2, x3)) := Lib.hid (fun V V' h hb => h.gr hb HH.out.1.d1 HR.out.1)
  have HSd := Lib.hid hr1
  have HKO := Lib.hid (fun W => keyOf3_any x1 x2 x3 W)
  unfold ReM at HKb HKg HSd
  dsimp only at HKb HKg HSd
  clear hI1 ht1 hl1 hat hx hr1 hkx hmp hsx c0
  go_wp2_with fail
  go_region_held3 (fun V => V.cell? ⟨q, 1, none⟩ = some (.slice (some ⟨r, 0, none⟩) m c) ∧ V.cell? ⟨q, 2, none⟩ = some (.map (some g)) ∧ V.cell? ⟨r, l * 3, none⟩ = some (.int .i64 x1) ∧ V.cell? ⟨r, l * 3 + 1, none⟩ = some (.int .i64 x2) ∧ V.cell? ⟨r, l * 3 + 2, none⟩ = some (.int .i64 x3))
    (first | exact HSd.out | assumption | exact HKb.out _ _ (by assumption) (by assumption) | exact HKg.out _ _ (by assumption) (by assumption))
    (first
      | (with_reducible refine (HKO.out _).mono ?_; rintro e w2 ⟨rfl, hb2⟩)
      | (refine step_qdel g m (PosE (swL H p l)) x2 x3 _ ((H1.out.2.2.2.2.1.bl (Gw.refl w1).drew.below).bl hb2) HKX.out.1 HKX.out.2 ?_
         intro w3 hm3 hg3))
  have hg13 : w1.grownBy w3 (some g) := gb_trans (gb_trans (gb_below (some g) (Gw.refl w1).drew.below) (gb_below (some g) hb2)) hg3
  have hm3' := hm3
  rw [if_pos H1.out.2.2.2.2.2] at hm3'
  have hbk3 := (hg13.block q (blk9_lt H1.out.1.blk) (fun e => HH.out.1.d1 (by injection e))).trans H1.out.1.blk
  have c1 := cell9_blk hbk3 1 rfl
  have f1 := frz9_blk hbk3 1
  have hsl3 := HSL.out w3
  have H3 := Lib.hid (And.intro hg13 (And.intro hm3' hbk3))
  clear hb2 hm3 hg3 hg13 hm3' hbk3
  obtain ⟨w4, hw4⟩ : ∃ W, w3.setCell ⟨q, 1, none⟩ (.slice (some ⟨r, 0, none⟩) l c) = W := ⟨_, rfl⟩
  have hoth : ∀ k, k ≠ q → w4.heap[k]? = w3.heap[k]? := fun k hk => by rw [← hw4]; exact Below.heap_setCell w3 ⟨q, 1, none⟩ _ k hk
  have hbk4 : w4.heap[q]? = some (.cells #[.int .i64 n, .slice (some ⟨r, 0, none⟩) l c, .map (some g)] 56 (0, 0)) := by
    rw [← hw4]
    exact heap_setCell_same w3 q 1 _ _ _ H3.out.2.2
  have hos : w4.os = w3.os ∧ w4.tape = w3.tape ∧ w4.output = w3.output ∧ w4.heap.size = w3.heap.size := by rw [← hw4]; exact ⟨rfl, rfl, rfl, by simp⟩
  have htk : tkL H p = (swL H p l).take l := by unfold tkL; rw [HH.out.2.2.2.1]
  have hlt : (tkL H p).length = l := by rw [tkL_len HH.out.2.2.1]; exact HH.out.2.2.2.1
  have hkey : KeyE (tkL H p) := HH.out.1.key.tk HH.out.2.2.1
  have hI4 : QuI w4 q g (.slice (some ⟨r, 0, none⟩) l c) n (tkL H p) := by
    refine ⟨hbk4, ?_, ?_, HH.out.1.d1, fun e => HR.out.2 (by injection e with e; exact e.symm), fun e => HR.out.1 (by injection e), hkey, fun e he => HH.out.1.k64 e ((mem_tk HH.out.1.key HH.out.2.2.1).1 he).1, by rw [hlt]; omega⟩
    · have hrow := H1.out.1.row
      rw [H1.out.2.2.1] at hrow
      have h2 := own_cutQ hrow (l := l) (by omega)
      rw [← flat_takeQ _ l (by rw [H1.out.2.2.1]; omega), ← htk] at h2
      rw [hlt]
      refine own_block9 h2 (fun k hk => ?_)
      have hkr : k = r := by injection hk with hk; exact hk.symm
      subst hkr
      exact (hoth k (fun e => HR.out.2 e.symm)).trans (H3.out.1.block k (hrow.lt k rfl).2 (fun e => HR.out.1 (by injection e)))
    · rw [hlt]
      have h2 := H3.out.2.1
      rw [show m - 1 = l by omega] at h2
      refine MapQ.block (w := w3) (MapQ.congr h2 (fun x => ?_)) (hoth g (fun e => HH.out.1.d1 e.symm))
      have h3 := posE_tk HH.out.1.key HH.out.2.2.1 x
      rw [HH.out.2.2.2.1, H1.out.2.2.2.1] at h3
      exact h3
  have ht4 : TuF (FqB q g (.slice (some ⟨r, 0, none⟩) m c)) (FqB q g (.slice (some ⟨r, 0, none⟩) m c)) w w4 := by
    refine (H1.out.2.1.trans (TuF.gr H3.out.1 (.inr (.inl rfl)))).trans ⟨hos.1, hos.2.1, hos.2.2.1, by rw [hos.2.2.2]; exact Nat.le_refl _, fun k _ hn => hoth k (fun e => hn (.inl e)), fun _ hk => .inl hk⟩
  have H4 := Lib.hid (And.intro hI4 (And.intro ht4 hlt))
  clear hoth hbk4 hos htk hlt hkey hI4 ht4
  rcases hpl with hpl | hpl
  · have p1 : (p : Int) < l := by omega
    have HSe := Lib.hid (settle_any q g _ n (tkL H p) p w4 H4.out.1 (by rw [H4.out.2.2]; exact hpl) (UpH.tk HH.out.2.2.2.2 HH.out.2.2.1))
    go_wp2_with fail
    with_reducible refine HSe.out.mono ?_
    rintro e w5 ⟨rfl, H5, hI5, hp5, hh5, ht5⟩
    have HX := Lib.hid (And.intro hI5 (And.intro hp5 (And.intro hh5 ht5)))
    clear hI5 hp5 hh5 ht5 c1 f1 hsl3 hw4
    go_wp2_with fail
    go_end0
    exact ⟨rfl, .slice (some ⟨r, 0, none⟩) l c, rfl, H5, HX.out.1, HX.out.2.1, HX.out.2.2.1, H4.out.2.1.trans HX.out.2.2.2⟩
  · have p1 : ¬ (p : Int) < l := by omega
    go_wp2_with fail
    go_end0
    exact ⟨rfl, .slice (some ⟨r, 0, none⟩) l c, rfl, tkL H p, H4.out.1, List.Perm.refl _, HeapE.last HH.out.2.2.2.2 HH.out.2.2.1 (by rw [HH.out.2.2.2.1]; exact hpl), H4.out.2.1⟩
end Go.Proofs.YtkihfafkglkjnaaDoor

/- Law QueuePops, walked. -/
import Derived.Test.YtkihfafkglkjnaaQuTu
import Derived.Test.YtkihfafkglkjnaaQuPm
import Derived.Test.YtkihfafkglkjnaaQuRf
namespace Go.Proofs.Ytkihfafkglkjnaa
open Go.RowKit

variable {Is : World → Value → (Nat → Prop) → Int → List Ev → Prop}
theorem PgP.firstD (hP : PgP Is) {n : Int} {L : List Ev} {i : Nat} {p1 p2 p3 : Int} (h : L[i]? = some (p1, p2, p3)) (v : Value) (F : Nat → Prop) (w : World) (hI : Is w v F n (L.drop i)) :
    Calls Try.prog 9 #[v] w fun x w' => x = .returned (.tuple #[.agg #[.int .i64 p1, .int .i64 p2, .int .i64 p3], .bool true]) ∧ Below w.heap.size w w' := by
  have h1 := hP.first v F n (L.drop i) w hI
  have e1 : (L.drop i).headD (0, 0, 0) = (p1, p2, p3) := by rw [List.headD_eq_head?_getD, List.head?_drop, h]; rfl
  have e2 : (L.drop i).isEmpty = false := by
    have := (List.getElem?_eq_some_iff.1 h).1
    rw [List.isEmpty_eq_false_iff]
    intro e
    have := congrArg List.length e
    rw [List.length_drop, List.length_nil] at this
    omega
  rw [e1, e2] at h1
  exact h1
/-- An event of one's own, in a block. -/
def C3 (w : World) (b : Nat) (p : Ev) : Prop := w.heap[b]? = some (.cells #[.int .i64 p.1, .int .i64 p.2.1, .int .i64 p.2.2] 31 (0, 0))
theorem C3.lt {w : World} {b : Nat} {p : Ev} (h : C3 w b p) : b < w.heap.size := blk9_lt h
theorem C3.cells {w : World} {b : Nat} {p : Ev} (h : C3 w b p) : w.cell? ⟨b, 0, none⟩ = some (.int .i64 p.1) ∧ w.cell? ⟨b, 1, none⟩ = some (.int .i64 p.2.1) ∧ w.cell? ⟨b, 2, none⟩ = some (.int .i64 p.2.2) := ⟨cell9_blk h 0 rfl, cell9_blk h 1 rfl, cell9_blk h 2 rfl⟩
theorem C3.blk {w w' : World} {b : Nat} {p : Ev} (h : C3 w b p) (hb : w'.heap[b]? = w.heap[b]?) : C3 w' b p := hb.trans h
theorem C3.bl {w w' : World} {b : Nat} {p : Ev} (h : C3 w b p) (hb : Below w.heap.size w w') : C3 w' b p := h.blk (hb.block b h.lt)
theorem C3.tu {F F' : Nat → Prop} {w w' : World} {b : Nat} {p : Ev} (h : C3 w b p) (ht : TuF F F' w w') (hF : ¬ F b) : C3 w' b p := h.blk (ht.block b h.lt hF)
theorem C3.new (w : World) (a b c : Int) : C3 (w.alloc (.cells #[.int .i64 a, .int .i64 b, .int .i64 c] 31)) w.heap.size (a, b, c) := heap_alloc_new w _
theorem C3.put {w : World} {b : Nat} {q : Ev} (h : C3 w b q) (p1 p2 p3 : Int) : C3 (((w.setCell ⟨b, 0, none⟩ (.int .i64 p1)).setCell ⟨b, 1, none⟩ (.int .i64 p2)).setCell ⟨b, 2, none⟩ (.int .i64 p3)) b (p1, p2, p3) ∧
    TuF (fun k => k = b) (fun k => k = b) w (((w.setCell ⟨b, 0, none⟩ (.int .i64 p1)).setCell ⟨b, 1, none⟩ (.int .i64 p2)).setCell ⟨b, 2, none⟩ (.int .i64 p3)) := by
  have h1 := heap_setCell_same w b 0 _ _ (.int .i64 p1) h
  have h2 := heap_setCell_same _ b 1 _ _ (.int .i64 p2) h1
  have h3 := heap_setCell_same _ b 2 _ _ (.int .i64 p3) h2
  refine ⟨h3, ?_⟩
  have hh : ∀ k, k ≠ b → (((w.setCell ⟨b, 0, none⟩ (.int .i64 p1)).setCell ⟨b, 1, none⟩ (.int .i64 p2)).setCell ⟨b, 2, none⟩ (.int .i64 p3)).heap[k]? = w.heap[k]? := fun k hk => by
    rw [Below.heap_setCell _ _ _ _ hk, Below.heap_setCell _ _ _ _ hk, Below.heap_setCell _ _ _ _ hk]
  have hb := ((Below.refl 0 w).setCell (p := ⟨b, 0, none⟩) (Nat.zero_le _) (.int .i64 p1)).setCell (p := ⟨b, 1, none⟩) (Nat.zero_le _) (.int .i64 p2) |>.setCell (p := ⟨b, 2, none⟩) (Nat.zero_le _) (.int .i64 p3)
  exact ⟨hb.os, hb.tape, hb.output, hb.size, fun k _ hk => hh k hk, fun k hk => .inl hk⟩
set_option maxRecDepth 100000 in
set_option maxHeartbeats 4000000 in
theorem pops_walk (hP : PgP Is) (v : Value) (xs : List Ev) (w : World) (hl : RowE w v xs) :
    Calls Try.prog 3 #[v] w fun e w' => e = .returned (.bool true) ∧ Below w.heap.size w w' := by
  obtain ⟨A, c, rfl, hr⟩ := hl.form
  obtain ⟨len, hlen⟩ : ∃ y, xs.length = y := ⟨_, rfl⟩
  rw [hlen] at hr ⊢
  have hl9 : len ≤ 9223372036854775807 := by
    have := hr.parts.2.1
    have := hr.parts.2.2.1
    unfold maxLen at this
    omega
  have HP := Lib.hid hP
  have HN := Lib.hid (fun W => hP.new 200 W (by omega) (by omega))
  have HSu := Lib.hid (fun W => sure15_any hP W)
  have HL := Lib.hid (And.intro hr hlen)
  have HAh := Lib.hid (fun a b c d e f W => refAhead_any (a, b, c) (d, e, f) W)
  unfold evV at HAh
  dsimp only at HAh
  clear hP hl hr hlen
  go_enter Try.func3, Try.ntmps3
  go_wp2_with fail
  with_reducible refine (HN.out _).mono ?_
  rintro x w1 ⟨v, F1, rfl, hI1, hF1, hb1⟩
  obtain ⟨b, rfl⟩ := HP.out.ptr hI1
  have H1 := Lib.hid (And.intro hI1 (And.intro hF1 hb1))
  clear hI1 hF1 hb1
  go_wp2_with fail
  go_loopw [5, 6] (fun mv iv wr => ∃ (i m : Nat) (F : Nat → Prop) (L : List Ev), mv = .int .i64 m ∧ iv = .int .i64 i ∧ i ≤ len ∧ i ≤ 200 ∧ m ≤ i ∧ L.length = m ∧ Is wr (.pointer (some ⟨b, 0, none⟩)) F 200 L ∧ (∀ k, F k → w.heap.size ≤ k) ∧ Below w.heap.size w wr) (fun _ iv _ => len - (intOf iv).toNat)
  case atStart => exact ⟨0, 0, F1, [], rfl, rfl, Nat.zero_le _, by omega, Nat.le_refl _, rfl, H1.out⟩
  case round =>
    obtain ⟨i, m, F, L, rfl, rfl, hi, hi2, hm, hL, hI, hF, hb⟩ := hrel
    have HI := Lib.hid (And.intro hL (And.intro hI (And.intro hF hb)))
    clear hL hI hF hb
    have i0 : (0 : Int) ≤ i := by omega
    by_cases hin : i < len ∧ i < 200
    · obtain ⟨hin1, hin2⟩ := hin
      have q1 : (i : Int) < len := by omega
      have q2 : (i : Int) < 200 := by omega
      obtain ⟨⟨x1, x2, x3⟩, hp⟩ : ∃ p, xs[i]? = some p := ⟨_, List.getElem?_eq_getElem (by rw [HL.out.2]; exact hin1)⟩
      obtain ⟨ad, X, rfl, hX, k0, k1, k2⟩ := HL.out.1.parts.2.2.2.2 i hin1 _ hp
      dsimp only at k0 k1 k2
      have HX : Hid (∀ V, Below w.heap.size w V → V.cell? X = some (.int .i64 x1) ∧ V.cell? { block := X.block, off := X.off + 1 } = some (.int .i64 x2) ∧ V.cell? { block := X.block, off := X.off + 2 } = some (.int .i64 x3)) := by
        have hXb := World.block_lt_of_cell? _ _ k0
        intro V hV
        exact ⟨(hV.cell (p := X) hXb).trans k0, (hV.cell (p := { block := X.block, off := X.off + 1 }) hXb).trans k1, (hV.cell (p := { block := X.block, off := X.off + 2 }) hXb).trans k2⟩
      obtain ⟨e1, l1, s1'⟩ := mod_uT x1 1000 (by omega)
      obtain ⟨e2, l2, s2'⟩ := mod_uT x2 5 (by omega)
      obtain ⟨e3, l3, s3'⟩ := mod_uT x3 20 (by omega)
      have s1 : (IntKind.u64.wrap x1).tmod 1000 = (e1 : Int) := s1'
      have s2 : (IntKind.u64.wrap x2).tmod 5 = (e2 : Int) := s2'
      have s3 : (IntKind.u64.wrap x3).tmod 20 = (e3 : Int) := s3'
      have a1 : (0 : Int) ≤ e1 := by omega
      have a2 : (0 : Int) ≤ e2 := by omega
      have a3 : (0 : Int) ≤ e3 := by omega
      have b1 : (e1 : Int) < 1000 := by omega
      have b2 : (e2 : Int) < 5 := by omega
      have b3 : (e3 : Int) < 20 := by omega
      clear s1' s2' s3' k0 k1 k2 hp
      go_wp2_with fail
      have hbd : Below wr.heap.size wr wr.drew := ⟨rfl, rfl, rfl, Nat.le_refl _, fun _ _ => rfl⟩
      go_region_held3 (fun V => V.cell? X = some (.int .i64 x1) ∧ V.cell? { block := X.block, off := X.off + 1 } = some (.int .i64 x2) ∧ V.cell? { block := X.block, off := X.off + 2 } = some (.int .i64 x3)) (first | exact HX.out _ (HI.out.2.2.2.trans (hbd.mono HI.out.2.2.2.size)) | exact HX.out _ (HI.out.2.2.2.trans ((below_alO hbd _).mono HI.out.2.2.2.size))) (fail)
      have hsr := (HP.out.len HI.out.2.1).2.2.1
      obtain ⟨M, hM1, hM2, hM3, hM4⟩ := hsr.put (n := 200) (e := ((e1 : Int), (e2 : Int), (e3 : Int))) (bad_no a1 (by omega) a2 a3) (by rw [HI.out.1]; omega)
      have HSt := Lib.hid (fun v F W (h : Is W v F 200 L) => HP.out.set v F 200 L ((e1 : Int), (e2 : Int), (e3 : Int)) W ⟨by dsimp only; omega, by dsimp only; omega⟩ ⟨by dsimp only; omega, by dsimp only; omega⟩ h)
      rw [hM1] at HSt
      unfold evV at HSt
      dsimp only at HSt hM2 hM3 hM4
      rw [errE_zero] at HSt
      have HF1 := Lib.hid (fun v F W (h : Is W v F 200 L) => HP.out.find v F 200 L e2 e3 W ⟨by omega, by omega⟩ ⟨by omega, by omega⟩ h)
      have HF2 := Lib.hid (fun v F W (h : Is W v F 200 M) => HP.out.find v F 200 M e2 e3 W ⟨by omega, by omega⟩ ⟨by omega, by omega⟩ h)
      rw [decide_eq_true hM3] at HF2
      obtain ⟨j, hj⟩ : ∃ j : Nat, fdE e2 e3 M 0 = j := ⟨(fdE e2 e3 M 0).toNat, by omega⟩
      obtain ⟨ej, hej⟩ : ∃ e, M[j]? = some e := ⟨_, List.getElem?_eq_getElem (fdE_lt hj)⟩
      have HAt := Lib.hid (And.intro hj (And.intro hej (hM4 j ej hj hej)))
      have hnew := C3.new wr e1 e2 e3
      have hb0 : Below wr.heap.size wr (wr.alloc (.cells #[.int .i64 e1, .int .i64 e2, .int .i64 e3] 31)).drew := ((Below.refl _ _).alloc (Nat.le_refl _) _).drew
      have HW : Hid (C3 (wr.alloc (.cells #[.int .i64 e1, .int .i64 e2, .int .i64 e3] 31)).drew wr.heap.size ((e1 : Int), (e2 : Int), (e3 : Int)) ∧ Is (wr.alloc (.cells #[.int .i64 e1, .int .i64 e2, .int .i64 e3] 31)).drew (.pointer (some ⟨b, 0, none⟩)) F 200 L ∧ Below w.heap.size w (wr.alloc (.cells #[.int .i64 e1, .int .i64 e2, .int .i64 e3] 31)).drew ∧ ¬ F wr.heap.size) :=
        ⟨hnew, HP.out.below HI.out.2.1 hb0, HI.out.2.2.2.trans (hb0.mono HI.out.2.2.2.size), fun h => absurd (HP.out.fp HI.out.2.1 _ h) (Nat.lt_irrefl _)⟩
      have hLn : (0 ≤ fdE e2 e3 L 0 ∧ (M.length : Int) = m) ∨ (¬ 0 ≤ fdE e2 e3 L 0 ∧ (M.length : Int) = (m : Int) + 1) := by
        by_cases h0 : 0 ≤ fdE e2 e3 L 0
        · rw [if_pos h0, HI.out.1] at hM2; exact .inl ⟨h0, by omega⟩
        · rw [if_neg h0, HI.out.1] at hM2; exact .inr ⟨h0, by omega⟩
      have HLn := Lib.hid (fun v F W (h : Is W v F 200 M) => HP.out.leng v F 200 M W h)
      clear hsr hM1 hM2 hM3 hM4 hj hej hnew hb0 hbd
      rcases hLn with ⟨h0, hml⟩ | ⟨h0, hml⟩
      case' inl => rw [decide_eq_true h0] at HF1
      case' inr => rw [decide_eq_false h0] at HF1
      all_goals
        rw [hml] at HLn
        have HMl := Lib.hid hml
        clear h0 hml
        go_wp2_with fail
        with_reducible refine (HF1.out _ _ _ HW.out.2.1).mono ?_
        rintro x w2 ⟨g, rfl, _, hb2⟩
        have H2 := Lib.hid (And.intro (HW.out.1.bl hb2) (And.intro (HP.out.below HW.out.2.1 hb2) (HW.out.2.2.1.trans (hb2.mono HW.out.2.2.1.size))))
        obtain ⟨y0, y1, y2⟩ := (H2.out.1).cells
        dsimp only at y0 y1 y2
        clear hb2
        go_wp2_with fail
        with_reducible refine (HSt.out _ _ _ H2.out.2.1).mono ?_
        rintro x w3 ⟨rfl, F3, hI3, ht3⟩
        have H3 := Lib.hid (And.intro (H2.out.1.tu ht3 HW.out.2.2.2) (And.intro hI3 (And.intro (ht3.low H2.out.2.2.size HI.out.2.2.1) (ht3.below H2.out.2.2 H2.out.2.2.size HI.out.2.2.1))))
        obtain ⟨z0, z1, z2⟩ := (H3.out.1).cells
        dsimp only at z0 z1 z2
        clear ht3 hI3 y0 y1 y2
        go_wp2_with fail
        with_reducible refine (HF2.out _ _ _ H3.out.2.1).mono ?_
        rintro x w4 ⟨g4, rfl, hg4, hb4⟩
        have hge : g4 = e1 := (hg4 j ej HAt.out.1 HAt.out.2.1).trans HAt.out.2.2
        subst hge
        have H4 := Lib.hid (And.intro (H3.out.1.bl hb4) (And.intro (HP.out.below H3.out.2.1 hb4) (H3.out.2.2.2.trans (hb4.mono H3.out.2.2.2.size))))
        obtain ⟨y0, y1, y2⟩ := (H4.out.1).cells
        dsimp only at y0 y1 y2
        clear hb4 hg4 z0 z1 z2
        go_wp2_with fail
        with_reducible refine (HLn.out _ _ _ H4.out.2.1).mono ?_
        rintro x w5 ⟨rfl, hb5⟩
        have H5 := Lib.hid (And.intro (HP.out.below H4.out.2.1 hb5) (H4.out.2.2.trans (hb5.mono H4.out.2.2.size)))
        clear hb5 y0 y1 y2
        go_wp2_with fail
        have hl2 : M.length = m ∨ M.length = m + 1 := by have := HMl.out; omega
        have hl3 := HMl.out
        first
        | exact ⟨⟨i + 1, m, F3, M, rfl, by go_num, hin1, hin2, by omega, by omega, H5.out.1, H3.out.2.2.1, H5.out.2⟩, by simp [intOf]; omega⟩
        | exact ⟨⟨i + 1, m + 1, F3, M, by go_num, by go_num, hin1, hin2, by omega, by omega, H5.out.1, H3.out.2.2.1, H5.out.2⟩, by simp [intOf]; omega⟩
    · have hd : ¬ i < len ∨ (i < len ∧ ¬ i < 200) := by omega
      have HSr := Lib.hid (And.intro (HP.out.len HI.out.2.1).2.2.1 (HP.out.len HI.out.2.1).2.2.2)
      clear hin
      rcases hd with h1 | ⟨h1, h2⟩
      case' inl => have q1 : ¬ (i : Int) < len := by omega
      case' inr =>
        have q1 : (i : Int) < len := by omega
        have q2 : ¬ (i : Int) < 200 := by omega
      all_goals
        go_wp2_with fail
        have hnew := C3.new wr (-1) 0 0
        have hb0 : Below wr.heap.size wr (wr.alloc (.cells #[.int .i64 (-1), .int .i64 0, .int .i64 0] 31)) := (Below.refl _ _).alloc (Nat.le_refl _) _
        obtain ⟨lb, hlb⟩ : ∃ y, wr.heap.size = y := ⟨_, rfl⟩
        rw [hlb] at hnew ⊢
        have hlw : w.heap.size ≤ lb := by rw [← hlb]; exact HI.out.2.2.2.size
        have HU := Lib.hid (And.intro hnew (And.intro (HP.out.below HI.out.2.1 hb0) (And.intro (HI.out.2.2.2.trans (hb0.mono HI.out.2.2.2.size)) (fun h => absurd (HP.out.fp HI.out.2.1 _ h) (by rw [hlb]; exact Nat.lt_irrefl _) : ¬ F lb))))
        clear hnew hb0
        go_loopw [13] (fun iv wr => ∃ (s : Nat) (F : Nat → Prop) (q : Ev), iv = .int .i64 s ∧ s ≤ m ∧ C3 wr lb q ∧ Is wr (.pointer (some ⟨b, 0, none⟩)) F 200 (L.drop s) ∧ Below w.heap.size w wr ∧ ¬ F lb ∧ (∀ k, F k → w.heap.size ≤ k) ∧ ∀ p, L[s]? = some p → ahE p q = false) (fun iv _ => m - (intOf iv).toNat)
        case atStart =>
          refine ⟨0, F, (-1, 0, 0), rfl, Nat.zero_le _, HU.out.1, HU.out.2.1, HU.out.2.2.1, HU.out.2.2.2, HI.out.2.2.1, fun p hp => ?_⟩
          have h1 := HSr.out.2 p (List.mem_of_getElem? hp)
          cases h : ahE p (-1, 0, 0) with
          | false => rfl
          | true =>
            rw [ahE_iff] at h
            unfold badE15 at h1
            simp at h1
            dsimp only at h
            omega
        case round =>
          obtain ⟨s, F, ⟨r1, r2, r3⟩, rfl, hs, hc, hI, hb, hnf, hF, hah⟩ := hrel
          have HT := Lib.hid (And.intro hc (And.intro hI (And.intro hb (And.intro hnf (And.intro hF hah)))))
          clear hc hI hb hnf hF hah
          have s0 : (0 : Int) ≤ s := by omega
          by_cases hsm : s < m
          · have s1 : (s : Int) < m := by omega
            obtain ⟨p, hp⟩ : ∃ p, L[s]? = some p := ⟨_, List.getElem?_eq_getElem (by rw [HI.out.1]; exact hsm)⟩
            have hahp := HT.out.2.2.2.2.2 p hp
            have hgone := HSr.out.1.gone hp
            have hnext := fun q (hq : L[s + 1]? = some q) => HSr.out.1.next hp hq
            obtain ⟨p1, p2, p3⟩ := p
            have HFr := Lib.hid (HP.out.firstD (n := 200) hp)
            have HPp := Lib.hid (HP.out.popD (n := 200) hp)
            have HA2 := Lib.hid (fun W => HAh.out p1 p2 p3 r1 r2 r3 W)
            rw [hahp] at HA2
            have hky := HP.out.keys HT.out.2.1 (p1, p2, p3) (List.mem_of_getElem? (i := 0) (by rw [List.getElem?_drop]; exact hp))
            have HFi := Lib.hid (fun v F W (h : Is W v F 200 (L.drop (s + 1))) => HP.out.find v F 200 (L.drop (s + 1)) p2 p3 W hky.1 hky.2 h)
            rw [decide_eq_false (show ¬ 0 ≤ fdE p2 p3 (L.drop (s + 1)) 0 from by dsimp only at hgone; omega)] at HFi
            have HNx := Lib.hid hnext
            clear hp hahp hgone hnext hky
            go_wp2_with fail
            with_reducible refine (HFr.out _ _ _ HT.out.2.1).mono ?_
            rintro x w2 ⟨rfl, hb2⟩
            have ha2 : Below w2.heap.size w2 (w2.alloc (.cells #[.int .i64 p1, .int .i64 p2, .int .i64 p3] 31)) := (Below.refl _ _).alloc (Nat.le_refl _) _
            have H2 := Lib.hid (And.intro ((HT.out.1.bl hb2).bl ha2) (And.intro (HP.out.below (HP.out.below HT.out.2.1 hb2) ha2) (And.intro ((HT.out.2.2.1.trans (hb2.mono HT.out.2.2.1.size)).trans (ha2.mono (HT.out.2.2.1.trans (hb2.mono HT.out.2.2.1.size)).size)) (And.intro (C3.new w2 p1 p2 p3 ) (fun h => absurd (HP.out.fp (HP.out.below HT.out.2.1 hb2) _ h) (Nat.lt_irrefl _) : ¬ F w2.heap.size)))))
            clear hb2 ha2
            go_wp2_with fail
            with_reducible refine (HPp.out _ _ _ H2.out.2.1).mono ?_
            rintro x w3 ⟨rfl, F3, hI3, ht3⟩
            have ha3 : Below w3.heap.size w3 (w3.alloc (.cells #[.int .i64 p1, .int .i64 p2, .int .i64 p3] 31)) := (Below.refl _ _).alloc (Nat.le_refl _) _
            have hb3 := ht3.below H2.out.2.2.1 H2.out.2.2.1.size HT.out.2.2.2.2.1
            have H3 := Lib.hid (And.intro ((H2.out.1.tu ht3 HT.out.2.2.2.1).bl ha3) (And.intro (HP.out.below hI3 ha3) (And.intro (hb3.trans (ha3.mono hb3.size)) (And.intro ((H2.out.2.2.2.1.tu ht3 H2.out.2.2.2.2).bl ha3) (And.intro (C3.new w3 p1 p2 p3)
              (And.intro (ht3.low H2.out.2.2.1.size HT.out.2.2.2.2.1) (fun h => (ht3.news _ h).elim HT.out.2.2.2.1 (fun h2 => absurd H2.out.1.lt (Nat.not_lt.2 h2)) : ¬ F3 lb)))))))
            obtain ⟨k0, k1, k2⟩ := (H3.out.1).cells
            obtain ⟨l0, l1, l2⟩ := (H3.out.2.2.2.1).cells
            obtain ⟨n0, n1, n2⟩ := (H3.out.2.2.2.2.1).cells
            dsimp only at k0 k1 k2 l0 l1 l2 n0 n1 n2
            clear ht3 ha3 hb3 hI3
            go_wp2_with fail
            with_reducible refine (HA2.out _).mono ?_
            rintro x w4 ⟨rfl, hb4⟩
            have H4 := Lib.hid (And.intro (H3.out.1.bl hb4) (And.intro (HP.out.below H3.out.2.1 hb4) (And.intro (H3.out.2.2.1.trans (hb4.mono H3.out.2.2.1.size)) (H3.out.2.2.2.2.1.bl hb4))))
            clear hb4 k0 k1 k2 l0 l1 l2 n0 n1 n2
            obtain ⟨n0, n1, n2⟩ := (H4.out.2.2.2).cells
            dsimp only at n0 n1 n2
            go_wp2_with fail
            with_reducible refine (HFi.out _ _ _ H4.out.2.1).mono ?_
            rintro x w5 ⟨g, rfl, _, hb5⟩
            have H5 := Lib.hid (And.intro (H4.out.1.bl hb5) (And.intro (HP.out.below H4.out.2.1 hb5) (And.intro (H4.out.2.2.1.trans (hb5.mono H4.out.2.2.1.size)) (H4.out.2.2.2.bl hb5))))
            clear hb5 n0 n1 n2
            obtain ⟨n0, n1, n2⟩ := (H5.out.2.2.2).cells
            obtain ⟨k0, k1, k2⟩ := (H5.out.1).cells
            dsimp only at n0 n1 n2 k0 k1 k2
            have z0 := frz9_blk H5.out.1 0
            have z1 := frz9_blk H5.out.1 1
            have z2 := frz9_blk H5.out.1 2
            go_wp2_with fail
            obtain ⟨hc5, ht5⟩ := H5.out.1.put p1 p2 p3
            exact ⟨⟨s + 1, F3, (p1, p2, p3), by go_num, hsm, hc5, HP.out.kept H5.out.2.1 (fun k hk => ht5.block k (HP.out.fp H5.out.2.1 k hk) (fun e => by rw [e] at hk; exact H3.out.2.2.2.2.2.2 hk)), ht5.below H5.out.2.2.1 H5.out.2.2.1.size (fun k hk => by rw [hk]; exact hlw), H3.out.2.2.2.2.2.2, H3.out.2.2.2.2.2.1, HNx.out⟩, by simp [intOf]; omega⟩
          · obtain rfl : s = m := by omega
            have s1 : ¬ (s : Int) < s := by omega
            have he : L.drop s = [] := List.drop_eq_nil_of_le (by rw [HI.out.1]; exact Nat.le_refl _)
            have HPp := Lib.hid (fun W h => HP.out.pop (.pointer (some ⟨b, 0, none⟩)) F 200 (L.drop s) W h)
            rw [he] at HPp
            have HIe : Hid (Is wr (.pointer (some ⟨b, 0, none⟩)) F 200 []) := by have h := HT.out.2.1; rw [he] at h; exact h
            unfold evV at HPp
            dsimp only [List.headD_nil, List.isEmpty_nil, Bool.not_true, List.tail_nil] at HPp
            clear he
            go_wp2_with fail
            with_reducible refine (HPp.out _ HIe.out).mono ?_
            rintro x w6 ⟨rfl, F6, hI6, ht6⟩
            have hb6 := ht6.below HT.out.2.2.1 HT.out.2.2.1.size HT.out.2.2.2.2.1
            have ha6 : Below w6.heap.size w6 (w6.alloc (.cells #[.int .i64 0, .int .i64 0, .int .i64 0] 31)) := (Below.refl _ _).alloc (Nat.le_refl _) _
            have H6 := Lib.hid (And.intro (HP.out.below hI6 ha6) (hb6.trans (ha6.mono hb6.size)))
            clear hI6 ht6 hb6 ha6
            go_wp2_with fail
            with_reducible refine (HP.out.leng _ _ _ _ _ H6.out.1).mono ?_
            rintro x w7 ⟨rfl, hb7⟩
            have H7 := Lib.hid (H6.out.2.trans (hb7.mono H6.out.2.size))
            clear hb7
            dsimp only [List.length_nil]
            go_wp2_with fail
            with_reducible refine (HSu.out _).mono ?_
            rintro x w8 ⟨rfl, hb8⟩
            have H8 := Lib.hid (H7.out.trans (hb8.mono H7.out.size))
            clear hb8
            go_wp2_with fail
            go_ret
            exact ⟨rfl, H8.out⟩
end Go.Proofs.Ytkihfafkglkjnaa

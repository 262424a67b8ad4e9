/- The reference's lists (layer 3): With. -/
import Derived.Test.YtljagggankmnkaaDoorRef3B
namespace Go.Proofs.YtljagggankmnkaaDoor
open Go.RowKit Go.Maps

abbrev FileT : TypeId := 69
theorem drop_at {R : List (Bs × Bs)} {i : Nat} (h : i < R.length) : R.drop i = R[i] :: R.drop (i + 1) := List.drop_eq_getElem_cons h
theorem RdF.at2 {w : World} {ad X : Addr} {L : List (Bs × Bs)} {i : Nat} (h : RdF w (some ad) L) (hi : i < L.length) (hX : ad.add (i * 2) = X) : w.cell? X = some (.string (str L[i].1)) ∧ w.cell? { block := X.block, off := X.off + 1 } = some (.string (str L[i].2)) := by
  obtain ⟨ad', X', e, e', h0, h1⟩ := h.two i hi
  injection e with e
  subst e
  subst e'
  subst hX
  exact ⟨h0, h1⟩
theorem with_no {f : Bs × Bs} {R O : List (Bs × Bs)} {i : Nat} (h : O ++ ins f (R.drop i) = ins f R) (hi : i < R.length) (hb : bytesBefore f.1 R[i].1 = false) : (O ++ [R[i]]) ++ ins f (R.drop (i + 1)) = ins f R := by
  rw [drop_at hi, ins, if_neg (by rw [hb]; decide)] at h
  rw [← h]
  simp
theorem with_yes {f : Bs × Bs} {R O : List (Bs × Bs)} {i : Nat} (h : O ++ ins f (R.drop i) = ins f R) (hi : i < R.length) (hb : bytesBefore f.1 R[i].1 = true) : (O ++ [f] ++ [R[i]]) ++ R.drop (i + 1) = ins f R := by
  rw [drop_at hi, ins, if_pos hb] at h
  rw [← h]
  simp
theorem with_put {I R O : List (Bs × Bs)} {i : Nat} (h : O ++ R.drop i = I) (hi : i < R.length) : (O ++ [R[i]]) ++ R.drop (i + 1) = I := by
  rw [drop_at hi] at h
  rw [← h]
  simp
theorem below_drewN {B n : Nat} {w w' : World} (h : Below B w w') : Below B w (w'.drewN n) := ⟨h.os, h.tape, h.output, h.size, h.block⟩
theorem less_before : ∀ x y : Bs, Op.bytesLess x y = bytesBefore x y
  | [], [] => rfl
  | [], _ :: _ => rfl
  | _ :: _, [] => rfl
  | a :: x, b :: y => by simp only [Op.bytesLess, bytesBefore, less_before x y]
theorem str_less (x y : Bs) : Op.bytesLess (str x).toList (str y).toList = bytesBefore x y := by rw [str_toList, str_toList, less_before]
set_option maxHeartbeats 2000000 in
set_option maxRecDepth 100000 in
theorem with_is (f : Bs × Bs) (A : Option Addr) (n c : Nat) (L : List (Bs × Bs)) (w : World) (hn : L.length = n) (hs : n ≤ 90000) (hr : RdF w A L) :
    Calls Tryd.prog 47 #[.slice A n c, .agg #[.string (str f.1), .string (str f.2)]] w (NewF w (put f.1 f.2 L)) := by
  have hw0 := (Below.refl w.heap.size w).alloc (Nat.le_refl _) (.cells #[.string (str f.1), .string (str f.2)] 69)
  have hb0 := (MapKept.heap_alloc w (.cells #[.string (str f.1), .string (str f.2)] 69)).1
  have HS := Lib.hid (And.intro hn (And.intro (hr.below hw0) (And.intro hw0 hb0)))
  have c0 := cell_blk hb0 0 (v := .string (str f.1)) rfl
  clear hn hr hw0 hb0
  go_enter Tryd.func47, Tryd.ntmps47
  go_wp2_with fail
  refine (without_is f.1 A n c L _ HS.out.1 (by omega) HS.out.2.1).mono ?_
  rintro e w1 ⟨A1, c1, rfl, hb1, hr1, ha1⟩
  obtain ⟨R, hR⟩ : ∃ R, del f.1 L = R := ⟨_, rfl⟩
  obtain ⟨m, hm⟩ : ∃ m, R.length = m := ⟨_, rfl⟩
  have hmn : m ≤ n := by rw [← hm, ← hR, ← HS.out.1]; exact len_del _ _
  rw [hR] at hr1 ⊢
  rw [hm]
  have H1 := Lib.hid (And.intro hb1 (And.intro hr1 (And.intro hR hm)))
  have HF := Lib.hid (show w1.heap[w.heap.size]? = some (.cells #[.string (str f.1), .string (str f.2)] 69) from (hb1.block _ (by rw [World.size_alloc]; omega)).trans HS.out.2.2.2)
  have HSZ := Lib.hid (show w.heap.size < w1.heap.size by have := hb1.size; rw [World.size_alloc] at this; omega)
  clear hb1 hr1 ha1 hR hm c0
  go_wp2_with fail
  go_loopw [5, 6, 8] (fun o q v w' => ∃ (i : Nat) (b : Bool) (O : List (Bs × Bs)), v = .int .i64 i ∧ q = .bool b ∧ i ≤ m ∧ Below w1.heap.size w1 w' ∧ w'.ownsRow w1.heap.size 69 2 o O.length (O.flatMap fileCells) ∧ O.length ≤ i + 1 ∧ (b = false → O.length ≤ i) ∧ O ++ (if b then R.drop i else ins f (R.drop i)) = ins f R) (fun _ _ v _ => m - (intOf v).toNat)
  case atStart => exact ⟨0, false, [], rfl, rfl, Nat.zero_le _, Below.refl _ _, World.ownsRow_nil _ _ _ _, Nat.zero_le _, fun _ => Nat.le_refl _, rfl⟩
  case round =>
    obtain ⟨i, b, O, rfl, rfl, hi, hb, ho, hl, hlb, hO⟩ := hrel
    have HK := Lib.hid (And.intro hb (And.intro ho (And.intro hlb hO)))
    have hblk : wr.heap[w.heap.size]? = some (.cells #[.string (str f.1), .string (str f.2)] 69) := (hb.block _ HSZ.out).trans HF.out
    have f0 := cell_blk hblk 0 (v := .string (str f.1)) rfl
    have f1 := cell_blk hblk 1 (v := .string (str f.2)) rfl
    have HB := Lib.hid hblk
    clear hb ho hlb hO hblk
    rcases Nat.lt_or_ge i m with hlt | hge
    · have q0 : (0 : Int) ≤ i := by omega
      have q1 : (i : Int) < m := by omega
      have hil : i < R.length := by rw [H1.out.2.2.2]; exact hlt
      obtain ⟨ad, X, rfl, hX, k0, k1⟩ := (H1.out.2.1.below HK.out.1).two i hil
      obtain ⟨g, hg⟩ : ∃ g, R[i] = g := ⟨_, rfl⟩
      rw [hg] at k0 k1
      have HG := Lib.hid (And.intro hg hil)
      clear hg
      cases b
      · cases hbf : bytesBefore f.1 g.1
        · have hbl : Op.bytesLess (str f.1).toList (str g.1).toList = false := by rw [str_less, hbf]
          go_wp2_with fail
          go_quiet (fail)
          have HQ := Lib.hid (And.intro hbf hbl)
          go_wp2_with
            (at_builtin
             refine wpList_appF rfl (.tmp 35) (.tmp 40) rfl w1.heap.size u5 O.length O rfl (World.ownsRow.alloc (w := wr.drewN nq) HK.out.2.1 _) wr.heap.size g rfl (MapKept.heap_alloc (wr.drewN nq) (.cells #[.string (str g.1), .string (str g.2)] 69)).1 (by omega) (by rw [World.size_alloc]; have := HK.out.1.size; show _ ≤ wr.heap.size + 1; omega) ?_)
          intro v' w' ho hg ha
          have hbn : Below w1.heap.size w1 w' := ((below_drewN HK.out.1).alloc HK.out.1.size _).grown hg (by rw [World.size_alloc]; have := HK.out.1.size; show _ ≤ wr.heap.size + 1; omega) (fun k hk => (HK.out.2.1.lt k hk).1)
          have HN := Lib.hid (And.intro ho (And.intro hbn HQ))
          clear ho hg ha hbn
          go_wp2_with fail
          refine ⟨⟨i + 1, false, O ++ [g], by go_num, rfl, hlt, HN.out.2.1, ?_, by simp; omega, fun _ => by simp; have := HK.out.2.2.1 (by trivial); omega, ?_⟩, by simp [intOf]; omega⟩
          · rw [List.flatMap_append]
            simpa using HN.out.1
          · have := with_no HK.out.2.2.2 HG.out.2 (by rw [HG.out.1]; exact HQ.out.1)
            rw [HG.out.1] at this
            exact this
        · have hbl : Op.bytesLess (str f.1).toList (str g.1).toList = true := by rw [str_less, hbf]
          go_wp2_with fail
          go_quiet (fail)
          have HQ := Lib.hid (And.intro hbf hbl)
          go_wp2_with
            (at_builtin
             refine wpList_appF rfl (.tmp 31) (.tmp 33) rfl w1.heap.size u5 O.length O rfl (World.ownsRow.alloc (w := wr.drewN nq) HK.out.2.1 _) wr.heap.size f rfl (MapKept.heap_alloc (wr.drewN nq) (.cells #[.string (str f.1), .string (str f.2)] 69)).1 (by omega) (by rw [World.size_alloc]; have := HK.out.1.size; show _ ≤ wr.heap.size + 1; omega) ?_)
          intro v4 w4 ho hg ha
          have hbn : Below w1.heap.size w1 w4 := ((below_drewN HK.out.1).alloc HK.out.1.size _).grown hg (by rw [World.size_alloc]; have := HK.out.1.size; show _ ≤ wr.heap.size + 1; omega) (fun k hk => (HK.out.2.1.lt k hk).1)
          have HN := Lib.hid (And.intro ho (And.intro hbn HQ))
          clear ho hg ha hbn k0 k1 f0 f1
          obtain ⟨k0, k1⟩ := (H1.out.2.1.below HN.out.2.1).at2 HG.out.2 hX
          rw [HG.out.1] at k0 k1
          go_wp2_with
            (at_builtin
             refine wpList_appF rfl (.tmp 35) (.tmp 40) rfl w1.heap.size v4 (O.length + 1) (O ++ [f]) rfl (World.ownsRow.alloc (by rw [List.flatMap_append]; simpa using HN.out.1) _) w4.heap.size g rfl (MapKept.heap_alloc w4 (.cells #[.string (str g.1), .string (str g.2)] 69)).1 (by omega) (by rw [World.size_alloc]; have := HN.out.2.1.size; omega) ?_)
          intro v' w' ho hg ha
          have hbn : Below w1.heap.size w1 w' := (HN.out.2.1.alloc HN.out.2.1.size _).grown hg (by rw [World.size_alloc]; have := HN.out.2.1.size; omega) (fun k hk => (HN.out.1.lt k hk).1)
          have HM := Lib.hid (And.intro ho hbn)
          clear ho hg ha hbn
          go_wp2_with fail
          refine ⟨⟨i + 1, true, O ++ [f] ++ [g], by go_num, rfl, hlt, HM.out.2, ?_, by simp; have := HK.out.2.2.1 (by trivial); omega, (fun h => nomatch h), ?_⟩, by simp [intOf]; omega⟩
          · rw [List.flatMap_append, List.flatMap_append]
            simpa using HM.out.1
          · have := with_yes HK.out.2.2.2 HG.out.2 (by rw [HG.out.1]; exact HQ.out.1)
            rw [HG.out.1] at this
            exact this
      · go_wp2_with fail
        go_quiet (fail)
        go_wp2_with
          (at_builtin
           refine wpList_appF rfl (.tmp 35) (.tmp 40) rfl w1.heap.size u5 O.length O rfl (World.ownsRow.alloc (w := wr.drewN nq) HK.out.2.1 _) wr.heap.size g rfl (MapKept.heap_alloc (wr.drewN nq) (.cells #[.string (str g.1), .string (str g.2)] 69)).1 (by omega) (by rw [World.size_alloc]; have := HK.out.1.size; show _ ≤ wr.heap.size + 1; omega) ?_)
        intro v' w' ho hg ha
        have hbn : Below w1.heap.size w1 w' := ((below_drewN HK.out.1).alloc HK.out.1.size _).grown hg (by rw [World.size_alloc]; have := HK.out.1.size; show _ ≤ wr.heap.size + 1; omega) (fun k hk => (HK.out.2.1.lt k hk).1)
        have HN := Lib.hid (And.intro ho hbn)
        clear ho hg ha hbn
        go_wp2_with fail
        refine ⟨⟨i + 1, true, O ++ [g], by go_num, rfl, hlt, HN.out.2, ?_, by simp; omega, (fun h => nomatch h), ?_⟩, by simp [intOf]; omega⟩
        · rw [List.flatMap_append]
          simpa using HN.out.1
        · have := with_put HK.out.2.2.2 HG.out.2
          rw [HG.out.1] at this
          exact this
    · have q1 : ¬ ((i : Int) < m) := by omega
      obtain rfl : i = m := by omega
      have hdr : R.drop i = [] := List.drop_eq_nil_of_le (Nat.le_of_eq H1.out.2.2.2)
      have HD := Lib.hid hdr
      clear hdr
      have hput : put f.1 f.2 L = ins f R := by rw [put, H1.out.2.2.1]
      have HP := Lib.hid hput
      have HW := Lib.hid (show Below w.heap.size w w1 from HS.out.2.2.1.trans (H1.out.1.mono (by rw [World.size_alloc]; omega)))
      clear hput
      cases b
      · go_wp2_with
          (at_builtin
           refine wpList_appF rfl (.tmp 44) (.tmp 46) rfl w1.heap.size u5 O.length O rfl (World.ownsRow.alloc HK.out.2.1 _) wr.heap.size f rfl (MapKept.heap_alloc wr (.cells #[.string (str f.1), .string (str f.2)] 69)).1 (by omega) (by rw [World.size_alloc]; have := HK.out.1.size; omega) ?_)
        intro v' w' ho hg ha
        have hbn : Below w1.heap.size w1 w' := (HK.out.1.alloc HK.out.1.size _).grown hg (by rw [World.size_alloc]; have := HK.out.1.size; omega) (fun k hk => (HK.out.2.1.lt k hk).1)
        have HN := Lib.hid (And.intro ho hbn)
        clear ho hg ha hbn
        go_wp2_with fail
        go_ret
        have e1 : O ++ [f] = ins f R := by have := HK.out.2.2.2; rw [HD.out] at this; exact this
        obtain ⟨A', c', rfl, _, _, _, hr', ha'⟩ := owns_formk HN.out.1
        rw [HP.out, ← e1]
        exact ⟨A', c', by rw [List.length_append]; rfl, HW.out.trans (HN.out.2.mono HW.out.size), by rw [RdF, List.flatMap_append]; simpa using hr', fun a e => Nat.le_trans HW.out.size (ha' a e).1⟩
      · go_wp2_with fail
        go_ret
        have e1 : O = ins f R := by have := HK.out.2.2.2; rw [HD.out] at this; simpa using this
        obtain ⟨A', c', rfl, _, _, _, hr', ha'⟩ := owns_formk HK.out.2.1
        rw [HP.out, ← e1]
        exact ⟨A', c', rfl, HW.out.trans (HK.out.1.mono HW.out.size), hr', fun a e => Nat.le_trans HW.out.size (ha' a e).1⟩
end Go.Proofs.YtljagggankmnkaaDoor

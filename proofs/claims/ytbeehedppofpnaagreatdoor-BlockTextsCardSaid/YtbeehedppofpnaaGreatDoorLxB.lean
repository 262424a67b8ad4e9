/- Contract: lex.whole. -/
import Derived.Test.YtbeehedppofpnaaGreatDoorLxA
namespace Go.Proofs.YtbeehedppofpnaaGreatDoor
open Go.RowKit

/-! An own row of lines beside a builder. -/
theorem own_beside {w w' : World} {base k B b : Nat} {e : TypeId} {v : Value} {n : Nat} {xs : List Value} (h : w.ownsRow base e k v n xs) (hk : Kept B b w w') {cs : Array Value} (hb : w.heap[b]? = some (.cells cs 80 (0, 0))) (h1 : e ≠ 80) (h2 : e ≠ 5) : w'.ownsRow base e k v n xs := by
  refine ⟨h.1, ?_⟩
  rcases h.2 with h0 | ⟨g, cap, cur, hv, hbg, hg, r⟩
  · exact .inl h0
  · refine .inr ⟨g, cap, cur, hv, hbg, hk.2 g _ hg ?_ ?_, r⟩
    · intro hgb
      injection hgb with hgb
      subst hgb
      rw [hg] at hb
      injection hb with hb
      injection hb with _ hb
      exact h1 hb
    · intro c fz hc
      injection hc with _ hc
      exact h2 hc
theorem block_beside {w w' : World} {B b g : Nat} {cur : Array Value} {e : TypeId} {fr : Nat × Nat} (h : w.heap[g]? = some (.cells cur e fr)) (hk : Kept B b w w') (hgb : g ≠ b) (h2 : e ≠ 5) : w'.heap[g]? = some (.cells cur e fr) := by
  refine hk.2 g _ h (fun h => hgb (by injection h)) ?_
  intro c fz hc
  injection hc with _ hc
  exact h2 hc
theorem Bd.alloc {B b : Nat} {l : Tx} {w : World} (h : Bd B b l w) (o : Obj) : Bd B b l (w.alloc o) := by
  rcases h with h | h
  · exact .inl (h.alloc o)
  · exact .inr (h.alloc o)
theorem Bd.grown {B b : Nat} {l : Tx} {w w' : World} {row : Option Nat} (h : Bd B b l w) (hg : w.grownBy w' row) (hr : ∀ g, row = some g → ∃ cur e fr, w.heap[g]? = some (.cells cur e fr) ∧ e ≠ 80 ∧ e ≠ 5) : Bd B b l w' := by
  have key : ∀ p, Lib.BuilderAtF 80 5 B b p (Lib.byteCells l) w → Lib.BuilderAtF 80 5 B b p (Lib.byteCells l) w' := by
    rintro p ⟨hB, v, hb, hown, hne⟩
    have hlt : b < w.heap.size := (Array.getElem?_eq_some_iff.1 hb).1
    refine ⟨hB, v, ?_, hown.kept hg ?_, hne⟩
    · rw [hg.block b hlt ?_]
      · exact hb
      · intro e
        obtain ⟨cur, ee, fr, hc, h1, _⟩ := hr b e.symm
        rw [hb] at hc
        injection hc with hc
        injection hc with _ hc
        exact h1 hc.symm
    · cases hv : v.ownBlock with
      | none => exact .inl rfl
      | some g =>
        right
        intro e
        obtain ⟨cur, ee, fr, hc, _, h2⟩ := hr g e.symm
        obtain ⟨c, fz, hc2⟩ := Lib.ownsRowF_kind hown g hv
        rw [hc2] at hc
        injection hc with hc
        injection hc with _ hc
        exact h2 hc.symm
  rcases h with h | h
  · exact .inl (key _ h)
  · exact .inr (key _ h)
theorem own_row {w : World} {base k : Nat} {e : TypeId} {v : Value} {n : Nat} {xs : List Value} (h : w.ownsRow base e k v n xs) (h1 : e ≠ 80) (h2 : e ≠ 5) : ∀ g, v.ownBlock = some g → ∃ cur e fr, w.heap[g]? = some (.cells cur e fr) ∧ e ≠ 80 ∧ e ≠ 5 := by
  intro g hg
  rcases h.2 with ⟨rfl, _⟩ | ⟨g', cap, cur, rfl, _, hh, _⟩
  · cases hg
  · have : g' = g := by simpa [Value.ownBlock] using hg
    subst this
    exact ⟨cur, e, (0, 0), hh, h1, h2⟩
theorem row_ne {w : World} {base k g : Nat} {e e' : TypeId} {v : Value} {n : Nat} {xs : List Value} {cur : Array Value} {fr : Nat × Nat} (h : w.ownsRow base e k v n xs) (hb : w.heap[g]? = some (.cells cur e' fr)) (hne : e' ≠ e) : some g ≠ v.ownBlock := by
  intro hg
  rcases h.2 with ⟨rfl, _⟩ | ⟨g', cap, cur', rfl, _, hh, _⟩
  · cases hg
  · have : g' = g := by simpa [Value.ownBlock] using hg.symm
    subst this
    rw [hh] at hb
    injection hb with hb
    injection hb with _ hb
    exact hne hb.symm
/-! Lengths. -/
def tot (ps : List Tx) : Nat := (ps.map List.length).sum
theorem tot_cut (c : UInt8) : ∀ l : Tx, tot (cutAt c l) ≤ l.length
  | [] => by simp [cutAt, tot]
  | x :: l => by
    have ih := tot_cut c l
    by_cases h : x = c
    · subst h
      rw [cutAt_self]
      simp [tot] at ih ⊢
      omega
    · obtain ⟨p, ps, h1, h2⟩ := cutAt_cons c x l h
      rw [h1] at ih
      rw [h2]
      simp [tot] at ih ⊢
      omega
theorem cut_len (c : UInt8) (l : Tx) : (cutAt c l).length ≤ l.length + 1 := by
  rw [cutAt_length]
  have := List.count_le_length (a := c) (l := l)
  omega
theorem lineInfo : (Tryz.prog.info? 57).map (fun i => (i.zero, i.size, i.bytes)) = some (some (.agg #[.int .i64 0, .string ⟨#[]⟩]), 2, 24) := by kernel_rfl
/-- A slice of strings, at its place k. -/
theorem txcells_at {w : World} {g : Nat} {ps : List Tx} {e : TypeId} {fr : Nat × Nat} (h : w.heap[g]? = some (.cells (ps.map txC).toArray e fr)) (k : Nat) (hk : k < ps.length) : w.cell? { block := g, off := k } = some (.string (str ps[k])) := by
  have := World.news_of_block (cs := (ps.map txC).toArray) h k (txC ps[k]) (by simp [List.getElem?_eq_getElem hk])
  have e : (⟨g, 0, none⟩ : Addr).add k = ⟨g, k, none⟩ := by
    unfold Addr.add
    split
    · subst_vars
      rfl
    · simp
  rw [e] at this
  exact this
set_option maxHeartbeats 1000000 in
set_option maxRecDepth 100000 in
theorem whole_any (l : Tx) (w : World) (hl : l.length ≤ 65536) (hm : Mx w) :
    Calls Tryz.prog 32 #[.string (str l)] w fun e w' => ∃ v, e = .returned v ∧ RowL w' v (whole l) ∧ Below w.heap.size w w' := by
  obtain ⟨ps, hps⟩ : ∃ ps, cutAt 10 (l ++ [10]) = ps := ⟨_, rfl⟩
  have hlen : (l ++ [10]).length ≤ 65537 := by rw [List.length_append]; exact Nat.succ_le_succ hl
  have hN : ps.length ≤ 65538 := by rw [← hps]; exact Nat.le_trans (cut_len 10 _) (by omega)
  have hT : tot ps ≤ 65537 := by rw [← hps]; exact Nat.le_trans (tot_cut 10 _) hlen
  have HW : Hid (jn ps 0 1 [] = whole l) := by unfold Hid whole; rw [hps]
  have HSp := Lib.hid (fun W sep hsep hm => libSplit_any (l ++ [10]) sep W hsep (by omega) hm)
  rw [hps] at HSp
  have HJ := Lib.hid (str_append l [10])
  have hsz : (str l).size ≤ 65536 := hl
  obtain ⟨N, hNe⟩ : ∃ N, ps.length = N := ⟨_, rfl⟩
  rw [hNe] at hN HSp
  have HN := Lib.hid (And.intro hNe hT)
  have HM := Lib.hid hm
  obtain ⟨R, hR⟩ : ∃ R, whole l = R := ⟨_, rfl⟩
  rw [hR] at HW ⊢
  obtain ⟨S, hS⟩ : ∃ S, str l = S := ⟨_, rfl⟩
  rw [hS] at HJ hsz ⊢
  clear hm hlen hT hNe hps hl hR hS
  go_enter Tryz.func32, Tryz.ntmps32
  go_wp2_with fail
  have hB0 : Bd w.heap.size w.heap.size [] (w.alloc (.cells #[.pointer none, .slice none 0 0] 80)) := Lib.IsBuilderF.of (Lib.fresh_isBuilder 80 5 w)
  have hb0 : Below w.heap.size w (w.alloc (.cells #[.pointer none, .slice none 0 0] 80)) := (Below.refl _ w).alloc (Nat.le_refl _) _
  have hcall := HSp.out (w.alloc (.cells #[.pointer none, .slice none 0 0] 80)) (str [10]) rfl (HM.out.below hb0)
  rw [← HJ.out] at hcall
  refine hcall.mono ?_
  clear hcall
  rintro e w2 ⟨rfl, hw2⟩
  have HW2 : Hid (Below w.heap.size w w2 ∧ Bd w.heap.size w.heap.size [] w2 ∧ w2.heap[w.heap.size + 1]? = some (.cells (ps.map txC).toArray 9 (0, 0))) := by
    unfold Hid
    subst hw2
    refine ⟨hb0.alloc hb0.size _, hB0.alloc _, ?_⟩
    have := (MapKept.heap_alloc (w.alloc (.cells #[.pointer none, .slice none 0 0] 80)) (.cells (ps.map txC).toArray 9)).1
    rw [World.size_alloc] at this
    exact this
  clear hw2 hB0 hb0
  rw [World.size_alloc]
  go_wp2_with fail
  go_loopw [3, 5, 14] (fun o a i wr => ∃ (k at_ : Nat) (T : Tx) (acc : List (Nat × Tx)), i = .int .i64 k ∧ k ≤ N ∧ a = .int .i64 at_ ∧ T.length + tot (ps.drop k) ≤ 65537 ∧ acc.length ≤ k ∧ wr.ownsRow w.heap.size 57 2 o acc.length (acc.flatMap lnCells) ∧ Bd w.heap.size w.heap.size T wr ∧ Below w.heap.size w wr ∧ wr.heap[w.heap.size + 1]? = some (.cells (ps.map txC).toArray 9 (0, 0)) ∧ acc ++ jn (ps.drop k) k at_ T = R) (fun _ _ i _ => N - (intOf i).toNat)
  case atStart => exact ⟨0, 1, [], [], rfl, Nat.zero_le _, rfl, by rw [List.drop_zero, List.length_nil, Nat.zero_add]; exact HN.out.2, Nat.le_refl _, World.ownsRow_nil _ _ _ _, HW2.out.2.1, HW2.out.1, HW2.out.2.2, HW.out⟩
  case round =>
    obtain ⟨k, at_, T, acc, rfl, hk, rfl, hTl, hA, ho, hbd, hb, hsp, hd⟩ := hrel
    have HK := Lib.hid (And.intro ho (And.intro hbd (And.intro hb (And.intro hsp (And.intro hd (And.intro hTl hA))))))
    clear ho hbd hb hd hTl
    rcases Nat.lt_or_ge k N with hlt | hge
    · have hkl : k < ps.length := by rw [HN.out.1]; exact hlt
      obtain ⟨p, hp⟩ : ∃ p, ps[k] = p := ⟨_, rfl⟩
      have hdr : ps.drop k = p :: ps.drop (k + 1) := by rw [List.drop_eq_getElem_cons hkl, hp]
      have hcell := txcells_at hsp k hkl
      rw [hp] at hcell
      have hTp : T.length + p.length + tot (ps.drop (k + 1)) ≤ 65537 := by
        have := HK.out.2.2.2.2.2.1
        rw [hdr] at this
        unfold tot at this ⊢
        rw [List.map_cons, List.sum_cons] at this
        omega
      have HD := Lib.hid (And.intro hdr hTp)
      have HSu := Lib.hid (fun W q hq => libSuf_any p q W hq (by omega))
      have q0 : (0 : Int) ≤ k := by omega
      have q1 : (k : Int) < N := by omega
      have hk6 : k ≤ 65538 := by omega
      have HP : Hid (Value.string (str p) = txC p) := rfl
      have HS' : Hid (str p = str p) := rfl
      obtain ⟨P', hP'⟩ : ∃ P', str p = P' := ⟨_, rfl⟩
      rw [hP'] at hcell HSu
      clear HS' HP hP' hdr hTp hsp hp
      cases hg : goes p
      · have HG := Lib.hid hg
        rw [hg] at HSu
        clear hg
        have HWr := Lib.hid (fun W h => bdWrite w.heap.size w.heap.size T p p.length W rfl h (by have := HD.out.2; omega))
        have HSs := Lib.hid (fun W h => bdString w.heap.size w.heap.size (T ++ p) W h)
        rw [if_neg (by simp)] at HSu
        obtain ⟨X, hX⟩ : ∃ X, str p = X := ⟨_, rfl⟩
        obtain ⟨Y, hY⟩ : ∃ Y, str (T ++ p) = Y := ⟨_, rfl⟩
        rw [hX] at HSu HWr
        rw [hY] at HSs
        have HY := Lib.hid hY
        clear hX hY
        go_wp2_with fail
        refine (HSu.out _ _ rfl).mono ?_
        rintro e w' ⟨rfl, rfl⟩
        go_wp2_with fail
        refine (HWr.out _ HK.out.2.1 HK.out.2.2.1.size).mono ?_
        rintro e w3 ⟨v, rfl, hbd3, hk3⟩
        obtain ⟨_, p0, v0, _, hblk⟩ := HK.out.2.1.block
        have H3 := Lib.hid (And.intro hbd3 (And.intro (HK.out.2.2.1.trans hk3.1) (And.intro (own_beside HK.out.1 hk3 hblk (by decide) (by decide)) (block_beside HK.out.2.2.2.1 hk3 (by omega) (by decide)))))
        clear hbd3 hk3 hblk
        go_wp2_with fail
        refine (HSs.out _ H3.out.1 H3.out.2.1.size).mono ?_
        rintro e w4 ⟨rfl, hbd4, hk4⟩
        obtain ⟨_, p1, v1, _, hblk⟩ := H3.out.1.block
        have H4 := Lib.hid (And.intro hbd4 (And.intro (H3.out.2.1.trans hk4.1) (And.intro (own_beside H3.out.2.2.1 hk4 hblk (by decide) (by decide)) (block_beside H3.out.2.2.2 hk4 (by omega) (by decide)))))
        clear hbd4 hk4 hblk H3
        go_wp2_with
          (at_builtin
           refine wpList_appL rfl (.tmp 27) (.tmp 31) Tryz.underlying49 lineInfo rfl w.heap.size u3 acc.length acc rfl (H4.out.2.2.1.alloc _) w4.heap.size (at_, T ++ p) rfl (by rw [HY.out]; exact (MapKept.heap_alloc w4 (.cells #[.int .i64 at_, .string Y] 57)).1) (by omega) (by rw [World.size_alloc]; have := H4.out.2.1.size; omega) ?_)
        intro v' w5 ho hgr _
        have H5 : Hid (w5.ownsRow w.heap.size 57 2 v' (acc.length + 1) ((acc ++ [(at_, T ++ p)]).flatMap lnCells) ∧ Bd w.heap.size w.heap.size (T ++ p) w5 ∧ Below w.heap.size w w5 ∧ w5.heap[w.heap.size + 1]? = some (.cells (ps.map txC).toArray 9 (0, 0))) := by
          have hX := H4.out.2.2.1.alloc (.cells #[.int .i64 at_, .string Y] 57)
          have hlt5 : w.heap.size + 1 < w4.heap.size := (Array.getElem?_eq_some_iff.1 H4.out.2.2.2).1
          have hs5 : (w4.alloc (.cells #[.int .i64 at_, .string Y] 57)).heap[w.heap.size + 1]? = some (.cells (ps.map txC).toArray 9 (0, 0)) := (Below.heap_alloc _ _ _ hlt5).trans H4.out.2.2.2
          refine ⟨by rw [lncat_snoc]; exact ho, (H4.out.1.alloc _).grown hgr (own_row hX (by decide) (by decide)), (H4.out.2.1.alloc H4.out.2.1.size _).grown hgr (by rw [World.size_alloc]; have := H4.out.2.1.size; omega) (fun k hk => (hX.lt k hk).1), ?_⟩
          rw [hgr.block (w.heap.size + 1) (by rw [World.size_alloc]; omega) (row_ne hX hs5 (by decide))]
          exact hs5
        clear ho hgr H4
        have HRe := Lib.hid (bdReset w.heap.size w.heap.size (T ++ p) w5 H5.out.2.1)
        go_wp2_with fail
        refine HRe.out.mono ?_
        rintro e w6 ⟨rfl, hbd6, hk6'⟩
        obtain ⟨_, p1, v1, _, hblk⟩ := H5.out.2.1.block
        have H6 := Lib.hid (And.intro hbd6 (And.intro (H5.out.2.2.1.trans hk6'.1) (And.intro (own_beside H5.out.1 hk6' hblk (by decide) (by decide)) (block_beside H5.out.2.2.2 hk6' (by omega) (by decide)))))
        clear hbd6 hk6' hblk
        go_wp2_with fail
        refine ⟨⟨k + 1, k + 2, [], acc ++ [(at_, T ++ p)], by go_num, hlt, by go_num, ?_, by rw [List.length_append]; exact Nat.add_le_add_right hA 1, ?_, H6.out.1, H6.out.2.1, H6.out.2.2.2, ?_⟩, by simp [intOf]; omega⟩
        · have := HD.out.2
          rw [List.length_nil]
          omega
        · rw [List.length_append]
          exact H6.out.2.2.1
        · have h2 := HK.out.2.2.2.2.1
          rw [HD.out.1, jn, HG.out, if_neg (by simp)] at h2
          rw [List.append_assoc]
          exact h2
      · have HG := Lib.hid hg
        rw [hg, if_pos rfl] at HSu
        clear hg
        have hdl : p.dropLast.length ≤ p.length := by rw [List.length_dropLast]; exact Nat.sub_le _ _
        have HWr := Lib.hid (fun W h => bdWrite w.heap.size w.heap.size T p.dropLast p.dropLast.length W rfl h (by have := HD.out.2; omega))
        have HL := Lib.hid hdl
        obtain ⟨X, hX⟩ : ∃ X, str p.dropLast = X := ⟨_, rfl⟩
        rw [hX] at HSu HWr
        clear hX hdl
        go_wp2_with fail
        refine (HSu.out _ _ rfl).mono ?_
        rintro e w' ⟨rfl, rfl⟩
        go_wp2_with fail
        refine (HWr.out _ HK.out.2.1 HK.out.2.2.1.size).mono ?_
        rintro e w3 ⟨v, rfl, hbd3, hk3⟩
        obtain ⟨_, p0, v0, _, hblk⟩ := HK.out.2.1.block
        have H3 := Lib.hid (And.intro hbd3 (And.intro (HK.out.2.2.1.trans hk3.1) (And.intro (own_beside HK.out.1 hk3 hblk (by decide) (by decide)) (block_beside HK.out.2.2.2.1 hk3 (by omega) (by decide)))))
        clear hbd3 hk3 hblk
        go_wp2_with fail
        refine ⟨⟨k + 1, at_, T ++ p.dropLast, acc, by go_num, hlt, rfl, ?_, by omega, H3.out.2.2.1, H3.out.1, H3.out.2.1, H3.out.2.2.2, ?_⟩, by simp [intOf]; omega⟩
        · have := HD.out.2
          have h3 := HL.out
          rw [List.length_append]
          omega
        · have h2 := HK.out.2.2.2.2.1
          rw [HD.out.1, jn, HG.out, if_pos rfl] at h2
          exact h2
    · obtain rfl : k = N := by omega
      have q1 : ¬ ((k : Int) < k) := by omega
      clear hsp
      go_wp2_with fail
      go_ret
      have h2 := HK.out.2.2.2.2.1
      rw [List.drop_eq_nil_of_le (by rw [HN.out.1]; exact Nat.le_refl _), jn, List.append_nil] at h2
      refine ⟨_, rfl, ?_, HK.out.2.2.1⟩
      rw [← h2]
      exact RowL.owned rfl HK.out.1
end Go.Proofs.YtbeehedppofpnaaGreatDoor

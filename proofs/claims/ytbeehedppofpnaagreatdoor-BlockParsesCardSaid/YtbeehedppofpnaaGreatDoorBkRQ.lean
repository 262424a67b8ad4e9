/- Contract: the document's Parse: its walk. -/
import Derived.Test.YtbeehedppofpnaaGreatDoorBkRP
namespace Go.Proofs.YtbeehedppofpnaaGreatDoor
open Go.RowKit Go.Maps

theorem fst_take (t : Tx) : t.take (fst9 t).length = fst9 t := by
  have h := congrArg (List.take (fst9 t).length) (fst_snd t)
  rw [List.take_left] at h
  exact h.symm
def stK (out : List Bk) (at_ : Nat) : Option Tx → Nat × Option Bk
  | none => (3, none)
  | some k => if wordT k = false then (11, none) else if 1024 ≤ out.length then (10, none) else (0, some (at_, k, []))
theorem st9_none (out : List Bk) (at_ : Nat) (t : Tx) : st9 out none (at_, t) = ((stK out at_ (headT t)).1, out, (stK out at_ (headT t)).2) := by
  unfold st9 stB stK
  cases headT t <;> rfl
/-- What the document's Parse answers. -/
def TQ (R : List Bk × Nat × Nat) (w : World) (e : Ending) (w' : World) : Prop :=
  ∃ v, e = .returned (.tuple #[v, .int .i64 (R.2.1 : Int), .int .i64 (R.2.2 : Int)]) ∧ RowB w' v (R.1.map iB) ∧ Below w.heap.size w w'
theorem tq_no {w w' : World} {R : List Bk × Nat × Nat} {n k : Nat} (hR : ([], n, k) = R) (h : Below w.heap.size w w') : TQ R w (.returned (.tuple #[.slice none 0 0, .int .i64 (n : Int), .int .i64 (k : Int)])) w' := by
  subst hR
  exact ⟨_, rfl, RowB.nil w', h⟩
theorem tq_all {w w' : World} {R : List Bk × Nat × Nat} {L : List Bk} {v : Value} (hR : (L, 0, 0) = R) (hv : RowB w' v (L.map iB)) (h : Below w.heap.size w w') : TQ R w (.returned (.tuple #[v, .int .i64 0, .int .i64 0])) w' := by
  subst hR
  exact ⟨_, rfl, hv, h⟩
set_option maxHeartbeats 8000000 in
set_option maxRecDepth 100000 in
theorem refParse_any (l : Tx) (w : World) (hl : l.length ≤ 9223372036854775807) :
    Calls Tryz.prog 8 #[.string (str l)] w (TQ (parseT l) w) := by
  have HLn := Lib.hid (refLines_any l w hl)
  have HR : Hid (parseT l = if (ans l).2.2 ≠ 0 then ([], (ans l).2.1, (ans l).2.2) else prs (ans l).1 [] none) := rfl
  have HSo := Lib.hid (ans_solid l)
  have hL6 := ans_len l
  obtain ⟨R, hR⟩ : ∃ R, parseT l = R := ⟨_, rfl⟩
  rw [hR] at HR ⊢
  obtain ⟨An, hAn⟩ : ∃ An, ans l = An := ⟨_, rfl⟩
  rw [hAn] at HLn HR HSo hL6
  clear hR hAn hl
  obtain ⟨L, la, lc⟩ := An
  dsimp only at *
  generalize str l = S at *
  obtain ⟨n, hn⟩ : ∃ n, L.length = n := ⟨_, rfl⟩
  rw [hn] at hL6
  have HN := Lib.hid hn
  clear hn
  unfold TR at HLn
  by_cases hc : lc = 0
  · rw [if_neg (by rw [hc]; simp)] at HR
    have hlc : ((lc : Int) == 0) = true := by simp [hc]
    have hlc' : (lc : Int) = 0 := by omega
    clear hc
    go_enter Tryz.func8, Tryz.ntmps8
    go_wp2_with fail
    refine HLn.out.mono ?_
    rintro e w1 ⟨v, rfl, ⟨A, c, rfl, hc1, hc2, hrd⟩, hb⟩
    dsimp only at hrd hc1 ⊢
    rw [HN.out] at hc1 ⊢
    have HH := Lib.hid (And.intro hrd hb)
    clear hrd hb
    go_wp2_with fail
    clear hlc hlc'
    go_loopw [8, 9, 10] (fun vo op i wr => ∃ k : Nat, i = .int .i64 k ∧ k ≤ n ∧ Below w1.heap.size w1 wr ∧ ∃ out cur, op = .bool cur.isSome ∧ Ok9 out cur ∧ Rs9 wr w1.heap.size vo out cur ∧ prs (L.drop k) out cur = R) (fun _ _ i _ => n - (intOf i).toNat)
    case atStart => exact ⟨0, rfl, Nat.zero_le _, Below.refl _ _, [], none, rfl, Nat.zero_le _, ⟨[], rfl, Bld.nil _ _ _ _ _⟩, HR.out.symm⟩
    case round =>
      obtain ⟨k, rfl, hk, hb, out, cur, rfl, hok, hrd, hp⟩ := hrel
      obtain ⟨wo, hwo⟩ : ∃ x, x = wr := ⟨_, rfl⟩
      subst hwo
      obtain ⟨vo, hvo⟩ : ∃ x, x = u8 := ⟨_, rfl⟩
      subst hvo
      rcases Nat.lt_or_ge k n with hlt | hge
      · have hkl : k < L.length := by rw [HN.out]; exact hlt
        obtain ⟨ad, X, rfl, hX, k0, k1⟩ := (HH.out.1.below hb).two k hkl
        obtain ⟨p, hpe⟩ : ∃ p, L[k] = p := ⟨_, rfl⟩
        have hdr : L.drop k = p :: L.drop (k + 1) := by rw [List.drop_eq_getElem_cons hkl, hpe]
        rw [hdr, prs_st9] at hp
        have hsol : Solid p.2 := HSo.out p (by rw [← hpe]; exact List.getElem_mem hkl)
        rw [hpe] at k0 k1
        obtain ⟨pa, pt⟩ := p
        dsimp only at k0 k1 hsol
        have hokn := ok_step (p := (pa, pt)) hok
        have hal := (Below.refl wo.heap.size wo).alloc (Nat.le_refl _) (.cells #[.int .i64 (pa : Int), .string (str pt)] 64)
        have hbl := (MapKept.heap_alloc wo (.cells #[.int .i64 (pa : Int), .string (str pt)] 64)).1
        have hbw := hb.alloc hb.size (.cells #[.int .i64 (pa : Int), .string (str pt)] 64)
        have hrd1 := hrd.below hal
        have q0 : (0 : Int) ≤ k := by omega
        have q1 : (k : Int) < n := by omega
        have hlen := hsol.2.2
        obtain ⟨T, hT⟩ : ∃ T, str pt = T := ⟨_, rfl⟩
        rw [hT] at k1 hal hbl hbw hrd1
        have HT := Lib.hid hT
        obtain ⟨w2, hw2⟩ : ∃ x, wo.alloc (.cells #[.int .i64 (pa : Int), .string T] 64) = x := ⟨_, rfl⟩
        rw [hw2] at hal hbl hbw hrd1
        have HB := Lib.hid (And.intro hbw hbl)
        have HO := Lib.hid (And.intro hokn hp)
        clear hokn hp hbw hal hdr hpe hb hrd hT
        cases cur with
        | none =>
          obtain ⟨Z, hzs, hbd⟩ := hrd1
          obtain ⟨A8, c8, rfl, hc81, hc82, _, _, _⟩ := owns_formk hbd.own
          obtain ⟨z, hz⟩ : ∃ z, Z.length = z := ⟨_, rfl⟩
          rw [hz] at hc81 hbd
          have hzo : z = out.length := by
            have := congrArg List.length hzs
            simp at this
            omega
          rw [hz]
          have hz10 : z ≤ 1024 := by rw [hzo]; exact hok
          have HZ := Lib.hid (And.intro hzs (And.intro hbd (And.intro hz hzo)))
          have HHd := Lib.hid (fun W => refHead_any pt W (by omega))
          rw [HT.out] at HHd
          obtain ⟨hp0, hp1⟩ := HO.out
          obtain ⟨hh, hhe⟩ : ∃ hh, headT pt = hh := ⟨_, rfl⟩
          have hstB := st9_none out pa pt
          rw [hhe] at hstB
          rw [hhe] at HHd
          have HHe := Lib.hid hhe
          clear hzs hbd hz hzo hok hhe HO
          have l0 := cell9_blk HB.out.2 0 (v := .int .i64 (pa : Int)) rfl
          have l1 := cell9_blk HB.out.2 1 (v := .string T) rfl
          cases hh with
          | none =>
            unfold stK at hstB
            dsimp only at hstB
            rw [hstB] at hp1
            dsimp only at hp1
            rw [if_neg (by decide)] at hp1
            clear hstB
            have HP := Lib.hid hp1
            clear hp0 hp1
            go_wp2_with fail
            refine (HHd.out _).mono ?_
            rintro e w' ⟨rfl, rfl⟩
            go_wp2_with fail
            go_quiet (fail)
            go_wp2_with fail
            go_ret3
            exact tq_no HP.out (HH.out.2.trans (((HB.out.1).trans (below_dr _ _)).mono HH.out.2.size))
          | some kd =>
            unfold stK at hstB
            dsimp only at hstB
            have hkl9 : kd.length ≤ 4096 := by
              have h1 := head_kind hsol
              rw [HHe.out] at h1
              have h2 := kind_len pt
              split at h1
              · cases h1
              · injection h1 with h1
                rw [h1]
                omega
            have HW := Lib.hid (fun W => refWord_any kd W (by omega))
            cases hw : wordT kd
            · rw [if_pos hw] at hstB
              rw [hstB] at hp1
              dsimp only at hp1
              rw [if_neg (by decide)] at hp1
              clear hstB
              rw [hw] at HW
              have HP := Lib.hid hp1
              clear hp0 hp1 hw
              go_wp2_with fail
              refine (HHd.out _).mono ?_
              rintro e w' ⟨rfl, rfl⟩
              dsimp only [Option.getD_some, Option.isSome_some]
              go_wp2_with fail
              with_reducible refine (HW.out _).mono ?_
              rintro e w3 ⟨rfl, hb3⟩
              have l0' := cell9_below l0 hb3
              have HB3 := Lib.hid hb3
              clear hb3 l0 l1
              go_wp2_with fail
              go_quiet (fail)
              go_wp2_with fail
              go_ret3
              exact tq_no HP.out (HH.out.2.trans ((HB.out.1.trans ((HB3.out.trans (below_dr _ _)).mono HB.out.1.size)).mono HH.out.2.size))
            · rw [if_neg (by rw [hw]; simp)] at hstB
              rw [hw] at HW
              by_cases h10 : 1024 ≤ out.length
              · rw [if_pos h10] at hstB
                rw [hstB] at hp1
                dsimp only at hp1
                rw [if_neg (by decide)] at hp1
                clear hstB
                have hzz : z = 1024 := by have := HZ.out.2.2.2; omega
                have d : (1024 : Int) ≤ z := by omega
                have HP := Lib.hid hp1
                clear hp0 hp1 hw
                go_wp2_with fail
                refine (HHd.out _).mono ?_
                rintro e w' ⟨rfl, rfl⟩
                dsimp only [Option.getD_some, Option.isSome_some]
                go_wp2_with fail
                with_reducible refine (HW.out _).mono ?_
                rintro e w3 ⟨rfl, hb3⟩
                have l0' := cell9_below l0 hb3
                have HB3 := Lib.hid hb3
                clear hb3 l0 l1
                go_wp2_with fail
                go_quiet (fail)
                go_wp2_with fail
                go_ret3
                exact tq_no HP.out (HH.out.2.trans ((HB.out.1.trans ((HB3.out.trans (below_dr _ _)).mono HB.out.1.size)).mono HH.out.2.size))
              · rw [if_neg h10] at hstB
                rw [hstB] at hp0 hp1
                dsimp only at hp0 hp1
                rw [if_pos rfl] at hp1
                clear hstB
                have d : ¬ (1024 : Int) ≤ z := by have := HZ.out.2.2.2; omega
                have HP := Lib.hid (And.intro (hp0 rfl) hp1)
                obtain ⟨K, hK⟩ : ∃ K, str kd = K := ⟨_, rfl⟩
                have HK := Lib.hid hK
                rw [hK] at HW
                clear hp0 hp1 hw h10
                go_wp2_with fail
                refine (HHd.out _).mono ?_
                rintro e w' ⟨rfl, rfl⟩
                dsimp only [Option.getD_some, Option.isSome_some]
                rw [hK]
                clear hK
                go_wp2_with fail
                with_reducible refine (HW.out _).mono ?_
                rintro e w3 ⟨rfl, hb3⟩
                have l0' := cell9_below l0 hb3
                have hbd3 := HZ.out.2.1.below hb3
                have HB3 := Lib.hid (And.intro hb3 hbd3)
                have hown3 := hbd3.own
                rw [HZ.out.2.2.1] at hown3
                obtain ⟨i0, hi0, hz0, hzz1, hzz2⟩ := info_parts rblkInfo
                have hsz3 : w1.heap.size ≤ w3.heap.size := Nat.le_trans HB.out.1.size hb3.size
                have HRr := Lib.hid (hown3.alloc (.cells #[.int .i64 (pa : Int), .string K, .slice none 0 0] 69))
                have HBZ := Lib.hid (show w1.heap.size ≤ (w3.alloc (.cells #[.int .i64 (pa : Int), .string K, .slice none 0 0] 69)).heap.size by rw [World.size_alloc]; omega)
                have HONE := Lib.hid (show ∀ u ∈ [Value.int .i64 (pa : Int), .string K, .slice none 0 0], u.oneCell' = true by
                  intro u hu
                  simp only [List.mem_cons, List.not_mem_nil, or_false] at hu
                  rcases hu with rfl | rfl | rfl <;> rfl)
                clear hb3 hbd3 hown3 l0 l1
                go_wp2_with
                  (at_builtin
                   refine wpList_appBk rfl (.tmp 60) (.tmp 65) Tryz.underlying31 hi0 hz0 hzz1 hzz2 rfl w1.heap.size (.slice A8 z c8) z (Z.flatMap bkC) rfl HRr.out w3.heap.size (.int .i64 (pa : Int)) (.string K) (.slice none 0 0) rfl (MapKept.heap_alloc w3 _).1 HONE.out (by omega) HBZ.out ?_)
                intro gb cap w4 hown4 hgrow4
                have hbg := beginR (at_ := pa) HK.out HZ.out.2.2.1 HZ.out.1 HB3.out.2 hgrow4 hown4 hsz3
                have HG := Lib.hid hbg
                clear hbg hown4 hgrow4 l0'
                go_wp2_with fail
                exact ⟨⟨k + 1, by go_num, hlt, (HB.out.1.trans (HB3.out.1.mono HB.out.1.size)).trans HG.out.1, out, some (pa, kd, []), rfl, HP.out.1, HG.out.2, HP.out.2⟩, by simp [intOf]; omega⟩
        | some b =>
          dsimp only [Option.isSome_some]
          obtain ⟨vF, B, Z, hi⟩ := hrd1
          obtain ⟨gb, cap, rfl, hgbl⟩ := hi.own.form (by omega)
          obtain ⟨AF, cF, rfl, hcF1, hcF2, _, _, _⟩ := owns_formk hi.last
          obtain ⟨z, hz⟩ : ∃ z, Z.length = z := ⟨_, rfl⟩
          obtain ⟨f, hf⟩ : ∃ f, b.2.2.length = f := ⟨_, rfl⟩
          rw [hz] at hi ⊢
          rw [hf] at hi hcF1
          have hzo : z ≤ 1024 := by
            have h1 := congrArg List.length hi.same
            have h2 := hok.1
            simp at h1
            omega
          have hf64 : f ≤ 64 := by rw [← hf]; exact hok.2
          have hd125 : (T.toList == [125]) = (pt == [125]) := by rw [← HT.out, str_toList]
          have l0 := cell9_blk HB.out.2 0 (v := .int .i64 (pa : Int)) rfl
          have l1 := cell9_blk HB.out.2 1 (v := .string T) rfl
          by_cases h125 : pt = [125]
          · have hst : st9 out (some b) (pa, pt) = (0, out ++ [b], none) := by unfold st9; simp only []; rw [if_pos h125]
            obtain ⟨hp0, hp1⟩ := HO.out
            rw [hst] at hp0 hp1
            dsimp only at hp0 hp1
            rw [if_pos rfl] at hp1
            have HP := Lib.hid (And.intro (hp0 rfl) (And.intro hp1 (closeR hi)))
            have hd' : (T.toList == [125]) = true := by rw [hd125]; simpa using h125
            have hd2 : T.toList = [125] := by simpa using hd'
            clear hp0 hp1 hst hd125 h125 hi hz hf hok HO l0
            go_wp2_with fail
            exact ⟨⟨k + 1, by go_num, hlt, HB.out.1, out ++ [b], none, rfl, HP.out.1, HP.out.2.2, HP.out.2.1⟩, by simp [intOf]; omega⟩
          · have hst : st9 out (some b) (pa, pt) = ((stF b (pa, pt)).1, out, some (stF b (pa, pt)).2) := by unfold st9; simp only []; rw [if_neg h125]
            have hstF : stF b (pa, pt) = if fst9 pt = defineT ∧ snd9 pt ≠ [] then (3, b) else if wordT (fst9 pt) = false then (11, b) else if hasN b (fst9 pt) = true then (7, b) else if 64 ≤ f then (10, b) else (0, (b.1, b.2.1, b.2.2 ++ [(pa, fst9 pt, trim (snd9 pt))])) := by
              unfold stF
              simp only [hf]
            have hd' : (T.toList == [125]) = false := by rw [hd125]; simpa using h125
            have hd2 : ¬ T.toList = [125] := by simpa using hd'
            obtain ⟨ln, hln⟩ : ∃ ln, pt.length = ln := ⟨_, rfl⟩
            obtain ⟨p, hpf⟩ : ∃ p, (fst9 pt).length = p := ⟨_, rfl⟩
            have hpl : p ≤ ln := by rw [← hpf, ← hln]; exact fst_len pt
            rw [hln] at hlen
            have hts : T.size = ln := by rw [← HT.out, ← hln]; rfl
            have hx1 : T.extract 0 p = str (fst9 pt) := by
              rw [← HT.out, str_cut, ← hpf, Nat.sub_zero, List.drop_zero, fst_take]
            have hx2 : T.extract p ln = str (snd9 pt) := by rw [← HT.out, ← hpf, ← hln, str_cut, snd_drop, List.take_of_length_le]; rw [← snd_drop, List.length_drop]; exact Nat.le_refl _
            have hr1 := fun W => slice_to T (str (fst9 pt)) p ln hts hpl (by omega) hx1 W
            have hr2 := fun W => slice_from T (str (snd9 pt)) p ln hts hpl (by omega) hx2 W
            have HTr := Lib.hid (fun W => refTrim_any (snd9 pt) W (by have := snd_len pt; omega))
            have HBk := Lib.hid (fun x W => refBlank9_any x W)
            have hsnd : (snd9 pt = [] ↔ p = ln) := by
              have h1 := congrArg List.length (fst_snd pt)
              rw [List.length_append, hpf, hln] at h1
              constructor
              · intro h2
                rw [h2] at h1
                simpa using h1
              · intro h2
                exact List.eq_nil_of_length_eq_zero (by omega)
            have HJ := Lib.hid (And.intro (fun j x r (h1 : j < p) (h2 : pt.drop j = x :: r) => fst_at (t := pt) (by rw [hpf]; exact h1) h2) (fun x r (h2 : pt.drop p = x :: r) => (show blk x = true by
              rw [← hpf, snd_drop] at h2
              rcases snd_head pt with h3 | ⟨x', r', h3, h4⟩
              · rw [h3] at h2; cases h2
              · rw [h3] at h2
                injection h2 with h2 _
                rw [← h2]; exact h4)))
            have HL2 := Lib.hid (And.intro hln hpf)
            have hwl : (fst9 pt).length ≤ 100000 := by omega
            have HWd := Lib.hid (fun W => refWord_any (fst9 pt) W hwl)
            have hfh := fnd_has b (fst9 pt)
            have hrow0 : RowF w2 (.slice AF f cF) (iB b).2.2 := RowF.owned (L := b.2.2.map iF) (by rw [List.length_map]) hi.last
            have hrowF : ∀ W, Below w2.heap.size w2 W → RowF W (.slice AF f cF) (iB b).2.2 := fun W hW => hrow0.below hW
            have HFd := Lib.hid (fun W (hW : Below w2.heap.size w2 W) => refFind_any (b.1 : Int) (str b.2.1) (.slice AF f cF) (iB b).2.2 (fst9 pt) W (by show (b.2.2.map iF).length ≤ _; rw [List.length_map, hf]; omega) (hrowF W hW))
            obtain ⟨hp0, hp1⟩ := HO.out
            rw [hst] at hp0 hp1
            dsimp only at hp0 hp1
            rw [hstF] at hp0 hp1
            have HI := Lib.hid (And.intro hi (And.intro hz (And.intro hf hgbl)))
            have HX2 := Lib.hid hsnd
            have hdF : ((str (fst9 pt)).toList == [100, 101, 102, 105, 110, 101]) = (fst9 pt == defineT) := by rw [str_toList]; rfl
            have hwX : (trim (snd9 pt)).length ≤ 4096 := Nat.le_trans (trim_len _) (Nat.le_trans (snd_len pt) (by omega))
            obtain ⟨F, hF⟩ : ∃ F, fst9 pt = F := ⟨_, rfl⟩
            obtain ⟨X9, hX9⟩ : ∃ X, trim (snd9 pt) = X := ⟨_, rfl⟩
            rw [hF] at hr1 HWd hfh HFd hdF hp0 hp1
            rw [hX9] at HTr hp0 hp1
            obtain ⟨sn, hsn⟩ : ∃ sn, snd9 pt = sn := ⟨_, rfl⟩
            rw [hsn] at hr2 HTr hp0 hp1 hsnd
            obtain ⟨SF, hSF⟩ : ∃ x, str F = x := ⟨_, rfl⟩
            obtain ⟨SX, hSX⟩ : ∃ x, str X9 = x := ⟨_, rfl⟩
            obtain ⟨SS, hSS⟩ : ∃ x, str sn = x := ⟨_, rfl⟩
            obtain ⟨SK, hSK⟩ : ∃ x, str b.2.1 = x := ⟨_, rfl⟩
            rw [hSF] at hr1 HWd HFd hdF
            rw [hSX] at HTr
            rw [hSS] at hr2 HTr
            rw [hSK] at HFd
            obtain ⟨fn, hfn⟩ : ∃ x, fndN F (iB b).2.2 0 = x := ⟨_, rfl⟩
            rw [hfn] at HFd hfh
            have HSt := Lib.hid (And.intro hSF (And.intro hSX (And.intro hSK hok)))
            have HPP := Lib.hid (And.intro hp0 hp1)
            have hdn := Lib.hid hdF
            have hnn := Lib.hid hfh
            have HO' := Lib.hid hsnd
            obtain ⟨ad9, had⟩ : ∃ ad, (⟨gb, 0, none⟩ : Addr) = ad := ⟨_, rfl⟩
            obtain ⟨N9, hN9⟩ : ∃ N, z + 1 = N := ⟨_, rfl⟩
            obtain ⟨KA, hKA⟩ : ∃ K, z * 3 = K := ⟨_, rfl⟩
            have hXA : ad9.add (z * 3) = ⟨gb, KA, none⟩ := by rw [← had, add_at0, hKA]
            have HXA := Lib.hid hKA
            clear hKA
            have HAD := Lib.hid (And.intro had hN9)
            have HCl : Hid (∀ W, Below w2.heap.size w2 W → W.cell? ⟨gb, KA, none⟩ = some (.int .i64 (b.1 : Int)) ∧ W.cell? ⟨gb, KA + 1, none⟩ = some (.string SK) ∧ W.cell? ⟨gb, KA + 2, none⟩ = some (.slice AF f cF) ∧ W.heap[wo.heap.size]? = some (.cells #[.int .i64 (pa : Int), .string T] 64 (0, 0))) := by
              intro W hW
              have ho := (hi.below hW).own
              rw [hz] at ho
              have hq : ∀ j u, j < 3 → (bkC (iB b, Value.slice AF f cF))[j]? = some u → ((Z ++ [(iB b, Value.slice AF f cF)]).flatMap bkC)[z * 3 + j]? = some u := fun j u hj hu => by rw [← hz, bkcat_last Z _ j hj]; exact hu
              rw [← HXA.out]
              refine ⟨(ho.cellAt (z * 3) (by omega)).trans (hq 0 _ (by omega) rfl), (ho.cellAt (z * 3 + 1) (by omega)).trans (hq 1 _ (by omega) (by rw [← hSK]; rfl)), (ho.cellAt (z * 3 + 2) (by omega)).trans (hq 2 _ (by omega) rfl), (hW.block _ (blk9_lt HB.out.2)).trans HB.out.2⟩
            have n0 : (N9 : Int) - 1 = z := by omega
            have n1 : IntKind.i64.wrap ((N9 : Int) - 1) = (z : Int) := by rw [n0]; exact IntWalk.i64_in _ (by omega)
            have n2 : (z : Int) < N9 := by omega
            have n3 : (0 : Int) ≤ z := by omega
            rw [had, hN9]
            clear hp0 hp1 hst hstF hd125 h125 hi hz hf hok HO hx1 hx2 hln hpf hsnd hwl hrow0 hrowF hF hX9 hsn hSF hSX hSS hSK hfn hdF hfh had hN9
            go_wp2_with fail
            go_loopw [14] (fun nv wr => ∃ j : Nat, nv = .int .i64 j ∧ j ≤ p ∧ wr = w2) (fun nv _ => ln - (intOf nv).toNat)
            case atStart => exact ⟨0, rfl, Nat.zero_le _, rfl⟩
            case round =>
              obtain ⟨j, rfl, hj, rfl⟩ := hrel
              rcases Nat.lt_or_ge j p with hjp | hjp
              · obtain ⟨x, r, e1, e2, S', e3, hs', hx, hcx⟩ := at_facts pt ln j HL2.out.1 (by omega)
                obtain rfl : T = S' := (e3.symm.trans HT.out).symm
                have hbx := HJ.out.1 j x r hjp e1
                have HBx := Lib.hid (fun W => HBk.out x W)
                rw [hbx] at HBx
                have p0 : (0 : Int) ≤ j := by omega
                have p1 : (j : Int) < ln := by omega
                clear e1 e2 e3 hcx hbx
                go_wp2_with fail
                with_reducible refine (HBx.out _).mono ?_
                rintro e w' ⟨rfl, rfl⟩
                go_wp2_with fail
                exact ⟨⟨j + 1, by go_num, hjp, by trivial⟩, by simp [intOf]; omega⟩
              · obtain rfl : j = p := by omega
                by_cases hpln : j < ln
                case' pos =>
                  obtain ⟨x, r, e1, e2, S', e3, hs', hx, hcx⟩ := at_facts pt ln j HL2.out.1 hpln
                  obtain rfl : T = S' := (e3.symm.trans HT.out).symm
                  have hbx := HJ.out.2 x r e1
                  have HBx := Lib.hid (fun W => HBk.out x W)
                  rw [hbx] at HBx
                  have p0 : (0 : Int) ≤ j := by omega
                  have p1 : (j : Int) < ln := by omega
                  clear e1 e2 e3 hcx hbx
                  go_wp2_with fail
                  with_reducible refine (HBx.out _).mono ?_
                  rintro e w' ⟨rfl, rfl⟩
                  go_wp2_with fail
                case' neg =>
                  have p0 : (0 : Int) ≤ j := by omega
                  have p1 : ¬ (j : Int) < ln := by omega
                  go_wp2_with fail
                all_goals
                  have HL1 := Lib.hid l1
                  go_region_held3 (fun W => W.cell? ⟨wo.heap.size, 1, none⟩ = some (.string T)) (exact HL1.out) (first
                    | (go_at_call 23
                       refine (HTr.out _).mono ?_
                       rintro e w' ⟨rfl, rfl⟩))
                  clear hr1 hr2 l1
                  obtain ⟨x0, x1, x2, x3⟩ := HCl.out wr (Below.refl _ _)
                  clear x3
                  go_upto_region 27 with (fail)
                  have hb3 : Below wr.heap.size wr (wr.alloc (.cells #[.int .i64 (b.1 : Int), .string SK, .slice AF f cF] 69)).drew := by
                    have h := (Below.refl wr.heap.size wr).alloc (Nat.le_refl _) (.cells #[.int .i64 (b.1 : Int), .string SK, .slice AF f cF] 69)
                    exact ⟨h.os, h.tape, h.output, h.size, h.block⟩
                  have hq3 : (wr.alloc (.cells #[.int .i64 (b.1 : Int), .string SK, .slice AF f cF] 69)).drew.heap[wr.heap.size]? = some (.cells #[.int .i64 (b.1 : Int), .string SK, .slice AF f cF] 69 (0, 0)) := (MapKept.heap_alloc wr _).1
                  obtain ⟨w3, hw3⟩ : ∃ x, (wr.alloc (.cells #[.int .i64 (b.1 : Int), .string SK, .slice AF f cF] 69)).drew = x := ⟨_, rfl⟩
                  rw [hw3] at hb3 hq3 ⊢
                  have HW3 : Hid (∀ W, Below w3.heap.size w3 W → InR W w1.heap.size out b (.slice (some ⟨gb, 0, none⟩) (z + 1) cap) (.slice AF f cF) B Z ∧ W.cell? ⟨wo.heap.size, 0, none⟩ = some (.int .i64 (pa : Int)) ∧ W.cell? ⟨wo.heap.size, 1, none⟩ = some (.string T) ∧ W.heap[wr.heap.size]? = some (.cells #[.int .i64 (b.1 : Int), .string SK, .slice AF f cF] 69 (0, 0)) ∧ Below w.heap.size w W ∧ Below wr.heap.size wr W ∧ Below w1.heap.size w1 W) := by
                    intro W hW
                    have h1 := hb3.trans (hW.mono hb3.size)
                    have hln := (HCl.out W h1).2.2.2
                    have h2 := HB.out.1.trans (h1.mono HB.out.1.size)
                    exact ⟨HI.out.1.below h1, cell9_blk hln 0 rfl, cell9_blk hln 1 rfl, (hW.block _ (blk9_lt hq3)).trans hq3, HH.out.2.trans (h2.mono HH.out.2.size), h1, h2⟩
                  clear hb3 hq3 hw3 x0 x1 x2 l0 p1
                  obtain ⟨_, y0, y1, _⟩ := HW3.out w3 (Below.refl _ _)
                  by_cases h3 : F = defineT ∧ sn ≠ []
                  · have hne : j ≠ ln := fun h => h3.2 (HO'.out.2 h)
                    first
                      | (exfalso; omega)
                      | (have p2 : (j : Int) < ln := by omega
                         have hc1 : (SF.toList == [100, 101, 102, 105, 110, 101]) = true := by rw [hdn.out]; simpa using h3.1
                         have hc2 : SF.toList = [100, 101, 102, 105, 110, 101] := by simpa using hc1
                         have hP := HPP.out.2
                         rw [if_pos h3, if_neg (by simp)] at hP
                         have HP := Lib.hid hP
                         clear h3 hne hP
                         go_wp2_with fail
                         go_quiet (fail)
                         go_wp2_with fail
                         go_ret3
                         exact tq_no HP.out (HW3.out _ (below_dr _ _)).2.2.2.2.1)
                  · have hway : F ≠ defineT ∨ (F = defineT ∧ j = ln) := by
                      by_cases hF : F = defineT
                      · exact .inr ⟨hF, HO'.out.1 (Classical.byContradiction fun h => h3 ⟨hF, h⟩)⟩
                      · exact .inl hF
                    have hP0 := HPP.out
                    rw [if_neg h3] at hP0
                    have HP0 := Lib.hid hP0
                    clear hP0 h3
                    rcases hway with hF | ⟨hF, hjl⟩
                    case' inl =>
                      have hc1 : (SF.toList == [100, 101, 102, 105, 110, 101]) = false := by rw [hdn.out]; simpa using hF
                      have hc2 : ¬ SF.toList = [100, 101, 102, 105, 110, 101] := by simpa using hc1
                      clear hF
                    case' inr =>
                      have hc1 : (SF.toList == [100, 101, 102, 105, 110, 101]) = true := by rw [hdn.out]; simpa using hF
                      have hc2 : SF.toList = [100, 101, 102, 105, 110, 101] := by simpa using hc1
                      have p2 : ¬ (j : Int) < ln := by omega
                      first
                        | (exfalso; omega)
                        | (clear hF hjl)
                    all_goals
                      cases hw : wordT F
                      · have hP := HP0.out.2
                        rw [if_pos hw, if_neg (by simp)] at hP
                        have HP := Lib.hid hP
                        have HWd' := Lib.hid (HWd.out w3)
                        rw [hw] at HWd'
                        clear hw hP
                        go_wp2_with fail
                        with_reducible refine HWd'.out.mono ?_
                        rintro e w4 ⟨rfl, hb4⟩
                        obtain ⟨_, y0', _, _⟩ := HW3.out w4 hb4
                        have HB4 := Lib.hid hb4
                        clear hb4 y0 y1
                        go_wp2_with fail
                        go_quiet (fail)
                        go_wp2_with fail
                        go_ret3
                        exact tq_no HP.out (HW3.out _ (HB4.out.trans (below_dr _ _))).2.2.2.2.1
                      · have hP1 := HP0.out
                        rw [if_neg (by rw [hw]; simp)] at hP1
                        have HP1 := Lib.hid hP1
                        have HWd' := Lib.hid (HWd.out w3)
                        rw [hw] at HWd'
                        clear hw hP1
                        cases hh : hasN b F
                        · have hP2 := HP1.out
                          rw [if_neg (by rw [hh]; simp)] at hP2
                          have HP2 := Lib.hid hP2
                          have hfn1 := hnn.out
                          rw [hh] at hfn1
                          have hfn2 : ¬ (0 : Int) ≤ fn := by simpa using hfn1
                          clear hh hP2
                          by_cases h64 : 64 ≤ f
                          · have hP := HP2.out.2
                            rw [if_pos h64, if_neg (by simp)] at hP
                            have HP := Lib.hid hP
                            have d64 : (64 : Int) ≤ f := by omega
                            clear hP h64
                            go_wp2_with fail
                            with_reducible refine HWd'.out.mono ?_
                            rintro e w4 ⟨rfl, hb4⟩
                            obtain ⟨_, _, _, hq4, _, hb4', _⟩ := HW3.out w4 hb4
                            have u0 := cell9_blk hq4 0 (v := .int .i64 (b.1 : Int)) rfl
                            have u1 := cell9_blk hq4 1 (v := .string SK) rfl
                            have u2 := cell9_blk hq4 2 (v := .slice AF f cF) rfl
                            have HB4 := Lib.hid hb4
                            have HFd' := Lib.hid (HFd.out w4 hb4')
                            clear hb4 hq4 hb4' y0 y1
                            go_wp2_with fail
                            with_reducible refine HFd'.out.mono ?_
                            rintro e w5 ⟨rfl, hb5⟩
                            have hb5' := HB4.out.trans (hb5.mono HB4.out.size)
                            obtain ⟨_, y0', _, hq5, _, _, _⟩ := HW3.out w5 hb5'
                            have u2' := cell9_blk hq5 2 (v := .slice AF f cF) rfl
                            have HB5 := Lib.hid hb5'
                            clear hb5 hb5' hq5 u0 u1 u2
                            go_wp2_with fail
                            go_quiet (fail)
                            go_wp2_with fail
                            go_ret3
                            exact tq_no HP.out (HW3.out _ (HB5.out.trans (below_dr _ _))).2.2.2.2.1
                          · have hP := HP2.out
                            rw [if_neg h64] at hP
                            dsimp only at hP
                            rw [if_pos rfl] at hP
                            have HP := Lib.hid hP
                            have d64 : ¬ (64 : Int) ≤ f := by omega
                            clear hP h64
                            go_wp2_with fail
                            with_reducible refine HWd'.out.mono ?_
                            rintro e w4 ⟨rfl, hb4⟩
                            obtain ⟨_, _, _, hq4, _, hb4', _⟩ := HW3.out w4 hb4
                            have u0 := cell9_blk hq4 0 (v := .int .i64 (b.1 : Int)) rfl
                            have u1 := cell9_blk hq4 1 (v := .string SK) rfl
                            have u2 := cell9_blk hq4 2 (v := .slice AF f cF) rfl
                            have HB4 := Lib.hid hb4
                            have HFd' := Lib.hid (HFd.out w4 hb4')
                            clear hb4 hq4 hb4' y0 y1
                            go_wp2_with fail
                            with_reducible refine HFd'.out.mono ?_
                            rintro e w5 ⟨rfl, hb5⟩
                            have hb5' := HB4.out.trans (hb5.mono HB4.out.size)
                            obtain ⟨hi5, y0', _, hq5, _, _, hb15⟩ := HW3.out w5 hb5'
                            have u2' := cell9_blk hq5 2 (v := .slice AF f cF) rfl
                            have HB5 := Lib.hid (And.intro hb5' (And.intro hi5 (And.intro hq5 hb15)))
                            obtain ⟨i0, hi0, hz0, hzz1, hzz2⟩ := info_parts rfldInfo
                            have hlast5 := hi5.last
                            rw [HI.out.2.2.1] at hlast5
                            have HRr := Lib.hid (hlast5.alloc (.cells #[.int .i64 (pa : Int), .string SF, .string SX] 73))
                            have HBZ := Lib.hid (show B ≤ (w5.alloc (.cells #[.int .i64 (pa : Int), .string SF, .string SX] 73)).heap.size by rw [World.size_alloc]; have := hi5.low.2; omega)
                            have HONE := Lib.hid (show ∀ u ∈ [Value.int .i64 (pa : Int), .string SF, .string SX], u.oneCell' = true by
                              intro u hu
                              simp only [List.mem_cons, List.not_mem_nil, or_false] at hu
                              rcases hu with rfl | rfl | rfl <;> rfl)
                            clear hb5 hb5' hi5 hq5 hb15 hlast5 u0 u1 u2
                            go_wp2_with
                              (at_builtin
                               refine wpList_appBk rfl (.tmp 133) (.tmp 139) Tryz.underlying67 hi0 hz0 hzz1 hzz2 rfl B (.slice AF f cF) f ((b.2.2.map iF).flatMap fdC) rfl HRr.out w5.heap.size (.int .i64 (pa : Int)) (.string SF) (.string SX) rfl (MapKept.heap_alloc w5 _).1 HONE.out (by omega) HBZ.out ?_)
                            intro gF capF w6 hown6 hgrow6
                            have hfr := fieldR (at_ := pa) HSt.out.1 HSt.out.2.1 HB5.out.2.1 HI.out.2.1 HI.out.2.2.1 (by rw [HSt.out.2.2.1]; exact HB5.out.2.2.1) HB.out.1.size (show gb ≠ wr.heap.size by have := HI.out.2.2.2.2; omega) hgrow6 hown6
                            rw [HSt.out.2.2.1] at hfr
                            have v2 := cell9_blk hfr.1 2 (v := .slice AF f cF) rfl
                            have f2 := frz9_blk hfr.1 2
                            have HFr := Lib.hid hfr.2
                            clear hfr hown6 hgrow6 y0' u2'
                            go_upto_region 36 with (fail)
                            obtain ⟨w7, hw7⟩ : ∃ x, w6.setCell ⟨wr.heap.size, 2, none⟩ (.slice (some ⟨gF, 0, none⟩) (f + 1) capF) = x := ⟨_, rfl⟩
                            obtain ⟨q7, ⟨c70, c71, c72, c73⟩, hbe, hre⟩ := HFr.out w7 hw7
                            rw [hw7]
                            have z0 := cell9_blk q7 0 (v := .int .i64 (b.1 : Int)) rfl
                            have z1 := cell9_blk q7 1 (v := .string SK) rfl
                            have z2 := cell9_blk q7 2 (v := .slice (some ⟨gF, 0, none⟩) (f + 1) capF) rfl
                            rw [HXA.out] at c70 c71 c72 hbe hre
                            have f0 : w7.frozen? ⟨gb, KA, none⟩ = false := c73 _
                            have f1 : w7.frozen? ⟨gb, KA + 1, none⟩ = false := c73 _
                            have f2' : w7.frozen? ⟨gb, KA + 2, none⟩ = false := c73 _
                            have HE := Lib.hid (And.intro hbe hre)
                            clear v2 f2 hw7 q7 c73 hbe hre
                            go_wp2_with fail
                            obtain ⟨ea, en⟩ := HAD.out
                            subst ea en
                            exact ⟨⟨k + 1, by go_num, hlt, HB5.out.2.2.2.trans HE.out.1, out, some (b.1, b.2.1, b.2.2 ++ [(pa, F, X9)]), rfl, HP.out.1 trivial, HE.out.2, HP.out.2⟩, by simp [intOf]; omega⟩
                        · have hP := HP1.out.2
                          rw [if_pos hh, if_neg (by simp)] at hP
                          have HP := Lib.hid hP
                          have hfn1 := hnn.out
                          rw [hh] at hfn1
                          have hfn2 : (0 : Int) ≤ fn := by simpa using hfn1
                          clear hh hP
                          go_wp2_with fail
                          with_reducible refine HWd'.out.mono ?_
                          rintro e w4 ⟨rfl, hb4⟩
                          obtain ⟨_, _, _, hq4, _, hb4', _⟩ := HW3.out w4 hb4
                          have u0 := cell9_blk hq4 0 (v := .int .i64 (b.1 : Int)) rfl
                          have u1 := cell9_blk hq4 1 (v := .string SK) rfl
                          have u2 := cell9_blk hq4 2 (v := .slice AF f cF) rfl
                          have HB4 := Lib.hid hb4
                          have HFd' := Lib.hid (HFd.out w4 hb4')
                          clear hb4 hq4 hb4' y0 y1
                          go_wp2_with fail
                          with_reducible refine HFd'.out.mono ?_
                          rintro e w5 ⟨rfl, hb5⟩
                          have hb5' := HB4.out.trans (hb5.mono HB4.out.size)
                          obtain ⟨_, y0', _⟩ := HW3.out w5 hb5'
                          have HB5 := Lib.hid hb5'
                          clear hb5 hb5' u0 u1 u2
                          go_wp2_with fail
                          go_quiet (fail)
                          go_wp2_with fail
                          go_ret3
                          exact tq_no HP.out (HW3.out _ (HB5.out.trans (below_dr _ _))).2.2.2.2.1
      · obtain rfl : k = n := by omega
        have q1 : ¬ ((k : Int) < k) := by omega
        rw [List.drop_eq_nil_of_le (by rw [HN.out]; exact Nat.le_refl _)] at hp
        have HBz := Lib.hid (HH.out.2.trans (hb.mono HH.out.2.size))
        cases cur with
        | none =>
          dsimp only [Option.isSome_none]
          rw [prs] at hp
          obtain ⟨Z, hzs, hbd⟩ := hrd
          have hrow := hbd.rowB
          rw [hzs] at hrow
          have HP := Lib.hid (And.intro hp hrow)
          clear hp hrow hzs hbd hb hok
          go_wp2_with fail
          go_ret3
          exact tq_all HP.out.1 HP.out.2 HBz.out
        | some b =>
          dsimp only [Option.isSome_some]
          rw [prs] at hp
          obtain ⟨vF, B, Z, hi⟩ := hrd
          obtain ⟨gb, cap, rfl, _⟩ := hi.own.form (by omega)
          obtain ⟨z, hz⟩ : ∃ z, Z.length = z := ⟨_, rfl⟩
          have hzo : z ≤ 1024 := by
            have h1 := congrArg List.length hi.same
            have h2 := (show out.length < 1024 ∧ b.2.2.length ≤ 64 from hok).1
            simp at h1
            omega
          have hx : wo.cell? ⟨gb, z * 3 + 0, none⟩ = some (.int .i64 (b.1 : Int)) := by
            have ho := hi.own
            rw [hz] at ho
            have hq : ((Z ++ [(iB b, vF)]).flatMap bkC)[z * 3 + 0]? = some (.int .i64 (b.1 : Int)) := by rw [← hz]; exact bkcat_last Z (iB b, vF) 0 (by omega)
            exact (ho.cellAt (z * 3 + 0) (by omega)).trans hq
          obtain ⟨ad9, had⟩ : ∃ ad, (⟨gb, 0, none⟩ : Addr) = ad := ⟨_, rfl⟩
          obtain ⟨N9, hN9⟩ : ∃ N, z + 1 = N := ⟨_, rfl⟩
          obtain ⟨KA, hKA⟩ : ∃ K, z * 3 = K := ⟨_, rfl⟩
          have hXA : ad9.add (z * 3) = ⟨gb, KA, none⟩ := by rw [← had, add_at0, hKA]
          have hx' : wo.cell? ⟨gb, KA, none⟩ = some (.int .i64 (b.1 : Int)) := by rw [← hKA]; exact hx
          have n0 : (N9 : Int) - 1 = z := by omega
          have n1 : IntKind.i64.wrap ((N9 : Int) - 1) = (z : Int) := by rw [n0]; exact IntWalk.i64_in _ (by omega)
          have n2 : (z : Int) < N9 := by omega
          have n3 : (0 : Int) ≤ z := by omega
          rw [hz, had, hN9]
          have HP := Lib.hid hp
          clear hp hx hi hz had hN9 hKA hb hok
          go_wp2_with fail
          go_quiet (fail)
          go_wp2_with fail
          go_ret3
          exact tq_no HP.out (HBz.out.trans (below_dr _ _))
  · rw [if_pos hc] at HR
    have hlc : ((lc : Int) == 0) = false := beq_eq_false_iff_ne.2 (by omega)
    have hlc' : ¬ (lc : Int) = 0 := by omega
    clear hc hL6
    go_enter Tryz.func8, Tryz.ntmps8
    go_wp2_with fail
    refine HLn.out.mono ?_
    rintro e w1 ⟨v, rfl, _, hb⟩
    have HB := Lib.hid hb
    clear hb
    go_wp2_with fail
    go_ret3
    exact tq_no HR.out.symm HB.out
end Go.Proofs.YtbeehedppofpnaaGreatDoor

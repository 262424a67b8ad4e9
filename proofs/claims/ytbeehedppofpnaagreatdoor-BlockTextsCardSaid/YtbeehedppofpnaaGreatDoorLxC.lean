/- Contract: lex.Lines. -/
import Derived.Test.YtbeehedppofpnaaGreatDoorLxB
namespace Go.Proofs.YtbeehedppofpnaaGreatDoor
open Go.RowKit

theorem jn_len : ∀ (ps : List Tx) (i a : Nat) (t : Tx), (jn ps i a t).length ≤ ps.length
  | [], _, _, _ => Nat.le_refl _
  | p :: ps, i, a, t => by
    rw [jn]
    split
    · exact Nat.le_trans (jn_len ps _ _ _) (Nat.le_succ _)
    · exact Nat.succ_le_succ (jn_len ps _ _ _)
theorem jn_mem : ∀ (ps : List Tx) (i a : Nat) (t : Tx) (x : Nat × Tx), x ∈ jn ps i a t → x.2.length ≤ t.length + tot ps
  | p :: ps, i, a, t, x, h => by
    rw [jn] at h
    have e : tot (p :: ps) = p.length + tot ps := by simp [tot]
    rw [e]
    split at h
    · have := jn_mem ps _ _ _ x h
      rw [List.length_append, List.length_dropLast] at this
      omega
    · rcases List.mem_cons.1 h with rfl | h
      · simp only [List.length_append]
        omega
      · have := jn_mem ps _ _ _ x h
        rw [List.length_nil] at this
        omega
theorem whole_len (l : Tx) (h : l.length ≤ 65536) : (whole l).length ≤ 65538 := by
  have h1 : (l ++ [10]).length ≤ 65537 := by rw [List.length_append]; exact Nat.succ_le_succ h
  exact Nat.le_trans (jn_len _ _ _ _) (Nat.le_trans (cut_len 10 _) (by omega))
theorem whole_mem (l : Tx) (h : l.length ≤ 65536) (x : Nat × Tx) (hx : x ∈ whole l) : x.2.length ≤ 65537 := by
  have h1 : (l ++ [10]).length ≤ 65537 := by rw [List.length_append]; exact Nat.succ_le_succ h
  have := jn_mem _ _ _ _ x hx
  rw [List.length_nil, Nat.zero_add] at this
  exact Nat.le_trans this (Nat.le_trans (tot_cut 10 _) h1)
theorem owns_below8 {w w' : World} {base s : Nat} {e : TypeId} {v : Value} {n : Nat} {xs : List Value} (h : w.ownsRow base e s v n xs) (hb : Below w.heap.size w w') : w'.ownsRow base e s v n xs :=
  h.kept (row := none) ⟨hb.os, hb.tape, hb.output, hb.size, fun j hj _ => hb.block j hj⟩ (by cases v.ownBlock <;> simp)
/-- An error by its number; 0: none. -/
def errK (n : Int) : Value := .iface 24 (.int .i64 n)
def errE (k : Nat) : Value := if k = 0 then .nilIface else errK k
theorem errE_zero : errE 0 = .nilIface := if_pos rfl
theorem errE_two : errE 2 = errK 2 := if_neg (by omega)
theorem below_dr (w : World) (n : Nat) {B : Nat} : Below B w (w.drewN n) := ⟨rfl, rfl, rfl, Nat.le_refl _, fun _ _ => rfl⟩
/-- What Lines answers. -/
def TL (R : List (Nat × Tx) × Nat × Nat) (w : World) (e : Ending) (w' : World) : Prop :=
  ∃ v, e = .returned (.tuple #[v, .int .i64 R.2.1, errE R.2.2]) ∧ RowL w' v R.1 ∧ Below w.heap.size w w'
theorem tl_long {w w' : World} {R : List (Nat × Tx) × Nat × Nat} {n : Nat} (hR : ([], n, 2) = R) (h : Below w.heap.size w w') : TL R w (.returned (.tuple #[.slice none 0 0, .int .i64 n, errK 2])) w' := by
  subst hR
  exact ⟨_, rfl, RowL.nil w', h⟩
theorem tl_all {w w' : World} {R : List (Nat × Tx) × Nat × Nat} {L : List (Nat × Tx)} {v : Value} (hR : (L, 0, 0) = R) (hv : RowL w' v L) (h : Below w.heap.size w w') : TL R w (.returned (.tuple #[v, .int .i64 0, .nilIface])) w' := by
  subst hR
  exact ⟨_, rfl, hv, h⟩
theorem isEmpty_iff8 (l : Tx) : l.isEmpty = true ↔ l = [] := by cases l <;> simp
theorem scan_len : ∀ (r acc : List (Nat × Tx)), (scan acc r).1.length ≤ acc.length + r.length
  | [], acc => by simp [scan]
  | p :: r, acc => by
    rw [scan]
    split
    · simp
    · split
      · have := scan_len r acc
        simp only [List.length_cons]
        omega
      · have := scan_len r (acc ++ [(p.1, said p.2)])
        simp only [List.length_append, List.length_cons, List.length_nil] at this ⊢
        omega
theorem ans_len (l : Tx) : (ans l).1.length ≤ 1000000 := by
  unfold ans
  split
  · simp
  · rename_i h
    have h1 := scan_len (whole l) []
    have h2 := whole_len l (by omega)
    simp only [List.length_nil] at h1
    omega
set_option maxHeartbeats 1000000 in
set_option maxRecDepth 100000 in
theorem lines_any (l : Tx) (w : World) (hl : l.length ≤ 9223372036854775807) (hm : Mx w) :
    Calls Tryz.prog 15 #[.string (str l)] w (TL (ans l) w) := by
  by_cases hlong : 65536 < l.length
  · have HR : Hid (([], 0, 2) = ans l) := by unfold Hid ans; rw [if_pos hlong]
    have hsz : (str l).size = l.length := rfl
    obtain ⟨n, hn⟩ : ∃ n, l.length = n := ⟨_, rfl⟩
    rw [hn] at hsz hl hlong
    generalize ans l = R at *
    generalize str l = S at *
    clear hn hm
    have q : (65536 : Int) < n := by omega
    go_enter Tryz.func15, Tryz.ntmps15
    go_wp2_with fail
    go_ret3
    exact tl_long HR.out (Below.refl _ _)
  · have hs : l.length ≤ 65536 := by omega
    have HR : Hid (scan [] (whole l) = ans l) := by unfold Hid ans; rw [if_neg hlong]
    have HWh := Lib.hid (fun W h => whole_any l W hs h)
    have HLe := Lib.hid (whole_mem l hs)
    have hN := whole_len l hs
    have hsz : (str l).size = l.length := rfl
    obtain ⟨n, hn⟩ : ∃ n, l.length = n := ⟨_, rfl⟩
    rw [hn] at hsz hs
    have HM := Lib.hid hm
    generalize ans l = R at *
    generalize str l = S at *
    generalize whole l = Wh at *
    obtain ⟨N, hNe⟩ : ∃ N, Wh.length = N := ⟨_, rfl⟩
    rw [hNe] at hN
    have HN := Lib.hid hNe
    clear hn hm hl hlong hNe
    have q : ¬ ((65536 : Int) < n) := by omega
    go_enter Tryz.func15, Tryz.ntmps15
    go_wp2_with fail
    refine (HWh.out _ HM.out).mono ?_
    rintro e w1 ⟨v, rfl, ⟨A, c, rfl, hc1, hc2, hrd⟩, hb1⟩
    rw [HN.out] at hc1 ⊢
    have H1 := Lib.hid (And.intro hrd hb1)
    clear hrd hb1
    go_wp2_with fail
    go_loopw [5, 16] (fun o i wr => ∃ (k : Nat) (acc : List (Nat × Tx)), i = .int .i64 k ∧ k ≤ N ∧ acc.length ≤ k ∧ wr.ownsRow w1.heap.size 57 2 o acc.length (acc.flatMap lnCells) ∧ Below w1.heap.size w1 wr ∧ scan acc (Wh.drop k) = R) (fun _ i _ => N - (intOf i).toNat)
    case atStart => exact ⟨0, [], rfl, Nat.zero_le _, Nat.le_refl _, World.ownsRow_nil _ _ _ _, Below.refl _ _, HR.out⟩
    case round =>
      obtain ⟨k, acc, rfl, hk, hA, ho, hb, hd⟩ := hrel
      rcases Nat.lt_or_ge k N with hlt | hge
      · have hkl : k < Wh.length := by rw [HN.out]; exact hlt
        obtain ⟨ad, X, rfl, hX, k0, k1⟩ := (H1.out.1.below hb).two k hkl
        obtain ⟨p, hp⟩ : ∃ p, Wh[k] = p := ⟨_, rfl⟩
        have hdr : Wh.drop k = p :: Wh.drop (k + 1) := by rw [List.drop_eq_getElem_cons hkl, hp]
        rw [hdr, scan] at hd
        have hpl : p.2.length ≤ 65537 := HLe.out p (by rw [← hp]; exact List.getElem_mem hkl)
        rw [hp] at k0 k1
        have HSa := Lib.hid (fun W h => said_any p.2 W (by omega) h)
        have hTl : (said p.2).length ≤ 65537 := Nat.le_trans (said_len _) hpl
        have HK := Lib.hid (And.intro ho (And.intro hb hd))
        have q0 : (0 : Int) ≤ k := by omega
        have q1 : (k : Int) < N := by omega
        obtain ⟨at_, hat⟩ : ∃ a, p.1 = a := ⟨_, rfl⟩
        obtain ⟨P, hP⟩ : ∃ P, str p.2 = P := ⟨_, rfl⟩
        rw [hat] at k0
        rw [hP] at k1 HSa
        have HT := Lib.hid (And.intro hat hP)
        clear ho hb hd hdr hp hpl hat hP
        have HC : Hid (∀ W, Below (wr.alloc (.cells #[.int .i64 at_, .string P] 57)).heap.size (wr.alloc (.cells #[.int .i64 at_, .string P] 57)) W → W.heap[wr.heap.size]? = some (.cells #[.int .i64 at_, .string P] 57 (0, 0)) ∧ W.ownsRow w1.heap.size 57 2 u5 acc.length (acc.flatMap lnCells) ∧ Below w1.heap.size w1 W) := by
          intro W hW
          refine ⟨(hW.block _ (by rw [World.size_alloc]; exact Nat.lt_succ_self _)).trans (MapKept.heap_alloc wr (.cells #[.int .i64 at_, .string P] 57)).1, owns_below8 (HK.out.1.alloc _) hW, (HK.out.2.1.alloc HK.out.2.1.size _).trans (hW.mono (by rw [World.size_alloc]; exact Nat.le_succ_of_le HK.out.2.1.size))⟩
        have HMr : Hid (Mx (wr.alloc (.cells #[.int .i64 at_, .string P] 57))) := HM.out.below (H1.out.2.trans ((HK.out.2.1.alloc HK.out.2.1.size _).mono H1.out.2.size))
        obtain ⟨m, hm⟩ : ∃ m, (said p.2).length = m := ⟨_, rfl⟩
        have hszT : (str (said p.2)).size = m := hm
        rw [hm] at hTl
        have Hm := Lib.hid hm
        by_cases h4 : 4096 < m
        · have hd2 := HK.out.2.2
          rw [if_pos (by rw [Hm.out]; exact h4)] at hd2
          have HD := Lib.hid hd2
          generalize str (said p.2) = T at *
          clear hd2 hm
          have q2 : (4096 : Int) < m := by omega
          go_wp2_with fail
          refine (HSa.out _ HMr.out).mono ?_
          rintro e w2 ⟨rfl, hb2⟩
          obtain ⟨c0, c1, c2⟩ := HC.out w2 hb2
          have k00 : w2.cell? { block := wr.heap.size, off := 0 } = some (.int .i64 at_) := by rw [Lib.cell_of_heap c0]; rfl
          have HE := Lib.hid (And.intro c1 c2)
          clear c0 c1 c2 hb2
          go_wp2_with fail
          go_quiet (fail)
          go_wp2_with fail
          go_ret3
          have h2 := HD.out
          rw [HT.out.1] at h2
          exact tl_long h2 ((H1.out.2.trans (HE.out.2.mono H1.out.2.size)).trans (below_dr _ _))
        · have hd2 := HK.out.2.2
          rw [if_neg (by rw [Hm.out]; exact h4)] at hd2
          have q2 : ¬ ((4096 : Int) < m) := by omega
          cases hw : (said p.2).isEmpty
          · have hne : said p.2 ≠ [] := fun h => by rw [h] at hw; cases hw
            rw [if_neg hne] at hd2
            have HD := Lib.hid hd2
            have hT := str_ne8 hw
            have HTT : Hid (str (said p.2) = str (said p.2)) := rfl
            obtain ⟨T, hTT⟩ : ∃ T, str (said p.2) = T := ⟨_, rfl⟩
            rw [hTT] at hszT hT HSa
            have HTe := Lib.hid hTT
            clear hd2 hm h4 hw hne HTT hTT
            go_wp2_with fail
            refine (HSa.out _ HMr.out).mono ?_
            rintro e w2 ⟨rfl, hb2⟩
            obtain ⟨c0, c1, c2⟩ := HC.out w2 hb2
            have k00 : w2.cell? { block := wr.heap.size, off := 0 } = some (.int .i64 at_) := by rw [Lib.cell_of_heap c0]; rfl
            have HE := Lib.hid (And.intro c1 c2)
            clear c0 c1 c2 hb2
            go_wp2_with
              (at_builtin
               refine wpList_appL rfl (.tmp 31) (.tmp 36) Tryz.underlying49 lineInfo rfl w1.heap.size u5 acc.length acc rfl (HE.out.1.alloc _) w2.heap.size (at_, said p.2) rfl (by rw [HTe.out]; exact (MapKept.heap_alloc w2 (.cells #[.int .i64 at_, .string T] 57)).1) (by omega) (by rw [World.size_alloc]; have := HE.out.2.size; omega) ?_)
            intro v' w5 ho hgr _
            have H5 := Lib.hid (And.intro ho hgr)
            clear ho hgr
            go_wp2_with fail
            refine ⟨⟨k + 1, acc ++ [(at_, said p.2)], by go_num, hlt, by rw [List.length_append]; exact Nat.add_le_add_right hA 1, ?_, (HE.out.2.alloc HE.out.2.size _).grown H5.out.2 (by rw [World.size_alloc]; have := HE.out.2.size; omega) (fun k hk => (HE.out.1.lt k hk).1), ?_⟩, by simp [intOf]; omega⟩
            · rw [List.length_append, lncat_snoc]
              exact H5.out.1
            · have h2 := HD.out
              rw [HT.out.1] at h2
              exact h2
          · have he : said p.2 = [] := (isEmpty_iff8 _).1 hw
            rw [if_pos he] at hd2
            have HD := Lib.hid hd2
            rw [he] at HSa hszT
            have e0 : str [] = { data := #[] } := rfl
            rw [e0] at HSa hszT
            clear hd2 hm h4 hw he e0
            go_wp2_with fail
            refine (HSa.out _ HMr.out).mono ?_
            rintro e w2 ⟨rfl, hb2⟩
            obtain ⟨c0, c1, c2⟩ := HC.out w2 hb2
            have HE := Lib.hid (And.intro c1 c2)
            clear c0 c1 c2 hb2
            go_wp2_with fail
            exact ⟨⟨k + 1, acc, by go_num, hlt, by omega, HE.out.1, HE.out.2, HD.out⟩, by simp [intOf]; omega⟩
      · obtain rfl : k = N := by omega
        have q1 : ¬ ((k : Int) < k) := by omega
        have HK := Lib.hid (And.intro ho (And.intro hb hd))
        clear ho hb hd
        go_wp2_with fail
        go_ret3
        have h2 := HK.out.2.2
        rw [List.drop_eq_nil_of_le (by rw [HN.out]; exact Nat.le_refl _), scan] at h2
        exact tl_all h2 (RowL.owned rfl HK.out.1) (H1.out.2.trans (HK.out.2.1.mono H1.out.2.size))
end Go.Proofs.YtbeehedppofpnaaGreatDoor

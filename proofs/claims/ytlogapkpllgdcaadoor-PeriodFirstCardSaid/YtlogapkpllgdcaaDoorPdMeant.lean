/- Contract: meant: the spans of the entries whose rule means a day. -/
import Derived.Test.YtlogapkpllgdcaaDoorPdInA
import Derived.Test.YtlogapkpllgdcaaDoorPdApp
namespace Go.Proofs.YtlogapkpllgdcaaDoor
open Go.RowKit

noncomputable def mnt (day : Int) (l : List Ent) : List Spn := l.flatMap fun e => if hitD e.r day = true then e.sp else []
theorem mnt_snoc (day : Int) (l : List Ent) (k : Nat) (hk : k < l.length) : mnt day (l.take (k + 1)) = mnt day (l.take k) ++ (if hitD (l.getD k dE).r day = true then (l.getD k dE).sp else []) := by
  unfold mnt
  rw [List.take_add_one, getD_some hk dE, List.flatMap_append]
  simp
theorem mnt_any (day : Int) (l : List Ent) (j : Nat) : ((mnt day l).any fun s => inS s j) = l.any (hitE day j) := by
  unfold mnt
  rw [List.any_flatMap]
  congr 1
  funext e
  unfold hitE
  cases hitD e.r day <;> simp
theorem mnt_mem {day : Int} {l : List Ent} {s : Spn} (h : s ∈ mnt day l) : ∃ e ∈ l, s ∈ e.sp := by
  obtain ⟨e, he, hs⟩ := List.mem_flatMap.1 h
  refine ⟨e, he, ?_⟩
  split at hs
  · exact hs
  · cases hs
theorem owns_below7 {w w' : World} {base s : Nat} {e : TypeId} {v : Value} {n : Nat} {xs : List Value} (h : w.ownsRow base e s v n xs) (hb : Below w.heap.size w w') : w'.ownsRow base e s v n xs :=
  h.kept (row := none) ⟨hb.os, hb.tape, hb.output, hb.size, fun j hj _ => hb.block j hj⟩ (by cases v.ownBlock <;> simp)
/-- What meant's loop keeps. -/
def MeantR (w : World) (day : Int) (l : List Ent) (v : Value) (k : Nat) (W : World) : Prop :=
  ∃ n : Nat, (mnt day (l.take k)).length = n ∧ n ≤ 32 * k ∧ W.ownsRow w.heap.size 41 2 v n ((mnt day (l.take k)).flatMap spC) ∧ Below w.heap.size w W
set_option maxRecDepth 100000 in
set_option maxHeartbeats 2000000 in
theorem meant_any (l : List Ent) (v : Value) (day : Int) (w : World) (ht : Tab w) (hv : HEn w v l) (ha1 : -70368744177664 ≤ day) (ha2 : day ≤ 70368744177664) (hl : l.length ≤ 64) (hsp : ∀ e ∈ l, e.sp.length ≤ 32) (hmay : ∀ e ∈ l, mayR e.r = true) :
    Calls Tryd.prog 32 #[v, .int .i64 day] w fun e w' => ∃ u, e = .returned u ∧ HSp w' u (mnt day l) ∧ Below w.heap.size w w' := by
  obtain ⟨A, c, S, rfl, _, _, hk⟩ := hv
  have HK := Lib.hid hk
  have HME := Lib.hid (fun r W (hW : Below w.heap.size w W) (h : mayR r = true) => means_any r day W (ht.below hW) ha1 ha2 h)
  have HSP := Lib.hid hsp
  have HMY := Lib.hid hmay
  obtain ⟨n, hn⟩ : ∃ n, l.length = n := ⟨_, rfl⟩
  rw [hn] at hl ⊢
  have HN := Lib.hid hn
  clear hk hsp hmay ht hn
  go_enter Tryd.func32, Tryd.ntmps32
  go_wp2_with fail
  go_loopw [5, 10] (fun u i wr => ∃ k : Nat, k ≤ n ∧ i = .int .i64 k ∧ MeantR w day l u k wr) (fun _ i _ => n - (intOf i).toNat)
  case atStart => exact ⟨0, Nat.zero_le _, rfl, 0, rfl, Nat.zero_le _, World.ownsRow_nil _ _ _ _, Below.refl _ _⟩
  case round =>
    obtain ⟨k, hkn, rfl, m, hm, hmk, hown, hbw⟩ := hrel
    by_cases hlt : k < n
    · have hlt' : k < l.length := by rw [HN.out]; exact hlt
      obtain ⟨⟨ad, X, rfl, hX, hat⟩, hs⟩ := HK.out k hlt'
      have hmem := getD_mem hlt' dE
      have hmay := HMY.out _ hmem
      have hsl := HSP.out _ hmem
      have hsn := mnt_snoc day l k hlt'
      generalize l.getD k dE = e at *
      have hat' := hat.below hbw
      generalize S k = s at *
      obtain ⟨B, c', rfl, hs1, hs2, hs3⟩ := hs.rd
      obtain ⟨q, hq⟩ : ∃ q, e.sp.length = q := ⟨_, rfl⟩
      rw [hq] at hat' hat hs1 hsl
      obtain ⟨c0, c1, c2, c3, c4, c5, c6, c7, c8, c9, c10⟩ := hat'
      have hb1 := hbw.alloc hbw.size (.cells (encs e.r (.slice B q c')) 59)
      have HM := Lib.hid (HME.out e.r (wr.alloc (.cells (encs e.r (.slice B q c')) 59)) hb1 hmay)
      have G0 := Lib.hid (heap_alloc_new wr (.cells (encs e.r (.slice B q c')) 59))
      have HR := Lib.hid (And.intro hm (And.intro hown (And.intro hbw hb1)))
      have HS := Lib.hid (And.intro hs3 (And.intro hq hsn))
      clear hm hown hbw hb1 hs hs1 hs2 hs3 hq hsn hat hmem hmay hlt'
      obtain ⟨r, sp⟩ := e
      obtain ⟨kk, mo, nn, wk, fy, fm, fd, ty, tm, td⟩ := r
      unfold rv at HM
      simp only at *
      obtain ⟨b, hbq⟩ : ∃ b, hitD ⟨kk, mo, nn, wk, fy, fm, fd, ty, tm, td⟩ day = b := ⟨_, rfl⟩
      rw [hbq] at HM
      have HBQ := Lib.hid hbq
      clear hbq
      cases b
      · go_wp2_with fail
        refine HM.out.mono ?_
        rintro e w1 ⟨rfl, hb1⟩
        have hb2 := HR.out.2.2.2.trans (hb1.mono HR.out.2.2.2.size)
        have HF := Lib.hid (show MeantR w day l u5 (k + 1) w1 from ⟨m, by rw [HS.out.2.2, HBQ.out, if_neg (by decide), List.append_nil]; exact HR.out.1, by omega, by rw [HS.out.2.2, HBQ.out, if_neg (by decide), List.append_nil]; exact owns_below7 (HR.out.2.1.alloc _) hb1, hb2⟩)
        clear hb1 hb2 c0 c1 c2 c3 c4 c5 c6 c7 c8 c9 c10
        go_wp2_with fail
        go_roundw
        case rel => exact ⟨k + 1, by omega, by go_num, HF.out⟩
        case measure => simp [intOf]; omega
      · go_wp2_with fail
        refine HM.out.mono ?_
        rintro e w1 ⟨rfl, hb1⟩
        have hb2 := HR.out.2.2.2.trans (hb1.mono HR.out.2.2.2.size)
        have k10 := cell_blk ((hb1.block wr.heap.size (by simp)).trans G0.out) 10 (v := .slice B q c') rfl
        have HB2 := Lib.hid hb2
        have HOW := Lib.hid (owns_below7 (HR.out.2.1.alloc _) hb1)
        have HRD := Lib.hid (HS.out.1.below hb2)
        clear hb1 hb2 c0 c1 c2 c3 c4 c5 c6 c7 c8 c9 c10
        go_wp2_with
          (at_builtin
           refine wpList_appK rfl (.tmp 18) (.tmp 20) 37 rfl elS w.heap.size u5 m _ rfl HOW.out B q c' (sp.flatMap spC) rfl (by rw [flat_len spC 2 (fun _ => rfl), HS.out.2.1]) HRD.out (spC_one sp) (by unfold maxLen; omega) (by omega) HB2.out.size ?_)
        intro v' w' ho hg _
        have hbn := HB2.out.grown hg HB2.out.size (fun k hk => (HOW.out.lt k hk).1)
        have HF := Lib.hid (show MeantR w day l v' (k + 1) w' from ⟨m + q, by rw [HS.out.2.2, HBQ.out, if_pos rfl, List.length_append, HR.out.1, HS.out.2.1], by omega, by rw [HS.out.2.2, HBQ.out, if_pos rfl, List.flatMap_append]; exact ho, hbn⟩)
        clear ho hg hbn k10
        go_wp2_with fail
        go_roundw
        case rel => exact ⟨k + 1, by omega, by go_num, HF.out⟩
        case measure => simp [intOf]; omega
    · obtain rfl : k = n := by omega
      have hfull : l.take k = l := by rw [← HN.out]; exact List.take_length
      rw [hfull] at hown hm
      obtain ⟨A, c, e, h1, h2, h3, h4⟩ := ownsK_form hown
      have HF := Lib.hid (And.intro e (And.intro (HSp.of_rd hm h1 h2 h4) hbw))
      clear hm hown hbw e h1 h2 h3 h4 hfull
      go_wp2_with fail
      go_ret
      exact ⟨_, rfl, by rw [show u5 = _ from HF.out.1]; exact HF.out.2.1, HF.out.2.2⟩
end Go.Proofs.YtlogapkpllgdcaaDoor

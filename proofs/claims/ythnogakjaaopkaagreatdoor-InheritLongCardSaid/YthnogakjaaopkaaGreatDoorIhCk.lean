/- Contract: the document's Check. -/
import Derived.Test.YthnogakjaaopkaaGreatDoorIhVv
import Derived.Test.YthnogakjaaopkaaGreatDoorVaR4
import Derived.Test.YthnogakjaaopkaaGreatDoorIhM
import Derived.Deep.RegionHeld3
import Derived.Deep.QuietTactic
namespace Go.Proofs.YthnogakjaaopkaaGreatDoor
open Go.RowKit

theorem upto_one {l : List MB} {P : Nat → MB → Prop} {i : Nat} {b : MB} (h : ∀ (j : Nat) (c : MB), j < i → l[j]? = some c → P j c) (hb : l[i]? = some b) (hp : P i b) : ∀ (j : Nat) (c : MB), j < i + 1 → l[j]? = some c → P j c := fun j c hj hc => by
  rcases Nat.lt_succ_iff_lt_or_eq.1 hj with h1 | rfl
  · exact h j c h1 hc
  · rw [hb] at hc
    rw [← Option.some.inj hc]
    exact hp
theorem upto_all {l : List MB} {P : Nat → MB → Prop} {n : Nat} (hn : l.length = n) (h : ∀ (j : Nat) (c : MB), j < n → l[j]? = some c → P j c) : ∀ (j : Nat) (c : MB), l[j]? = some c → P j c := fun j c hc => h j c (by rw [← hn]; exact (List.getElem?_eq_some_iff.1 hc).1) hc
/-- Where a field stands; 0: there is none. -/
def atO (o : Option MF) : Int := match o with
  | some f => f.1
  | none => 0
theorem atUse_eq (b : MB) : atUse b = atO (ownF b nmU) := rfl
theorem fdO_atC (o : Option MF) : ∃ (N : ByteArray) (V : Tx), fdO o = #[.int .i64 (atO o), .string N, .string (str V)] ∧ ∀ f, o = some f → V = f.2.2 := by
  cases o with
  | none => exact ⟨{ data := #[] }, [], rfl, fun f h => by cases h⟩
  | some f => exact ⟨str f.2.1, f.2.2, rfl, fun g h => by cases h; rfl⟩
theorem wrgN_bad {l : List MB} {i : Nat} {b : MB} {f : MF} (h : ownF b nmN = some f) (hn : nameT f.2.2 = false) : wrgN l i b = some (f.1, 11) := by
  unfold wrgN
  rw [h]
  dsimp only
  rw [if_pos hn]
theorem wrgN_twice {l : List MB} {i : Nat} {b : MB} {f : MF} (h : ownF b nmN = some f) (hn : nameT f.2.2 = true) (ht : tmpl l b.2.1 f.2.2 ≠ some i) : wrgN l i b = some (f.1, 7) := by
  unfold wrgN
  rw [h]
  dsimp only
  rw [if_neg (by rw [hn]; decide), if_pos ht]
theorem wrgN_reg {l : List MB} {i : Nat} {b : MB} (h : ∀ f, ownF b nmN = some f → nameT f.2.2 = true ∧ tmpl l b.2.1 f.2.2 = some i) : wrgN l i b = wrgN.wrgR b := by
  unfold wrgN
  cases ho : ownF b nmN with
  | none => rfl
  | some f =>
    obtain ⟨h1, h2⟩ := h f ho
    dsimp only
    rw [if_neg (by rw [h1]; decide), if_neg (by rw [h2]; exact fun e => e rfl)]
theorem wrgR_none {b : MB} (h : ownF b nmR = none) : wrgN.wrgR b = none := by
  unfold wrgN.wrgR
  rw [h]
theorem wrgR_some {b : MB} {g : MF} (h : ownF b nmR = some g) : wrgN.wrgR b = if (flagT g.2.2).2 ≠ 0 then some (g.1, (flagT g.2.2).2) else none := by
  unfold wrgN.wrgR
  rw [h]
theorem tmI_eq (t : Option Nat) (i : Nat) : tmI t = (i : Int) ↔ t = some i := by
  cases t with
  | none => constructor <;> intro h <;> cases h
  | some j =>
    constructor
    · intro h
      have : (j : Int) = i := h
      congr 1
      omega
    · rintro h
      cases h
      rfl
/-- What Check answers. -/
def CiE (l : List MB) (e : Ending) : Prop := match chkI l with
  | some q => e = .returned (.tuple #[.int .i64 q.1, .int .i64 (q.2 : Nat)])
  | none => e = .returned (.tuple #[.int .i64 0, .int .i64 0])
theorem ciE_some {l : List MB} {q : Int × Nat} {a k : Int} (h : chkI l = some q) (ha : a = q.1) (hk : k = (q.2 : Nat)) : CiE l (.returned (.tuple #[.int .i64 a, .int .i64 k])) := by
  unfold CiE
  rw [h, ha, hk]
theorem ciE_none {l : List MB} (h : chkI l = none) : CiE l (.returned (.tuple #[.int .i64 0, .int .i64 0])) := by
  unfold CiE
  rw [h]
set_option maxRecDepth 100000 in
set_option maxHeartbeats 4000000 in
theorem refCheckI_any (v : Value) (l : List MB) (w : World) (hl : l.length ≤ 1000) (hf : ∀ b ∈ l, b.2.2.length ≤ 1000 ∧ ∀ f ∈ b.2.2, f.2.2.length ≤ 100000) (hv : RowB w v l) :
    Calls Tryz.prog 22 #[v] w fun e w' => CiE l e ∧ Below w.heap.size w w' := by
  obtain ⟨A, c, rfl, hr⟩ := hv.form
  obtain ⟨n, hn⟩ : ∃ n, l.length = n := ⟨_, rfl⟩
  rw [hn] at hr hl ⊢
  have HR := Lib.hid (And.intro hr (And.intro hn hf))
  clear hr hv hn hf
  go_enter Tryz.func22, Tryz.ntmps22
  go_wp2_with fail
  go_loopw [4] (fun iv wr => ∃ i : Nat, iv = .int .i64 i ∧ i ≤ n ∧ Below w.heap.size w wr ∧ ∀ (j : Nat) (c : MB), j < i → l[j]? = some c → wrgN l j c = none) (fun iv _ => n - (intOf iv).toNat)
  case atStart => exact ⟨0, rfl, Nat.zero_le _, Below.refl _ _, fun j c hj => absurd hj (Nat.not_lt_zero j)⟩
  case round =>
    obtain ⟨i, rfl, hi, hb, hno⟩ := hrel
    have HB := Lib.hid (And.intro hb hno)
    clear hb hno
    by_cases hin : i < n
    · have q0 : (0 : Int) ≤ i := by omega
      have q1 : (i : Int) < n := by omega
      have hil : i < l.length := by rw [HR.out.2.1]; exact hin
      obtain ⟨b, hbi⟩ : ∃ b, l[i]? = some b := ⟨_, List.getElem?_eq_getElem hil⟩
      have hbm : b ∈ l := List.mem_of_getElem? hbi
      obtain ⟨ad, X, vF, rfl, hX, k0, k1, k2, hrf⟩ := (HR.out.1.below HB.out.1).parts.2.2.2 i hin b hbi
      obtain ⟨A3, c3, hvF, _⟩ := hrf.form
      obtain ⟨KD, hKD⟩ : ∃ x, str b.2.1 = x := ⟨_, rfl⟩
      rw [hKD] at k1
      have hfl := HR.out.2.2 b hbm
      have hOw := refOwn_any b.1 KD vF b.2.2 nmN wr (by have := hfl.1; omega) hrf
      have e0 : str nmN = { data := #[110, 97, 109, 101] } := rfl
      rw [e0] at hOw
      unfold OwE at hOw
      obtain ⟨o, ho⟩ : ∃ o, (b.2.2.find? fun f => f.2.1 == nmN) = o := ⟨_, rfl⟩
      rw [ho] at hOw
      obtain ⟨S1, FT, hfd, hof⟩ := fdO_atC o
      obtain ⟨S2, hS2⟩ : ∃ x, str FT = x := ⟨_, rfl⟩
      obtain ⟨a9, ha9⟩ : ∃ x, atO o = x := ⟨_, rfl⟩
      rw [hfd, hS2, ha9] at hOw
      obtain ⟨ob, hob⟩ : ∃ x, o.isSome = x := ⟨_, rfl⟩
      rw [hob] at hOw
      have HOw := Lib.hid hOw
      have hcl : ∀ W, Below wr.heap.size wr W → W.cell? X = some (.int .i64 b.1) ∧ W.cell? { block := X.block, off := X.off + 1 } = some (.string KD) ∧ W.cell? { block := X.block, off := X.off + 2 } = some vF := fun W h => ⟨cell9_below k0 h, cell9_below k1 h, cell9_below k2 h⟩
      rw [hvF] at hcl
      have hrg := fun W (h : Below wr.heap.size wr W) => refOwn_any b.1 KD vF b.2.2 nmR W (by have := hfl.1; omega) (hrf.below h)
      rw [hvF] at hrg
      have e1 : str nmR = { data := #[114, 101, 103, 105, 115, 116, 101, 114] } := rfl
      rw [e1] at hrg
      unfold OwE at hrg
      have HG := Lib.hid (And.intro hcl hrg)
      have H1 := Lib.hid (And.intro hbi (And.intro hfl (And.intro ho (And.intro hof (And.intro hS2 ha9)))))
      have HOB := Lib.hid hob
      have HK := Lib.hid hKD
      clear hOw hil hbm hrf hfl ho hof hfd hS2 ha9 hob hcl hrg e0 e1 hKD
      subst hvF
      go_wp2_with fail
      with_reducible refine HOw.out.mono ?_
      rintro e V ⟨rfl, hbV⟩
      obtain ⟨g1, hg1⟩ : ∃ x, V.heap.size = x := ⟨_, rfl⟩
      obtain ⟨V1, hV1⟩ : ∃ x, V.alloc (.cells #[.int .i64 a9, .string S1, .string S2] 49) = x := ⟨_, rfl⟩
      have hb1 : Below wr.heap.size wr V1 := by rw [← hV1]; exact hbV.alloc hbV.size _
      have hf1 : V1.heap[g1]? = some (.cells #[.int .i64 a9, .string S1, .string S2] 49 (0, 0)) := by rw [← hV1, ← hg1]; exact (MapKept.heap_alloc V _).1
      have hge : wr.heap.size ≤ g1 := by rw [← hg1]; exact hbV.size
      have c0 := cell9_blk hf1 0 rfl
      have c2 := cell9_blk hf1 2 rfl
      have HV := Lib.hid (And.intro hb1 (And.intro hf1 hge))
      clear hbV hb1 hf1 hge k0 k1 k2
      cases hoc : ob
      case' false =>
        have hreg : wrgN l i b = wrgN.wrgR b := wrgN_reg fun f h => by
          have h1 := HOB.out
          unfold ownF at h
          rw [H1.out.2.2.1] at h
          rw [h, hoc] at h1
          cases h1
        have HRg := Lib.hid hreg
        clear hreg
        subst hoc
        go_wp2_with fail
        go_quiet (fail)
        obtain ⟨W7, hW7⟩ : ∃ x, V1.drewN nq = x := ⟨_, rfl⟩
        have hb7 : Below V1.heap.size V1 W7 := by rw [← hW7]; exact below_drewN V1 nq
        have HW7 := Lib.hid hW7
        rw [HW7.out]
        clear hW7
      case' true =>
        subst hoc
        obtain ⟨f, hof⟩ : ∃ f, o = some f := Option.isSome_iff_exists.1 HOB.out
        have hFT : FT = f.2.2 := H1.out.2.2.2.1 f hof
        subst hFT
        have hfm : f ∈ b.2.2 := List.mem_of_find?_eq_some (H1.out.2.2.1.trans hof)
        have hfv := H1.out.2.1.2 f hfm
        have hown : ownF b nmN = some f := by unfold ownF; rw [H1.out.2.2.1, hof]
        have hat : a9 = f.1 := by rw [← H1.out.2.2.2.2.2, hof]; rfl
        have hNm := refName_any f.2.2 V1 hfv
        rw [H1.out.2.2.2.2.1] at hNm
        obtain ⟨nb, hnb⟩ : ∃ x, nameT f.2.2 = x := ⟨_, rfl⟩
        rw [hnb] at hNm
        have HNm := Lib.hid hNm
        have H2 := Lib.hid (And.intro hown (And.intro hat hnb))
        clear hNm hown hat hnb hfm hfv hof
        go_wp2_with fail
        with_reducible refine HNm.out.mono ?_
        rintro e V2 ⟨rfl, hb2⟩
        obtain ⟨j0, j1, j2⟩ := HG.out.1 V2 (HV.out.1.trans (hb2.mono HV.out.1.size))
        have hf2 := (hb2.block g1 (blk9_lt HV.out.2.1)).trans HV.out.2.1
        have d0 := cell9_blk hf2 0 rfl
        have d2 := cell9_blk hf2 2 rfl
        have HV2 := Lib.hid (And.intro hb2 hf2)
        clear hb2 hf2 c0 c2
        cases hnc : nb
        case' false =>
          subst hnc
          go_wp2_with fail
          go_ret2
          exact ⟨ciE_some (chk1 H1.out.1 (wrgN_bad H2.out.1 H2.out.2.2) HB.out.2) H2.out.2.1 rfl, HB.out.1.trans ((HV.out.1.trans (HV2.out.1.mono HV.out.1.size)).mono HB.out.1.size)⟩
        subst hnc
        obtain ⟨t, ht⟩ : ∃ t, tmpl l b.2.1 f.2.2 = t := ⟨_, rfl⟩
        have hdr : Below V2.heap.size V2 V2.drew := ⟨rfl, rfl, rfl, Nat.le_refl _, fun _ _ => rfl⟩
        have hbV2 : Below w.heap.size w V2 := HB.out.1.trans ((HV.out.1.trans (HV2.out.1.mono HV.out.1.size)).mono HB.out.1.size)
        have hTm := refTm_any (.slice (some ad) n c) l b.2.1 f.2.2 V2.drew (by rw [HR.out.2.1]; omega) (fun b hb => by have := (HR.out.2.2 b hb).1; omega) (HR.out.1.below (hbV2.trans (hdr.mono hbV2.size)))
        rw [HK.out, H1.out.2.2.2.2.1, ht] at hTm
        have HS := Lib.hid (And.intro j1 d2)
        have HSt : Hid (∀ W', Below V2.drew.heap.size V2.drew W' → W'.cell? { block := X.block, off := X.off + 1 } = some (.string KD) ∧ W'.cell? { block := g1, off := 2 } = some (.string S2)) := fun W' h => ⟨cell9_below (w := V2.drew) j1 h, cell9_below (w := V2.drew) d2 h⟩
        have HTT := Lib.hid ht
        clear hdr hbV2 ht
        by_cases hti : t = some i
        case' neg =>
          have e2 : ¬ tmI t = (i : Int) := fun h => hti ((tmI_eq t i).1 h)
          have e3 : (tmI t == (i : Int)) = false := beq_eq_false_iff_ne.2 e2
          generalize tmI t = Zt at *
          have HTm := Lib.hid hTm
          clear hTm
          go_wp2_with fail
          go_region_held3 (fun W => W.cell? { block := X.block, off := X.off + 1 } = some (.string KD) ∧ W.cell? { block := g1, off := 2 } = some (.string S2)) (first | exact HS.out | exact HSt.out _ (by assumption)) (first
            | (go_at_call 37
               refine HTm.out.mono ?_
               rintro e W7 ⟨rfl, hbt⟩))
          have hf7 := (hbt.block g1 (blk9_lt HV2.out.2)).trans HV2.out.2
          have x0 := cell9_blk hf7 0 rfl
          have HV7 := Lib.hid hbt
          clear hbt hf7 d0 d2
          go_wp2_with fail
          go_ret2
          exact ⟨ciE_some (chk1 H1.out.1 (wrgN_twice H2.out.1 H2.out.2.2 (by rw [HTT.out]; exact hti)) HB.out.2) H2.out.2.1 rfl, HB.out.1.trans ((HV.out.1.trans ((HV2.out.1.trans (Below.mono (w := V2) ⟨HV7.out.os, HV7.out.tape, HV7.out.output, HV7.out.size, HV7.out.block⟩ HV2.out.1.size)).mono HV.out.1.size)).mono HB.out.1.size)⟩
        have e2 : tmI t = (i : Int) := (tmI_eq t i).2 hti
        rw [e2] at hTm
        have HTm := Lib.hid hTm
        have hreg : wrgN l i b = wrgN.wrgR b := wrgN_reg fun f' h => by
          rw [H2.out.1] at h
          have e := Option.some.inj h
          subst e
          exact ⟨H2.out.2.2, by rw [HTT.out]; exact hti⟩
        have HRg := Lib.hid hreg
        clear hTm hreg e2 hti
        go_wp2_with fail
        go_region_held3 (fun W => W.cell? { block := X.block, off := X.off + 1 } = some (.string KD) ∧ W.cell? { block := g1, off := 2 } = some (.string S2)) (first | exact HS.out | exact HSt.out _ (by assumption)) (first
          | (go_at_call 37
             refine HTm.out.mono ?_
             rintro e W7 ⟨rfl, hbt⟩))
        have hb7 : Below V1.heap.size V1 W7 := HV2.out.1.trans (Below.mono (w := V2) ⟨hbt.os, hbt.tape, hbt.output, hbt.size, hbt.block⟩ HV2.out.1.size)
        clear hbt j0 j1 j2 d0 d2
      all_goals
        have hbw := HV.out.1.trans (hb7.mono HV.out.1.size)
        obtain ⟨k0, k1, k2⟩ := HG.out.1 W7 hbw
        have hf7 := (hb7.block g1 (blk9_lt HV.out.2.1)).trans HV.out.2.1
        have hO2 := HG.out.2 W7 hbw
        obtain ⟨o2, ho2⟩ : ∃ o, (b.2.2.find? fun f => f.2.1 == nmR) = o := ⟨_, rfl⟩
        rw [ho2] at hO2
        obtain ⟨S3, FT2, hfd2, hof2⟩ := fdO_atC o2
        obtain ⟨S4, hS4⟩ : ∃ x, str FT2 = x := ⟨_, rfl⟩
        obtain ⟨a8, ha8⟩ : ∃ x, atO o2 = x := ⟨_, rfl⟩
        rw [hfd2, hS4, ha8] at hO2
        obtain ⟨ob2, hob2⟩ : ∃ x, o2.isSome = x := ⟨_, rfl⟩
        rw [hob2] at hO2
        have HO2 := Lib.hid hO2
        have HOB2 := Lib.hid hob2
        have H7 := Lib.hid (And.intro hbw (And.intro hf7 (And.intro ho2 (And.intro hof2 (And.intro hS4 ha8)))))
        clear hb7 hbw hf7 hO2 ho2 hof2 hS4 ha8 hfd2 hob2
        go_wp2_with fail
        with_reducible refine HO2.out.mono ?_
        rintro e V8 ⟨rfl, hb8⟩
        have hf8 := (hb8.block g1 (blk9_lt H7.out.2.1)).trans H7.out.2.1
        have hf9 := set3O (x := .int .i64 a8) (y := .string S3) (z := .string S4) hf8
        have y0 := frz9_blk hf8 0
        have y1 := frz9_blk hf8 1
        have y2 := frz9_blk hf8 2
        have z0 := cell9_blk hf8 0 rfl
        have z1 := cell9_blk hf8 1 rfl
        have z2 := cell9_blk hf8 2 rfl
        have x0 := cell9_blk hf9 0 rfl
        have x2 := cell9_blk hf9 2 rfl
        have hb9 : Below w.heap.size w (((V8.setCell ⟨g1, 0, none⟩ (.int .i64 a8)).setCell ⟨g1, 1, none⟩ (.string S3)).setCell ⟨g1, 2, none⟩ (.string S4)) := HB.out.1.trans (Below.mono (below_set3O (H7.out.1.trans (hb8.mono H7.out.1.size)) HV.out.2.2) HB.out.1.size)
        have H8 := Lib.hid hb9
        clear hb8 hf8 hf9 hb9
        cases hoc : ob2
        case' false =>
          have hw : wrgN l i b = none := by
            rw [HRg.out]
            refine wrgR_none ?_
            unfold ownF
            rw [H7.out.2.2.1]
            have h1 := HOB2.out
            rw [hoc] at h1
            exact Option.isNone_iff_eq_none.1 (by cases o2 with
              | none => rfl
              | some g => cases h1)
          have HW := Lib.hid hw
          clear hw
          subst hoc
          go_wp2_with fail
          exact ⟨⟨i + 1, by go_num, hin, H8.out, upto_one HB.out.2 H1.out.1 HW.out⟩, by simp [intOf]; omega⟩
        case' true =>
          subst hoc
          obtain ⟨g, hog⟩ : ∃ g, o2 = some g := Option.isSome_iff_exists.1 HOB2.out
          have hFT : FT2 = g.2.2 := H7.out.2.2.2.1 g hog
          subst hFT
          have hown : ownF b nmR = some g := by unfold ownF; rw [H7.out.2.2.1, hog]
          have hat : a8 = g.1 := by rw [← H7.out.2.2.2.2.2, hog]; rfl
          have hFl := fun W => refFlag_any g.2.2 W
          rw [H7.out.2.2.2.2.1] at hFl
          unfold RfE at hFl
          have hw := wrgR_some hown
          obtain ⟨fb, hfb⟩ : ∃ x, (flagT g.2.2).1 = x := ⟨_, rfl⟩
          obtain ⟨fk, hfk⟩ : ∃ x, (flagT g.2.2).2 = x := ⟨_, rfl⟩
          rw [hfk] at hw
          rw [hfb, hfk] at hFl
          rw [← HRg.out] at hw
          have HFl := Lib.hid hFl
          have HW := Lib.hid (And.intro hw hat)
          clear hFl hw hown hat hfb hfk hog
          go_wp2_with fail
          with_reducible refine (HFl.out _).mono ?_
          rintro e w9 ⟨rfl, rfl⟩
          by_cases hfk : fk = 0
          case' pos =>
            subst hfk
            go_wp2_with fail
            exact ⟨⟨i + 1, by go_num, hin, H8.out, upto_one HB.out.2 H1.out.1 (by rw [HW.out.1]; rfl)⟩, by simp [intOf]; omega⟩
          case' neg =>
            have e1 : ((fk : Int) == 0) = false := beq_eq_false_iff_ne.2 (by omega)
            have e2 : ¬ ((fk : Int) = 0) := by omega
            go_wp2_with fail
            go_ret2
            exact ⟨ciE_some (chk1 H1.out.1 (HW.out.1.trans (if_pos hfk)) HB.out.2) HW.out.2 rfl, H8.out⟩
    · obtain rfl : n = i := by omega
      have h1 := upto_all HR.out.2.1 HB.out.2
      have HL1 := Lib.hid (And.intro HB.out.1 h1)
      obtain ⟨wa, hwa⟩ : ∃ x, x = wr := ⟨_, rfl⟩
      subst hwa
      clear h1 HB hi hin
      go_wp2_with fail
      go_loopw [9] (fun iv wr => ∃ i : Nat, iv = .int .i64 i ∧ i ≤ n ∧ Below w.heap.size w wr ∧ ∀ (j : Nat) (c : MB), j < i → l[j]? = some c → wrgU l c = none) (fun iv _ => n - (intOf iv).toNat)
      case atStart => exact ⟨0, rfl, Nat.zero_le _, HL1.out.1, fun j c hj => absurd hj (Nat.not_lt_zero j)⟩
      case round =>
        obtain ⟨i, rfl, hi, hb, hno⟩ := hrel
        have HB := Lib.hid (And.intro hb hno)
        clear hb hno
        by_cases hin : i < n
        · have q0 : (0 : Int) ≤ i := by omega
          have q1 : (i : Int) < n := by omega
          have hil : i < l.length := by rw [HR.out.2.1]; exact hin
          obtain ⟨b, hbi⟩ : ∃ b, l[i]? = some b := ⟨_, List.getElem?_eq_getElem hil⟩
          have hbm : b ∈ l := List.mem_of_getElem? hbi
          have hUs := refUses_any (.slice A n c) l i b wr (by rw [HR.out.2.1]; omega) (fun b hb => ⟨by have := (HR.out.2.2 b hb).1; omega, fun f hf => by have := (HR.out.2.2 b hb).2 f hf; omega⟩) hbi (HR.out.1.below HB.out.1)
          unfold UsE at hUs
          obtain ⟨uk, huk⟩ : ∃ x, (usesB l b).2 = x := ⟨_, rfl⟩
          rw [huk] at hUs
          have HUs := Lib.hid hUs
          have hfl := HR.out.2.2 b hbm
          have hwu : wrgU l b = if uk ≠ 0 then some (atUse b, uk) else none := by unfold wrgU; rw [huk]
          have H1 := Lib.hid (And.intro hbi (And.intro hfl hwu))
          clear hUs huk hil hbm hfl hwu hbi
          go_wp2_with fail
          with_reducible refine HUs.out.mono ?_
          rintro e V ⟨u, rfl, hrow, hbV⟩
          obtain ⟨AU, cU, rfl, _, _, _⟩ := hrow
          have HV := Lib.hid (HB.out.1.trans (hbV.mono HB.out.1.size))
          clear hbV
          by_cases huk : uk = 0
          · subst huk
            go_wp2_with fail
            exact ⟨⟨i + 1, by go_num, hin, HV.out, upto_one (P := fun _ c => wrgU l c = none) HB.out.2 H1.out.1 (by rw [H1.out.2.2]; rfl)⟩, by simp [intOf]; omega⟩
          · have e1 : ((uk : Int) == 0) = false := beq_eq_false_iff_ne.2 (by omega)
            have e2 : ¬ ((uk : Int) = 0) := by omega
            obtain ⟨ad, X, vF, rfl, hX, k0, k1, k2, hrf⟩ := (HR.out.1.below HV.out).parts.2.2.2 i hin b H1.out.1
            obtain ⟨A3, c3, hvF, _⟩ := hrf.form
            obtain ⟨KD, hKD⟩ : ∃ x, str b.2.1 = x := ⟨_, rfl⟩
            rw [hKD] at k1
            have hOw := refOwn_any b.1 KD vF b.2.2 nmU V (by have := H1.out.2.1.1; omega) hrf
            have e0 : str nmU = { data := #[117, 115, 101] } := rfl
            rw [e0] at hOw
            unfold OwE at hOw
            obtain ⟨o, ho⟩ : ∃ o, (b.2.2.find? fun f => f.2.1 == nmU) = o := ⟨_, rfl⟩
            rw [ho] at hOw
            obtain ⟨S1, FT, hfd, _⟩ := fdO_atC o
            obtain ⟨S2, hS2⟩ : ∃ x, str FT = x := ⟨_, rfl⟩
            obtain ⟨a9, ha9⟩ : ∃ x, atO o = x := ⟨_, rfl⟩
            rw [hfd, hS2, ha9] at hOw
            have hat : a9 = atUse b := by rw [atUse_eq, ← ha9, ← ho]; rfl
            have HOw := Lib.hid hOw
            have HAt := Lib.hid hat
            clear hOw hrf hfd hS2 ha9 ho hat e0 hKD
            subst hvF
            go_wp2_with fail
            with_reducible refine HOw.out.mono ?_
            rintro e V2 ⟨rfl, hb2⟩
            have hx := cell9_blk (MapKept.heap_alloc V2 (.cells #[.int .i64 a9, .string S1, .string S2] 49)).1 0 rfl
            have HV2 := Lib.hid (HV.out.trans (hb2.mono HV.out.size))
            clear hb2
            go_wp2_with fail
            go_ret2
            exact ⟨ciE_some (chk2 HL1.out.2 H1.out.1 (H1.out.2.2.trans (if_pos huk)) HB.out.2) HAt.out rfl, HV2.out.alloc HV2.out.size _⟩
        · obtain rfl : n = i := by omega
          have h1 := upto_all (P := fun _ c => wrgU l c = none) HR.out.2.1 HB.out.2
          have HL2 := Lib.hid (And.intro HB.out.1 h1)
          obtain ⟨wa2, hwa⟩ : ∃ x, x = wr := ⟨_, rfl⟩
          subst hwa
          clear h1 HB hi hin
          go_wp2_with fail
          go_loopw [14] (fun iv wr => ∃ i : Nat, iv = .int .i64 i ∧ i ≤ n ∧ Below w.heap.size w wr ∧ ∀ j, j < i → ¬ Wy (edg l) j j) (fun iv _ => n - (intOf iv).toNat)
          case atStart => exact ⟨0, rfl, Nat.zero_le _, HL2.out.1, fun j hj => absurd hj (Nat.not_lt_zero j)⟩
          case round =>
            obtain ⟨i, rfl, hi, hb, hno⟩ := hrel
            have HB := Lib.hid (And.intro hb hno)
            clear hno
            by_cases hin : i < n
            · have q0 : (0 : Int) ≤ i := by omega
              have q1 : (i : Int) < n := by omega
              obtain ⟨bf, hbf⟩ : ∃ x, wr.heap.size = x := ⟨_, rfl⟩
              obtain ⟨V1, hV1⟩ : ∃ x, wr.alloc (.cells ((List.replicate n false).map Value.bool).toArray 4) = x := ⟨_, rfl⟩
              have hmb : (Instr.makeSlice 99 (.int .i64 (n : Nat)) (.int .i64 (n : Nat))).run Tryz.prog wr = .ok (.slice (some ⟨bf, 0, none⟩) n n) V1 := by
                have h := run_mk (P := Tryz.prog) elBo (n : Nat) (n : Nat) (by omega) (Int.le_refl _) (by omega) (by omega) wr
                rw [h, ← hV1, ← hbf]
                congr 3
                rw [Int.toNat_natCast]
                apply Array.toList_inj.1
                have h2 := toList_madeCells_one (Value.bool false) n
                rw [show (Value.bool false : Value).cells = #[Value.bool false] from rfl, h2, List.map_replicate]
              have hK1 : BolB bf (List.replicate n false) V1 := by
                have h := (MapKept.heap_alloc wr (.cells ((List.replicate n false).map Value.bool).toArray 4)).1
                rw [hbf, hV1] at h
                exact h
              have hb1 : Below w.heap.size w V1 := by rw [← hV1]; exact hb.alloc hb.size _
              have ck := hK1.load (k := i) (v := false) (by rw [List.getElem?_replicate, if_pos hin])
              have hfr := hK1.frz i
              obtain ⟨V2, hV2⟩ : ∃ x, V1.setCell ⟨bf, i, none⟩ (.bool true) = x := ⟨_, rfl⟩
              have hK2 : BolB bf ((List.replicate n false).set i true) V2 := by rw [← hV2]; exact hK1.set i true
              have hge : w.heap.size ≤ bf := by rw [← hbf]; exact hb.size
              have hb2 : Below w.heap.size w V2 := by rw [← hV2]; exact hb1.setCell hge _
              have H2 := Lib.hid (And.intro hb2 (And.intro hK2 (And.intro (Frm.init (E := edg l) hin) hge)))
              clear hb hbf hV1 hK1 hb1 hK2 hb2 hge
              go_wp2_with fail
              clear hmb ck hfr hV2
              go_loopw [16] (fun mv wr' => ∃ (m : Nat) (F : List Bool), m ≤ n ∧ mv = .int .i64 m ∧ Below w.heap.size w wr' ∧ BolB bf F wr' ∧ Frm (edg l) n i F ∧ Far (edg l) i m F) (fun mv _ => n - (intOf mv).toNat)
              case atStart => exact ⟨0, _, Nat.zero_le _, rfl, H2.out.1, H2.out.2.1, H2.out.2.2.1, Far.init H2.out.2.2.1⟩
              case round =>
                obtain ⟨m, F0, hm, rfl, hbel, hF, hfrm, hfar⟩ := hrel
                have HM := Lib.hid (And.intro hbel (And.intro hF (And.intro hfrm hfar)))
                clear hbel hF hfrm hfar
                by_cases hmn : m < n
                · have q2 : (m : Int) < n := by omega
                  go_wp2_with fail
                  go_loopw [17] (fun kv wr' => ∃ (k : Nat) (F : List Bool), k ≤ n ∧ kv = .int .i64 k ∧ Below w.heap.size w wr' ∧ BolB bf F wr' ∧ Frm (edg l) n i F ∧ Seen (edg l) i F0 k F) (fun kv _ => n - (intOf kv).toNat)
                  case atStart => exact ⟨0, F0, Nat.zero_le _, rfl, HM.out.1, HM.out.2.1, HM.out.2.2.1, Seen.init _ _ _⟩
                  case round =>
                    obtain ⟨k, F, hk, rfl, hbel, hF, hfrm, hseen⟩ := hrel
                    have HF := Lib.hid (And.intro hbel (And.intro hF (And.intro hfrm hseen)))
                    clear hbel hF hfrm hseen
                    by_cases hkn : k < n
                    · have q3 : (0 : Int) ≤ k := by omega
                      have q4 : (k : Int) < n := by omega
                      obtain ⟨bk, hbk⟩ : ∃ b, l[k]? = some b := ⟨_, List.getElem?_eq_getElem (by rw [HR.out.2.1]; exact hkn)⟩
                      have hUs := refUses_any (.slice A n c) l k bk wr (by rw [HR.out.2.1]; omega) (fun b hb => ⟨by have := (HR.out.2.2 b hb).1; omega, fun f hf => by have := (HR.out.2.2 b hb).2 f hf; omega⟩) hbk (HR.out.1.below HF.out.1)
                      have HUs := Lib.hid hUs
                      have HE := Lib.hid (edg_at hbk).symm
                      clear hUs hbk
                      go_wp2_with fail
                      with_reducible refine HUs.out.mono ?_
                      rintro e V ⟨u, rfl, hrow, hbV⟩
                      rw [HE.out] at hrow
                      obtain ⟨AU, cU, rfl, hAU, hCU, hRU⟩ := hrow
                      obtain ⟨js, hjs⟩ : ∃ js, edg l k = js := ⟨_, rfl⟩
                      obtain ⟨q, hq⟩ : ∃ q, js.length = q := ⟨_, rfl⟩
                      have hq9 : q ≤ 1000000 := by rw [← hq, ← hjs]; exact edg_len l k
                      rw [hjs] at hAU hRU ⊢
                      rw [hq] at hAU ⊢
                      obtain ⟨uk, huk⟩ : ∃ x, (((usesB l bk).2 : Nat) : Int) = x := ⟨_, rfl⟩
                      rw [huk]
                      obtain ⟨fk, hfk⟩ : ∃ x, F[k]? = some x := ⟨_, List.getElem?_eq_getElem (by rw [HF.out.2.2.1.len]; exact hkn)⟩
                      have hFV := HF.out.2.1.below hbV
                      have HV := Lib.hid (And.intro (HF.out.1.trans (hbV.mono HF.out.1.size)) (And.intro hFV (And.intro hfk (And.intro hjs (And.intro hq (And.intro hAU (And.intro hCU hRU)))))))
                      have ck := hFV.load hfk
                      clear hbV hFV hfk hjs hq hAU hCU hRU huk
                      cases hfc : fk
                      case' false =>
                        subst hfc
                        go_wp2_with fail
                        go_loopw [20] (fun jv wr' => jv = .int .i64 0 ∧ wr' = V) (fun _ _ => 0)
                        case atStart => exact ⟨rfl, rfl⟩
                        case round =>
                          obtain ⟨rfl, rfl⟩ := hrel
                          go_wp2_with fail
                          exact ⟨⟨k + 1, F, hkn, by go_num, HV.out.1, HV.out.2.1, HF.out.2.2.1, HF.out.2.2.2.skip (by rw [HV.out.2.2.1]; intro e; cases e)⟩, by simp [intOf]; omega⟩
                      case' true =>
                        subst hfc
                        clear ck
                        go_wp2_with fail
                        go_loopw [20] (fun jv wr' => ∃ (c2 : Nat) (F1 : List Bool), c2 ≤ q ∧ jv = .int .i64 c2 ∧ Below w.heap.size w wr' ∧ BolB bf F1 wr' ∧ Frm (edg l) n i F1 ∧ F1[k]? = some true ∧ SeenIn (edg l) i F0 k c2 F1 ∧ Rd wr' AU (js.map intC)) (fun jv _ => q - (intOf jv).toNat)
                        case atStart => exact ⟨0, F, Nat.zero_le _, rfl, HV.out.1, HV.out.2.1, HF.out.2.2.1, HV.out.2.2.1, HF.out.2.2.2.into, HV.out.2.2.2.2.2.2.2⟩
                        case round =>
                          obtain ⟨c2, F1, hc2, rfl, hbel, hF1, hfrm, hk1, hsin, hRd⟩ := hrel
                          have ck := hF1.load hk1
                          by_cases hcq : c2 < q
                          · have hcj : c2 < js.length := by rw [HV.out.2.2.2.2.1]; exact hcq
                            obtain ⟨t, ht⟩ : ∃ t, js[c2] = t := ⟨_, rfl⟩
                            have htm : t ∈ edg l k := by rw [HV.out.2.2.2.1, ← ht]; exact List.getElem_mem hcj
                            have htn : t < n := by have := edg_lt htm; rw [HR.out.2.1] at this; exact this
                            obtain ⟨adU, hadU, hcU⟩ := hRd.at_ (k := c2) (by rw [List.length_map]; exact hcj)
                            rw [List.getElem_map, ht] at hcU
                            unfold intC at hcU
                            have y0 : (0 : Int) ≤ c2 := by omega
                            have y1 : (c2 : Int) < q := by omega
                            have y2 : (0 : Int) ≤ t := by omega
                            have y3 : (t : Int) < n := by omega
                            have ht1 : t < F1.length := by rw [hfrm.len]; exact htn
                            have ck2 := hF1.load (k := t) (List.getElem?_eq_getElem ht1)
                            have hfr := hF1.frz t
                            have hek : (edg l k)[c2]? = some t := by rw [HV.out.2.2.2.1, List.getElem?_eq_getElem hcj, ht]
                            have HC := Lib.hid (And.intro hbel (And.intro hF1 (And.intro hfrm (And.intro hk1 (And.intro hsin (And.intro hRd (And.intro htm (And.intro ht1 hek))))))))
                            obtain ⟨tv, htv⟩ : ∃ x, F1[t]'ht1 = x := ⟨_, rfl⟩
                            rw [htv] at ck2
                            clear hbel hF1 hfrm hk1 hsin hRd htm hek htv
                            subst hadU
                            by_cases hti : t = i
                            · subst hti
                              obtain ⟨b, hbi⟩ : ∃ b, l[t]? = some b := ⟨_, List.getElem?_eq_getElem (by rw [HR.out.2.1]; exact htn)⟩
                              have hbm : b ∈ l := List.mem_of_getElem? hbi
                              obtain ⟨ad, X, vF, rfl, hX, k0, k1, k2, hrf⟩ := (HR.out.1.below HC.out.1).parts.2.2.2 t htn b hbi
                              obtain ⟨A3, c3, hvF, _⟩ := hrf.form
                              obtain ⟨KD, hKD⟩ : ∃ x, str b.2.1 = x := ⟨_, rfl⟩
                              rw [hKD] at k1
                              have hOw := refOwn_any b.1 KD vF b.2.2 nmU wr (by have := (HR.out.2.2 b hbm).1; omega) hrf
                              have e0 : str nmU = { data := #[117, 115, 101] } := rfl
                              rw [e0] at hOw
                              unfold OwE at hOw
                              obtain ⟨o, ho⟩ : ∃ o, (b.2.2.find? fun f => f.2.1 == nmU) = o := ⟨_, rfl⟩
                              rw [ho] at hOw
                              obtain ⟨S1, FT, hfd, _⟩ := fdO_atC o
                              obtain ⟨S2, hS2⟩ : ∃ x, str FT = x := ⟨_, rfl⟩
                              obtain ⟨a9, ha9⟩ : ∃ x, atO o = x := ⟨_, rfl⟩
                              rw [hfd, hS2, ha9] at hOw
                              have hat : a9 = atUse b := by rw [atUse_eq, ← ha9, ← ho]; rfl
                              have HOw := Lib.hid hOw
                              have HAt := Lib.hid (And.intro hat hbi)
                              clear hOw hrf hfd hS2 ha9 ho hat e0 hKD hbi hbm
                              subst hvF
                              go_wp2_with fail
                              with_reducible refine HOw.out.mono ?_
                              rintro e V2 ⟨rfl, hb2⟩
                              have hx := cell9_blk (MapKept.heap_alloc V2 (.cells #[.int .i64 a9, .string S1, .string S2] 49)).1 0 rfl
                              have HV2 := Lib.hid (HC.out.1.trans (hb2.mono HC.out.1.size))
                              clear hb2
                              go_wp2_with fail
                              go_ret2
                              exact ⟨ciE_some (chk3 HL1.out.2 HL2.out.2 HAt.out.2 (HC.out.2.2.1.loop HC.out.2.2.2.1 HC.out.2.2.2.2.2.2.1) HB.out.2) HAt.out.1 rfl, HV2.out.alloc HV2.out.size _⟩
                            · have e2 : ¬ ((t : Int) = i) := by omega
                              have e3 : ((t : Int) == (i : Int)) = false := beq_eq_false_iff_ne.2 e2
                              obtain ⟨V8, hV8⟩ : ∃ x, wr.setCell ⟨bf, t, none⟩ (.bool true) = x := ⟨_, rfl⟩
                              have hF8 : BolB bf (F1.set t true) V8 := by rw [← hV8]; exact HC.out.2.1.set t true
                              have hb8 : Below w.heap.size w V8 := by rw [← hV8]; exact HC.out.1.setCell H2.out.2.2.2 _
                              have hgr : wr.grownBy V8 (some bf) := by
                                rw [← hV8]
                                exact ⟨rfl, rfl, rfl, by simp [World.setCell], fun k hk hne => Below.heap_setCell _ _ _ _ (fun e => hne (by rw [e]))⟩
                              have hR8 : RowN V8 (.slice (some adU) q cU) js := rowN_grown (w := wr) ⟨some adU, cU, by rw [HV.out.2.2.2.2.1], by rw [HV.out.2.2.2.2.1]; exact HV.out.2.2.2.2.2.1, HV.out.2.2.2.2.2.2.1, HC.out.2.2.2.2.2.1⟩ hgr (fun j x h => by
                                have h1 := HC.out.2.1
                                unfold BolB at h1
                                unfold World.cell? intC at h
                                simp only [h1] at h
                                simp only [Option.isSome_none, Bool.false_eq_true, if_false, List.getElem?_toArray, List.getElem?_map] at h
                                cases hk : F1[j]? with
                                | none => rw [hk] at h; cases h
                                | some x => rw [hk] at h; cases h)
                              have hRd8 : Rd V8 (some adU) (js.map intC) := by
                                obtain ⟨A9, c9, e9, _, _, h9⟩ := hR8
                                injection e9 with e9
                                rw [e9]
                                exact h9
                              have hk8 : (F1.set t true)[k]? = some true := by
                                by_cases e : t = k
                                · subst e; exact List.getElem?_set_self ht1
                                · rw [List.getElem?_set_ne e]; exact HC.out.2.2.2.1
                              have H8 := Lib.hid (And.intro hF8 (And.intro hb8 (And.intro hRd8 hk8)))
                              clear hF8 hb8 hgr hR8 hRd8 hk8
                              go_wp2_with fail
                              exact ⟨⟨c2 + 1, _, hcq, by go_num, H8.out.2.1, H8.out.1, HC.out.2.2.1.set HC.out.2.2.2.1 HC.out.2.2.2.2.2.2.1, H8.out.2.2.2, HC.out.2.2.2.2.1.step HC.out.2.2.2.1 (by rw [HV.out.2.2.2.1]; exact hcj) (List.getElem?_eq_some_iff.1 HC.out.2.2.2.2.2.2.2.2).2 hti HC.out.2.2.2.2.2.2.2.1, H8.out.2.2.1⟩, by simp [intOf]; omega⟩
                          · obtain rfl : c2 = q := by omega
                            have HC := Lib.hid (And.intro hbel (And.intro hF1 (And.intro hfrm hsin)))
                            have e2 : ¬ ((c2 : Int) < c2) := by omega
                            clear hbel hF1 hfrm hsin hk1 hRd
                            go_wp2_with fail
                            have hsi := HC.out.2.2.2
                            have e5 : c2 = (edg l k).length := by rw [HV.out.2.2.2.1]; exact HV.out.2.2.2.2.1.symm
                            rw [e5] at hsi
                            exact ⟨⟨k + 1, F1, hkn, by go_num, HC.out.1, HC.out.2.1, HC.out.2.2.1, hsi.out⟩, by simp [intOf]; omega⟩
                    · obtain rfl : n = k := by omega
                      go_wp2_with fail
                      exact ⟨⟨m + 1, F, hmn, by go_num, HF.out.1, HF.out.2.1, HF.out.2.2.1, HM.out.2.2.2.next HF.out.2.2.2 HM.out.2.2.1.len⟩, by simp [intOf]; omega⟩
                · obtain rfl : n = m := by omega
                  go_wp2_with fail
                  refine ⟨⟨i + 1, by go_num, hin, HM.out.1, fun j hj => ?_⟩, by simp [intOf]; omega⟩
                  rcases Nat.lt_succ_iff_lt_or_eq.1 hj with h1 | rfl
                  · exact HB.out.2 j h1
                  · exact HM.out.2.2.2.done HM.out.2.2.1
            · obtain rfl : n = i := by omega
              have h3 : ∀ j, j < l.length → ¬ Wy (edg l) j j := fun j hj => HB.out.2 j (by rw [← HR.out.2.1]; exact hj)
              have HL3 := Lib.hid (And.intro HB.out.1 h3)
              obtain ⟨wa3, hwa⟩ : ∃ x, x = wr := ⟨_, rfl⟩
              subst hwa
              clear h3 hb HB hi hin
              have hNm := refNames_any (.slice A n c) l wa3 (by rw [HR.out.2.1]; exact hl) (fun b hb => (HR.out.2.2 b hb).1) (HR.out.1.below HL3.out.1)
              have hp9 := nmsT_len (l := l) (by rw [HR.out.2.1]; exact hl) (fun b hb => (HR.out.2.2 b hb).1)
              have HNm := Lib.hid hNm
              clear hNm
              go_wp2_with fail
              with_reducible refine HNm.out.mono ?_
              rintro e V4 ⟨u4, rfl, hrow, hb4⟩
              obtain ⟨N, hN⟩ : ∃ N, nmsT l = N := ⟨_, rfl⟩
              rw [hN] at hrow hp9
              obtain ⟨AN, cN, rfl, hN1, hN2, hN3⟩ := hrow
              obtain ⟨p, hp⟩ : ∃ p, N.length = p := ⟨_, rfl⟩
              rw [hp] at hN1 hp9 ⊢
              have H4 := Lib.hid (And.intro (HL3.out.1.trans (hb4.mono HL3.out.1.size)) (And.intro hN3 (And.intro hN hp)))
              clear hb4 hN3 hN hp
              go_wp2_with fail
              go_loopw [24, 25] (fun vv kv wr => ∃ (k : Nat) (Z : List Value), k ≤ p ∧ kv = .int .i64 k ∧ Below V4.heap.size V4 wr ∧ wr.ownsRow V4.heap.size 74 1 vv k Z ∧ VlZ n l wr (N.take k) Z) (fun _ kv _ => p - (intOf kv).toNat)
              case atStart => exact ⟨0, [], Nat.zero_le _, rfl, Below.refl _ _, World.ownsRow_nil _ _ _ _, fun k nm h => by simp at h⟩
              case round =>
                obtain ⟨k, Z, hk, rfl, hb5, hown, hvz⟩ := hrel
                have hbw : Below w.heap.size w wr := H4.out.1.trans (hb5.mono H4.out.1.size)
                by_cases hkp : k < p
                · have q0 : (0 : Int) ≤ k := by omega
                  have q1 : (k : Int) < p := by omega
                  have hkN : k < N.length := by rw [H4.out.2.2.2]; exact hkp
                  obtain ⟨nm, hnm⟩ : ∃ x, N[k] = x := ⟨_, rfl⟩
                  obtain ⟨adN, rfl, cq⟩ := (Rd.below (A := AN) H4.out.2.1 hb5).at_ (k := k) (by rw [List.length_map]; exact hkN)
                  rw [List.getElem_map, hnm] at cq
                  unfold txC at cq
                  have hAl := refAll_any (.slice A n c) l nm wr (by rw [HR.out.2.1]; exact hl) (fun b hb => ⟨by have := (HR.out.2.2 b hb).1; omega, fun f hf => by have := (HR.out.2.2 b hb).2 f hf; omega⟩) (HR.out.1.below hbw) (no_cyc HL3.out.2)
                  rw [HR.out.2.1] at hAl
                  obtain ⟨S, hS⟩ : ∃ S, str nm = S := ⟨_, rfl⟩
                  rw [hS] at cq hAl
                  have HAl := Lib.hid hAl
                  have htk : N.take (k + 1) = N.take k ++ [nm] := by rw [List.take_succ_eq_append_getElem hkN, hnm]
                  have H5 := Lib.hid (And.intro hb5 (And.intro hown (And.intro hvz (And.intro hbw htk))))
                  clear hAl hS hb5 hown hvz hbw hnm hkN htk
                  go_wp2_with fail
                  with_reducible refine HAl.out.mono ?_
                  rintro e V6 ⟨bo, rfl, hG, hb6, hge⟩
                  have HO := Lib.hid (own_sameO H5.out.2.1 hb6)
                  have HBB := Lib.hid (H5.out.1.trans (hb6.mono H5.out.1.size))
                  have HG : Hid (GtB bo (gts l nm) V6) := by
                    have h := hG
                    unfold Hid gts
                    rw [HR.out.2.1]
                    exact h
                  have HZ6 := Lib.hid (H5.out.2.2.1.below hb6)
                  clear hG hb6 hge
                  go_wp2_with
                    (at_builtin
                     refine wpList_app rfl (.tmp 184) (.tmp 191) 73 rfl elGot V4.heap.size u24 k Z rfl (HO.out.alloc _) (some ⟨V6.heap.size, 0, none⟩) 1 1 [slG n bo] rfl rfl (Rd.block (MapKept.heap_alloc V6 (.cells #[slG n bo] 74)).1) (fun u hu => by rw [List.mem_singleton.1 hu]; rfl) (by unfold maxLen; omega) (by omega) (by rw [World.size_alloc]; have := HBB.out.size; omega) ?_)
                  intro v' w'' ho hg hob
                  have HN2 := Lib.hid (And.intro ho (And.intro hg hob))
                  clear ho hg hob
                  go_wp2_with fail
                  refine ⟨⟨k + 1, Z ++ [slG n bo], hkp, by go_num, (HBB.out.alloc HBB.out.size _).grown HN2.out.2.1 (by rw [World.size_alloc]; have := HBB.out.size; omega) (fun k hk => (HO.out.lt k hk).1), HN2.out.1, ?_⟩, by simp [intOf]; omega⟩
                  rw [H5.out.2.2.2.2]
                  have hZl : Z.length = (N.take k).length := by
                    have := H5.out.2.1.1
                    rw [List.length_take, H4.out.2.2.2]
                    omega
                  refine VlZ.grown (W := V6.alloc (.cells #[slG n bo] 74)) ?_ (HO.out.alloc _) HN2.out.2.1
                  have ha : Below V6.heap.size V6 (V6.alloc (.cells #[slG n bo] 74)) := (Below.refl _ _).alloc (Nat.le_refl _) _
                  exact (HZ6.out.snoc hZl HG.out).below ha
                · obtain rfl : p = k := by omega
                  obtain ⟨A5, c5, rfl, hA1, hA2, hA3, hA4, _⟩ := owns_form hown
                  rw [List.take_of_length_le (by rw [H4.out.2.2.2]; exact Nat.le_refl _)] at hvz
                  have H5 := Lib.hid (And.intro hbw (And.intro hvz (And.intro hA3 hA4)))
                  obtain ⟨wv, hwv⟩ : ∃ x, x = wr := ⟨_, rfl⟩
                  subst hwv
                  clear hbw hvz hA3 hA4 hb5 hown
                  go_wp2_with fail
                  go_loopw [26] (fun iv wr => ∃ i : Nat, iv = .int .i64 i ∧ i ≤ n ∧ wr = wv ∧ ∀ j, j < i → ¬ tooL l j) (fun iv _ => n - (intOf iv).toNat)
                  case atStart => exact ⟨0, rfl, Nat.zero_le _, rfl, fun j hj => absurd hj (Nat.not_lt_zero j)⟩
                  case round =>
                    obtain ⟨i, rfl, hi, rfl, hno⟩ := hrel
                    have HB := Lib.hid hno
                    clear hno
                    by_cases hin : i < n
                    · have q0 : (0 : Int) ≤ i := by omega
                      have q1 : (i : Int) < n := by omega
                      have hil : i < l.length := by rw [HR.out.2.1]; exact hin
                      go_wp2_with fail
                      go_loopw [27] (fun kv wr' => ∃ k : Nat, kv = .int .i64 k ∧ k ≤ p ∧ wr' = wr ∧ ∀ nm ∈ N.take k, ¬ ((gotC (gotT l nm i)).2.2.1 = true ∧ (gotC (gotT l nm i)).2.2.2 = true)) (fun kv _ => p - (intOf kv).toNat)
                      case atStart => exact ⟨0, rfl, Nat.zero_le _, rfl, fun nm h => by simp at h⟩
                      case round =>
                        obtain ⟨k, rfl, hk, rfl, hnk⟩ := hrel
                        have HK := Lib.hid hnk
                        clear hnk
                        by_cases hkp : k < p
                        · have q2 : (0 : Int) ≤ k := by omega
                          have q3 : (k : Int) < p := by omega
                          have hkN : k < N.length := by rw [H4.out.2.2.2]; exact hkp
                          obtain ⟨nm, hnm⟩ : ∃ x, N[k] = x := ⟨_, rfl⟩
                          obtain ⟨bo, hz, hG⟩ := H5.out.2.1 k nm (by rw [List.getElem?_eq_getElem hkN, hnm])
                          have hkZ : k < Z.length := by rw [H5.out.2.2.1]; exact hkp
                          obtain ⟨ad5, rfl, cz⟩ := H5.out.2.2.2.at_ hkZ
                          have hze : Z[k] = slG n bo := by
                            rw [List.getElem?_eq_getElem hkZ] at hz
                            exact Option.some.inj hz
                          rw [hze] at cz
                          unfold slG at cz
                          obtain ⟨G, hGG⟩ : ∃ g, gotC (gotT l nm i) = g := ⟨_, rfl⟩
                          have hgi := gts_get (nm := nm) hil
                          rw [hGG] at hgi
                          have g2 := hG.cell (c := 2) hgi (by decide) rfl
                          have g3 := hG.cell (c := 3) hgi (by decide) rfl
                          have htk : N.take (k + 1) = N.take k ++ [nm] := by rw [List.take_succ_eq_append_getElem hkN, hnm]
                          have hnN : nm ∈ N := by rw [← hnm]; exact List.getElem_mem hkN
                          have H6 := Lib.hid (And.intro hGG (And.intro htk hnN))
                          clear hz hG hkZ hze hGG hgi htk hnN hnm hkN
                          obtain ⟨GT, GA, GI, GL⟩ := G
                          dsimp only at g2 g3
                          have hnext : ¬ (GI = true ∧ GL = true) → ∀ x ∈ N.take (k + 1), ¬ ((gotC (gotT l x i)).2.2.1 = true ∧ (gotC (gotT l x i)).2.2.2 = true) := fun h x hx => by
                            rw [H6.out.2.1] at hx
                            rcases List.mem_append.1 hx with h1 | h1
                            · exact HK.out x h1
                            · rw [List.mem_singleton.1 h1, H6.out.1]; exact h
                          have HX := Lib.hid hnext
                          clear hnext
                          cases GI with
                          | false =>
                            go_wp2_with fail
                            exact ⟨⟨k + 1, by go_num, hkp, trivial, HX.out (by simp)⟩, by simp [intOf]; omega⟩
                          | true =>
                            cases GL with
                            | false =>
                              go_wp2_with fail
                              exact ⟨⟨k + 1, by go_num, hkp, trivial, HX.out (by simp)⟩, by simp [intOf]; omega⟩
                            | true =>
                              obtain ⟨b, hbi⟩ : ∃ b, l[i]? = some b := ⟨_, List.getElem?_eq_getElem hil⟩
                              obtain ⟨ad, X, vF, rfl, hX, k0, _, _, _⟩ := (HR.out.1.below H5.out.1).parts.2.2.2 i hin b hbi
                              have ht : tooL l i := tooL_names.2 ⟨nm, by rw [H4.out.2.2.1]; exact H6.out.2.2, by rw [H6.out.1], by rw [H6.out.1]⟩
                              have HT := Lib.hid (And.intro ht hbi)
                              clear ht hbi
                              go_wp2_with fail
                              go_ret2
                              exact ⟨ciE_some (chk4 HL1.out.2 HL2.out.2 HL3.out.2 HT.out.2 HT.out.1 HB.out) rfl rfl, H5.out.1⟩
                        · obtain rfl : p = k := by omega
                          have hno : ¬ tooL l i := fun h => by
                            obtain ⟨nm, hn, h2⟩ := tooL_names.1 h
                            rw [H4.out.2.2.1] at hn
                            exact HK.out nm (by rw [List.take_of_length_le (by rw [H4.out.2.2.2]; exact Nat.le_refl _)]; exact hn) h2
                          have HN := Lib.hid hno
                          clear hno
                          go_wp2_with fail
                          refine ⟨⟨i + 1, by go_num, hin, trivial, fun j hj => ?_⟩, by simp [intOf]; omega⟩
                          rcases Nat.lt_succ_iff_lt_or_eq.1 hj with h1 | rfl
                          · exact HB.out j h1
                          · exact HN.out
                    · obtain rfl : n = i := by omega
                      go_wp2_with fail
                      go_ret2
                      exact ⟨ciE_none (chk5 HL1.out.2 HL2.out.2 HL3.out.2 fun j hj => HB.out j (by rw [← HR.out.2.1]; exact hj)), H5.out.1⟩
end Go.Proofs.YthnogakjaaopkaaGreatDoor

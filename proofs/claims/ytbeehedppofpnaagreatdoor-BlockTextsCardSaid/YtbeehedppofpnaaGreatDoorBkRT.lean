/- Contract: the document's Text. -/
import Derived.Test.YtbeehedppofpnaaGreatDoorBkBd
import Derived.Test.YtbeehedppofpnaaGreatDoorBkTt
import Derived.Test.YtbeehedppofpnaaGreatDoorBkR
namespace Go.Proofs.YtbeehedppofpnaaGreatDoor
open Go.RowKit

theorem anyT_succ {α : Type} (L : List α) (p : α → Bool) (a : Nat) (h : a < L.length) (h1 : (L.take a).any p = false) (h2 : p L[a] = false) : (L.take (a + 1)).any p = false := by
  rw [List.take_succ_eq_append_getElem h, List.any_append, h1]
  simp [h2]
theorem anyT_end {α : Type} {L : List α} {p : α → Bool} {n : Nat} (h : (L.take n).any p = false) (hn : L.length = n) : L.any p = false := by
  rw [List.take_of_length_le (by omega)] at h
  exact h
theorem anyT_hit {α : Type} (L : List α) (p : α → Bool) (a : Nat) (h : a < L.length) (h1 : p L[a] = true) : L.any p = true := List.any_eq_true.2 ⟨_, List.getElem_mem h, h1⟩
theorem fnd_ge (nm : Tx) : ∀ (L : List MF) (i : Nat), fndN nm L i = -1 ∨ (i : Int) ≤ fndN nm L i
  | [], _ => .inl rfl
  | f :: r, i => by
    rw [fndN]
    split
    · exact .inr (Int.le_refl _)
    · rcases fnd_ge nm r (i + 1) with h | h
      · exact .inl h
      · exact .inr (by omega)
theorem fnd_at (nm : Tx) : ∀ (L : List MF) (i k : Nat) (hk : k < L.length), L[k].2.1 = nm → (((L.take k).any fun g => g.2.1 == nm) = false → fndN nm L i = ((i + k : Nat) : Int)) ∧ (((L.take k).any fun g => g.2.1 == nm) = true → fndN nm L i ≠ ((i + k : Nat) : Int))
  | f :: r, i, 0, _, h => ⟨fun _ => by rw [fndN, if_pos (show f.2.1 = nm from h)]; rfl, fun h => by rw [List.take_zero] at h; cases h⟩
  | f :: r, i, k + 1, hk, h => by
    have ih := fnd_at nm r (i + 1) k (by simpa using hk) (by simpa using h)
    have e : ((i + 1 + k : Nat) : Int) = ((i + (k + 1) : Nat) : Int) := by omega
    rw [List.take_succ_cons, List.any_cons, fndN]
    by_cases hf : f.2.1 = nm
    · rw [if_pos hf]
      refine ⟨fun h => ?_, fun _ => by omega⟩
      rw [beq_iff_eq.2 hf] at h
      cases h
    · rw [if_neg hf, beq_eq_false_iff_ne.2 hf, Bool.false_or, ← e]
      exact ih
theorem twice_step (L : List MF) (k : Nat) (hk : k < L.length) (h : twice ((L.take k).map zF) = false) : twice ((L.take (k + 1)).map zF) = (L.take k).any fun g => g.2.1 == L[k].2.1 := by
  rw [List.take_succ_eq_append_getElem hk, List.map_append, List.map_cons, List.map_nil, twice_snoc, h, Bool.false_or, List.any_map]
  rfl
theorem twice_more (L : List MF) (k : Nat) (h : twice ((L.take k).map zF) = true) : twice (L.map zF) = true := by
  have := twice_app _ ((L.drop k).map zF) h
  rwa [← List.map_append, List.take_append_drop] at this
/-- Text by the blocks as they lie in memory. -/
theorem text_ms (L : List MB) (hl : L.length ≤ 1024) : textT (L.map zB) = if L.any misM = true then ([], 11) else if L.any badM = true then ([], 3) else if L.any twM = true then ([], 7) else if L.any ovM = true then ([], 10) else if (L.map zB).any longB = true ∨ 65536 < (textB (L.map zB)).length then ([], 2) else (textB (L.map zB), 0) := by
  have h := chk_text L hl
  unfold chkN at h
  generalize L.any misM = b1 at *
  generalize L.any badM = b2 at *
  generalize L.any twM = b3 at *
  generalize L.any ovM = b4 at *
  cases b1 <;> cases b2 <;> cases b3 <;> cases b4 <;> simpa using h
/-- What the document's Text answers. -/
def RtP (L : List MB) (w : World) (e : Ending) (w' : World) : Prop := e = .returned (.tuple #[.string (str (textT (L.map zB)).1), .int .i64 ((textT (L.map zB)).2 : Int)]) ∧ Below w.heap.size w w'
theorem rtP {L : List MB} {w w' : World} {T : Tx} {k : Nat} {S : ByteArray} {i : Int} (h : textT (L.map zB) = (T, k)) (hS : S = str T) (hi : i = (k : Int)) (hb : Below w.heap.size w w') : RtP L w (.returned (.tuple #[.string S, .int .i64 i])) w' := ⟨by rw [h, hS, hi], hb⟩
/-- The words so far. -/
def gdN (b : MB) (k : Nat) : Bool := wordT b.2.1 && !((b.2.2.take k).any fun f => !wordT f.2.1)
theorem gd_mis (b : MB) (m : Nat) (h : b.2.2.length = m) : misM b = !gdN b m := by
  unfold misM gdN
  rw [List.take_of_length_le (by omega)]
  cases wordT b.2.1 <;> simp
theorem gd_succ (b : MB) (k : Nat) (hk : k < b.2.2.length) : gdN b (k + 1) = (gdN b k && wordT b.2.2[k].2.1) := by
  unfold gdN
  rw [List.take_succ_eq_append_getElem hk, List.any_append]
  simp [Bool.and_assoc]
set_option maxHeartbeats 8000000 in
set_option maxRecDepth 100000 in
theorem refText_any (v : Value) (L : List MB) (w : World) (hl : L.length ≤ 60) (hs : ∀ b ∈ L, Smal 9000 b) (hv : RowB w v L) :
    Calls Tryz.prog 14 #[v] w (RtP L w) := by
  obtain ⟨A, c, rfl, hr⟩ := hv.form
  have hc1 := hr.parts.2.1
  have hc2 := hr.parts.2.2.1
  have HTT := Lib.hid (text_ms L (by omega))
  obtain ⟨n, hn⟩ : ∃ n, L.length = n := ⟨_, rfl⟩
  rw [hn] at hr hl hc1 ⊢
  have HRow := Lib.hid hr
  have HN := Lib.hid (And.intro hn hs)
  clear hr hs hv hn
  go_enter Tryz.func14, Tryz.ntmps14
  go_wp2_with fail
  go_loopw [4] (fun i wr => ∃ a : Nat, i = .int .i64 a ∧ a ≤ n ∧ Below w.heap.size w wr ∧ (L.take a).any misM = false) (fun i _ => n - (intOf i).toNat)
  case atStart => exact ⟨0, rfl, Nat.zero_le _, Below.refl _ _, rfl⟩
  case round =>
    obtain ⟨a, rfl, ha, hb, hno⟩ := hrel
    have HB := Lib.hid hb
    have HNo := Lib.hid hno
    clear hno
    rcases Nat.lt_or_ge a n with hlt | hge
    · skip
      have hal : a < L.length := by rw [HN.out.1]; exact hlt
      obtain ⟨b, hbe⟩ : ∃ b, L[a] = b := ⟨_, rfl⟩
      have hbq : L[a]? = some b := by rw [List.getElem?_eq_getElem hal, hbe]
      obtain ⟨ad, X, vR, rfl, hX, g0, g1, g2, hrf⟩ := HRow.out.parts.2.2.2 a hlt b hbq
      obtain ⟨AR, cR, rfl, hrf'⟩ := hrf.form
      have hsm : Smal 9000 b := HN.out.2 b (List.mem_of_getElem? hbq)
      obtain ⟨m, hm⟩ : ∃ m, b.2.2.length = m := ⟨_, rfl⟩
      have hm6 : m ≤ 80 := by rw [← hm]; exact hsm.1
      have hrm := hrf'.parts
      rw [hm] at g2 hrm
      have hcR1 := hrm.2.1
      have hcR2 := hrm.2.2.1
      have q0 : (0 : Int) ≤ a := by omega
      have q1 : (a : Int) < n := by omega
      have HG := Lib.hid (And.intro g0 (And.intro g1 g2))
      have HM := Lib.hid (And.intro hsm (And.intro hm (And.intro hrf' (And.intro hbe hal))))
      have HCl : Hid (∀ W, Below w.heap.size w W → W.cell? X = some (.int .i64 b.1) ∧ W.cell? { block := X.block, off := X.off + 1 } = some (.string (str b.2.1)) ∧ W.cell? { block := X.block, off := X.off + 2 } = some (.slice AR m cR)) := fun W hW => ⟨cell9_below HG.out.1 hW, cell9_below HG.out.2.1 hW, cell9_below HG.out.2.2 hW⟩
      clear hrf hrf' hsm hm hbq hrm g0 g1 g2
      have HWk := Lib.hid (fun W => refWord_any b.2.1 W (by have := HM.out.1.fields.2.1; omega))
      obtain ⟨c0, c1, c2⟩ := HCl.out _ hb
      obtain ⟨K, hK⟩ : ∃ K, str b.2.1 = K := ⟨_, rfl⟩
      rw [hK] at HCl HWk c1
      clear hb hbe hK
      go_wp2_with fail
      with_reducible refine (HWk.out _).mono ?_
      rintro e w2 ⟨rfl, hb⟩
      have HB2 := Lib.hid (HB.out.trans (hb.mono HB.out.size))
      clear hb c0 c1 c2
      go_wp2_with fail
      go_loopw [5, 6] (fun g j wi => ∃ k : Nat, j = .int .i64 k ∧ k ≤ m ∧ g = .bool (gdN b k) ∧ Below w.heap.size w wi) (fun _ j _ => m - (intOf j).toNat)
      case atStart => exact ⟨0, rfl, Nat.zero_le _, by unfold gdN; simp, HB2.out⟩
      case round =>
        obtain ⟨k, rfl, hk, rfl, hb⟩ := hrel
        have HBi := Lib.hid hb
        rcases Nat.lt_or_ge k m with hkm | hkm
        · skip
          have hkl : k < b.2.2.length := by rw [HM.out.2.1]; exact hkm
          obtain ⟨f, hf⟩ : ∃ f, b.2.2[k] = f := ⟨_, rfl⟩
          have hrw := HM.out.2.2.1
          rw [HM.out.2.1] at hrw
          obtain ⟨ad2, X2, rfl, hX2, f0, f1, f2⟩ := hrw.parts.2.2.2 k hkm f (by rw [List.getElem?_eq_getElem hkl, hf])
          replace f0 := cell9_below f0 hb
          replace f1 := cell9_below f1 hb
          replace f2 := cell9_below f2 hb
          have hfs := HM.out.1.fields.2.2 f (by rw [← hf]; exact List.getElem_mem hkl)
          have p0 : (0 : Int) ≤ k := by omega
          have p1 : (k : Int) < m := by omega
          obtain ⟨c0, c1, c2⟩ := HCl.out _ hb
          have HF := Lib.hid (And.intro hkl (And.intro hf hfs))
          clear hrw hf hfs
          have HWf := Lib.hid (fun W => refWord_any f.2.1 W (by have := HF.out.2.2; omega))
          have HGs : Hid (gdN b (k + 1) = (gdN b k && wordT f.2.1)) := by
            unfold Hid
            rw [gd_succ b k HF.out.1, HF.out.2.1]
          obtain ⟨N1, hN1⟩ : ∃ x, str f.2.1 = x := ⟨_, rfl⟩
          rw [hN1] at f1 HWf
          clear hb hN1
          cases hg : gdN b k
          · have HGk : Hid (Value.bool false = .bool (gdN b (k + 1))) := by unfold Hid; rw [HGs.out, hg]; rfl
            clear hg HGs
            go_wp2_with fail
            exact ⟨⟨k + 1, by go_num, hkm, HGk.out, HBi.out⟩, by simp [intOf]; omega⟩
          · have HGk : Hid (Value.bool (wordT f.2.1) = .bool (gdN b (k + 1))) := by unfold Hid; rw [HGs.out, hg]; rfl
            clear hg HGs
            go_wp2_with fail
            with_reducible refine (HWf.out _).mono ?_
            rintro e w3 ⟨rfl, hb⟩
            have HB3 := Lib.hid (HBi.out.trans (hb.mono HBi.out.size))
            clear hb
            go_wp2_with fail
            exact ⟨⟨k + 1, by go_num, hkm, HGk.out, HB3.out⟩, by simp [intOf]; omega⟩
        · obtain rfl : k = m := by omega
          have p1 : ¬ ((k : Int) < k) := by omega
          obtain ⟨c0, c1, c2⟩ := HCl.out _ hb
          clear hb
          have HGm := Lib.hid (gd_mis b k HM.out.2.1)
          cases hg : gdN b k
          · have HMis : Hid (misM b = true) := by unfold Hid; rw [HGm.out, hg]; rfl
            clear hg HGm
            go_wp2_with fail
            go_ret2
            exact rtP (T := []) (k := 11) (by rw [HTT.out, if_pos (anyT_hit L misM a HM.out.2.2.2.2 (by rw [HM.out.2.2.2.1]; exact HMis.out))]) rfl rfl HBi.out
          · have HMis : Hid (misM b = false) := by unfold Hid; rw [HGm.out, hg]; rfl
            clear hg HGm
            go_wp2_with fail
            exact ⟨⟨a + 1, by go_num, hlt, HBi.out, anyT_succ L misM a HM.out.2.2.2.2 HNo.out (by rw [HM.out.2.2.2.1]; exact HMis.out)⟩, by simp [intOf]; omega⟩
    · have han : n = a := by omega
      subst han
      have q1 : ¬ ((n : Int) < n) := by omega
      have HT2 : Hid (textT (L.map zB) = if L.any badM = true then ([], 3) else if L.any twM = true then ([], 7) else if L.any ovM = true then ([], 10) else if (L.map zB).any longB = true ∨ 65536 < (textB (L.map zB)).length then ([], 2) else (textB (L.map zB), 0)) := by
        unfold Hid
        rw [HTT.out, anyT_end HNo.out HN.out.1, if_neg (by simp)]
      clear hb HNo HTT ha hge
      go_wp2_with fail
      clear q1
      go_loopw [7] (fun i wr => ∃ a : Nat, i = .int .i64 a ∧ a ≤ n ∧ Below w.heap.size w wr ∧ (L.take a).any badM = false) (fun i _ => n - (intOf i).toNat)
      case atStart => exact ⟨0, rfl, Nat.zero_le _, HB.out, rfl⟩
      case round =>
        clear HB
        obtain ⟨a, rfl, ha, hb, hno⟩ := hrel
        have HB := Lib.hid hb
        have HNo := Lib.hid hno
        clear hno
        rcases Nat.lt_or_ge a n with hlt | hge
        · skip
          have hal : a < L.length := by rw [HN.out.1]; exact hlt
          obtain ⟨b, hbe⟩ : ∃ b, L[a] = b := ⟨_, rfl⟩
          have hbq : L[a]? = some b := by rw [List.getElem?_eq_getElem hal, hbe]
          obtain ⟨ad, X, vR, rfl, hX, g0, g1, g2, hrf⟩ := HRow.out.parts.2.2.2 a hlt b hbq
          obtain ⟨AR, cR, rfl, hrf'⟩ := hrf.form
          have hsm : Smal 9000 b := HN.out.2 b (List.mem_of_getElem? hbq)
          obtain ⟨m, hm⟩ : ∃ m, b.2.2.length = m := ⟨_, rfl⟩
          have hm6 : m ≤ 80 := by rw [← hm]; exact hsm.1
          have hrm := hrf'.parts
          rw [hm] at g2 hrm
          have hcR1 := hrm.2.1
          have hcR2 := hrm.2.2.1
          have q0 : (0 : Int) ≤ a := by omega
          have q1 : (a : Int) < n := by omega
          have HG := Lib.hid (And.intro g0 (And.intro g1 g2))
          have HM := Lib.hid (And.intro hsm (And.intro hm (And.intro hrf' (And.intro hbe hal))))
          have HCl : Hid (∀ W, Below w.heap.size w W → W.cell? X = some (.int .i64 b.1) ∧ W.cell? { block := X.block, off := X.off + 1 } = some (.string (str b.2.1)) ∧ W.cell? { block := X.block, off := X.off + 2 } = some (.slice AR m cR)) := fun W hW => ⟨cell9_below HG.out.1 hW, cell9_below HG.out.2.1 hW, cell9_below HG.out.2.2 hW⟩
          clear hrf hrf' hsm hm hbq hrm g0 g1 g2
          clear hb hbe
          go_wp2_with fail
          go_loopw [8] (fun j wi => ∃ k : Nat, j = .int .i64 k ∧ k ≤ m ∧ Below w.heap.size w wi ∧ (b.2.2.take k).any (fun f => badV (zF f)) = false) (fun j _ => m - (intOf j).toNat)
          case atStart => exact ⟨0, rfl, Nat.zero_le _, HB.out, rfl⟩
          case round =>
            obtain ⟨k, rfl, hk, hb, hno⟩ := hrel
            have HBi := Lib.hid hb
            have HNi := Lib.hid hno
            clear hno
            rcases Nat.lt_or_ge k m with hkm | hkm
            · skip
              have hkl : k < b.2.2.length := by rw [HM.out.2.1]; exact hkm
              obtain ⟨f, hf⟩ : ∃ f, b.2.2[k] = f := ⟨_, rfl⟩
              have hrw := HM.out.2.2.1
              rw [HM.out.2.1] at hrw
              obtain ⟨ad2, X2, rfl, hX2, f0, f1, f2⟩ := hrw.parts.2.2.2 k hkm f (by rw [List.getElem?_eq_getElem hkl, hf])
              replace f0 := cell9_below f0 hb
              replace f1 := cell9_below f1 hb
              replace f2 := cell9_below f2 hb
              have hfs := HM.out.1.fields.2.2 f (by rw [← hf]; exact List.getElem_mem hkl)
              have p0 : (0 : Int) ≤ k := by omega
              have p1 : (k : Int) < m := by omega
              obtain ⟨c0, c1, c2⟩ := HCl.out _ hb
              have HF := Lib.hid (And.intro hkl (And.intro hf hfs))
              clear hrw hf hfs
              have HBd := Lib.hid (fun W => refBad_any f W (by have := HF.out.2.2; omega) (by have := HF.out.2.2; omega))
              unfold BdP at HBd
              obtain ⟨N1, hN1⟩ : ∃ x, str f.2.1 = x := ⟨_, rfl⟩
              obtain ⟨N2, hN2⟩ : ∃ x, str f.2.2 = x := ⟨_, rfl⟩
              rw [hN1] at f1 HBd
              rw [hN2] at f2 HBd
              clear hb hN1 hN2
              cases hbv : badV (zF f)
              · rw [hbv] at HBd
                have HV := Lib.hid hbv
                clear hbv
                go_wp2_with fail
                with_reducible refine (HBd.out _).mono ?_
                rintro e w3 ⟨rfl, hb⟩
                have HB3 := Lib.hid (HBi.out.trans (hb.mono HBi.out.size))
                clear hb
                go_wp2_with fail
                exact ⟨⟨k + 1, by go_num, hkm, HB3.out, anyT_succ b.2.2 (fun f => badV (zF f)) k HF.out.1 HNi.out (by rw [HF.out.2.1]; exact HV.out)⟩, by simp [intOf]; omega⟩
              · rw [hbv] at HBd
                have HV := Lib.hid hbv
                clear hbv
                go_wp2_with fail
                with_reducible refine (HBd.out _).mono ?_
                rintro e w3 ⟨rfl, hb⟩
                have HB3 := Lib.hid (HBi.out.trans (hb.mono HBi.out.size))
                clear hb
                go_wp2_with fail
                go_ret2
                refine rtP (T := []) (k := 3) ?_ rfl rfl HB3.out
                rw [HT2.out, if_pos (anyT_hit L badM a HM.out.2.2.2.2 ?_)]
                rw [HM.out.2.2.2.1]
                exact anyT_hit b.2.2 (fun f => badV (zF f)) k HF.out.1 (by rw [HF.out.2.1]; exact HV.out)
            · have hkm' : m = k := by omega
              subst hkm'
              have p1 : ¬ ((m : Int) < m) := by omega
              obtain ⟨c0, c1, c2⟩ := HCl.out _ hb
              clear hb
              go_wp2_with fail
              exact ⟨⟨a + 1, by go_num, hlt, HBi.out, anyT_succ L badM a HM.out.2.2.2.2 HNo.out (by rw [HM.out.2.2.2.1]; exact anyT_end HNi.out HM.out.2.1)⟩, by simp [intOf]; omega⟩
        · have han : n = a := by omega
          subst han
          have q1 : ¬ ((n : Int) < n) := by omega
          have HT3 : Hid (textT (L.map zB) = if L.any twM = true then ([], 7) else if L.any ovM = true then ([], 10) else if (L.map zB).any longB = true ∨ 65536 < (textB (L.map zB)).length then ([], 2) else (textB (L.map zB), 0)) := by
            unfold Hid
            rw [HT2.out, anyT_end HNo.out HN.out.1, if_neg (by simp)]
          clear hb HNo HT2 ha hge
          go_wp2_with fail
          clear q1
          go_loopw [9] (fun i wr => ∃ a : Nat, i = .int .i64 a ∧ a ≤ n ∧ Below w.heap.size w wr ∧ (L.take a).any twM = false) (fun i _ => n - (intOf i).toNat)
          case atStart => exact ⟨0, rfl, Nat.zero_le _, HB.out, rfl⟩
          case round =>
            clear HB
            obtain ⟨a, rfl, ha, hb, hno⟩ := hrel
            have HB := Lib.hid hb
            have HNo := Lib.hid hno
            clear hno
            rcases Nat.lt_or_ge a n with hlt | hge
            · skip
              have hal : a < L.length := by rw [HN.out.1]; exact hlt
              obtain ⟨b, hbe⟩ : ∃ b, L[a] = b := ⟨_, rfl⟩
              have hbq : L[a]? = some b := by rw [List.getElem?_eq_getElem hal, hbe]
              obtain ⟨ad, X, vR, rfl, hX, g0, g1, g2, hrf⟩ := HRow.out.parts.2.2.2 a hlt b hbq
              obtain ⟨AR, cR, rfl, hrf'⟩ := hrf.form
              have hsm : Smal 9000 b := HN.out.2 b (List.mem_of_getElem? hbq)
              obtain ⟨m, hm⟩ : ∃ m, b.2.2.length = m := ⟨_, rfl⟩
              have hm6 : m ≤ 80 := by rw [← hm]; exact hsm.1
              have hrm := hrf'.parts
              rw [hm] at g2 hrm
              have hcR1 := hrm.2.1
              have hcR2 := hrm.2.2.1
              have q0 : (0 : Int) ≤ a := by omega
              have q1 : (a : Int) < n := by omega
              have HG := Lib.hid (And.intro g0 (And.intro g1 g2))
              have HM := Lib.hid (And.intro hsm (And.intro hm (And.intro hrf' (And.intro hbe hal))))
              have HCl : Hid (∀ W, Below w.heap.size w W → W.cell? X = some (.int .i64 b.1) ∧ W.cell? { block := X.block, off := X.off + 1 } = some (.string (str b.2.1)) ∧ W.cell? { block := X.block, off := X.off + 2 } = some (.slice AR m cR)) := fun W hW => ⟨cell9_below HG.out.1 hW, cell9_below HG.out.2.1 hW, cell9_below HG.out.2.2 hW⟩
              clear hrf hrf' hsm hm hbq hrm g0 g1 g2
              obtain ⟨K, hK⟩ : ∃ K, str b.2.1 = K := ⟨_, rfl⟩
              rw [hK] at HCl
              have HFd0 : Hid (∀ W k', Below w.heap.size w W → Calls Tryz.prog 24 #[.agg #[.int .i64 b.1, .string K, .slice AR m cR], .string (str k')] W fun e w' => e = .returned (.int .i64 (fndN k' b.2.2 0)) ∧ Below W.heap.size W w') := fun W k' hW => by
                have h := HM.out.2.2.1.below hW
                rw [HM.out.2.1] at h
                exact refFind_any b.1 K (.slice AR m cR) b.2.2 k' W (by have := HM.out.2.1; omega) h
              clear hb hbe hK
              go_wp2_with fail
              go_loopw [10] (fun j wi => ∃ k : Nat, j = .int .i64 k ∧ k ≤ m ∧ Below w.heap.size w wi ∧ twice ((b.2.2.take k).map zF) = false) (fun j _ => m - (intOf j).toNat)
              case atStart => exact ⟨0, rfl, Nat.zero_le _, HB.out, rfl⟩
              case round =>
                obtain ⟨k, rfl, hk, hb, hno⟩ := hrel
                have HBi := Lib.hid hb
                have HNi := Lib.hid hno
                clear hno
                rcases Nat.lt_or_ge k m with hkm | hkm
                · skip
                  have hkl : k < b.2.2.length := by rw [HM.out.2.1]; exact hkm
                  obtain ⟨f, hf⟩ : ∃ f, b.2.2[k] = f := ⟨_, rfl⟩
                  have hrw := HM.out.2.2.1
                  rw [HM.out.2.1] at hrw
                  obtain ⟨ad2, X2, rfl, hX2, f0, f1, f2⟩ := hrw.parts.2.2.2 k hkm f (by rw [List.getElem?_eq_getElem hkl, hf])
                  replace f0 := cell9_below f0 hb
                  replace f1 := cell9_below f1 hb
                  replace f2 := cell9_below f2 hb
                  have hfs := HM.out.1.fields.2.2 f (by rw [← hf]; exact List.getElem_mem hkl)
                  have p0 : (0 : Int) ≤ k := by omega
                  have p1 : (k : Int) < m := by omega
                  obtain ⟨c0, c1, c2⟩ := HCl.out _ hb
                  have HF := Lib.hid (And.intro hkl (And.intro hf hfs))
                  clear hrw hf hfs
                  have HFd := Lib.hid (fun W hW => HFd0.out W f.2.1 hW)
                  have hat := fnd_at f.2.1 b.2.2 0 k HF.out.1 (by rw [HF.out.2.1])
                  have hts := twice_step b.2.2 k HF.out.1 HNi.out
                  rw [HF.out.2.1] at hts
                  rw [Nat.zero_add] at hat
                  obtain ⟨N1, hN1⟩ : ∃ x, str f.2.1 = x := ⟨_, rfl⟩
                  rw [hN1] at f1 HFd
                  generalize fndN f.2.1 b.2.2 0 = r at *
                  have HS0 : Hid (∀ W, Below wr.heap.size wr W → (Below w.heap.size w W ∧ W.cell? X = some (.int .i64 b.1) ∧ W.cell? { block := X.block, off := X.off + 1 } = some (.string K) ∧ W.cell? { block := X.block, off := X.off + 2 } = some (.slice (some ad2) m cR) ∧ W.cell? { block := X2.block, off := X2.off + 1 } = some (.string N1))) := fun W hW => by
                    have h1 := HBi.out.trans (hW.mono HBi.out.size)
                    obtain ⟨d0, d1, d2⟩ := HCl.out W h1
                    exact ⟨h1, d0, d1, d2, cell9_below f1 hW⟩
                  have HDr : Hid (Below w.heap.size w wr.drew ∧ wr.drew.cell? X = some (.int .i64 b.1) ∧ wr.drew.cell? { block := X.block, off := X.off + 1 } = some (.string K) ∧ wr.drew.cell? { block := X.block, off := X.off + 2 } = some (.slice (some ad2) m cR) ∧ wr.drew.cell? { block := X2.block, off := X2.off + 1 } = some (.string N1)) := HS0.out _ (below_dr _ _)
                  have HSt : Hid (∀ W W', (Below w.heap.size w W ∧ W.cell? X = some (.int .i64 b.1) ∧ W.cell? { block := X.block, off := X.off + 1 } = some (.string K) ∧ W.cell? { block := X.block, off := X.off + 2 } = some (.slice (some ad2) m cR) ∧ W.cell? { block := X2.block, off := X2.off + 1 } = some (.string N1)) → Below W.heap.size W W' → (Below w.heap.size w W' ∧ W'.cell? X = some (.int .i64 b.1) ∧ W'.cell? { block := X.block, off := X.off + 1 } = some (.string K) ∧ W'.cell? { block := X.block, off := X.off + 2 } = some (.slice (some ad2) m cR) ∧ W'.cell? { block := X2.block, off := X2.off + 1 } = some (.string N1))) := fun W W' h hb' => by
                    have h1 := h.1.trans (hb'.mono h.1.size)
                    obtain ⟨d0, d1, d2⟩ := HCl.out W' h1
                    exact ⟨h1, d0, d1, d2, cell9_below h.2.2.2.2 hb'⟩
                  have HFw : Hid (∀ W, (Below w.heap.size w W ∧ W.cell? X = some (.int .i64 b.1) ∧ W.cell? { block := X.block, off := X.off + 1 } = some (.string K) ∧ W.cell? { block := X.block, off := X.off + 2 } = some (.slice (some ad2) m cR) ∧ W.cell? { block := X2.block, off := X2.off + 1 } = some (.string N1)) → Calls Tryz.prog 24 #[.agg #[.int .i64 b.1, .string K, .slice (some ad2) m cR], .string N1] W fun e w' => e = .returned (.int .i64 r) ∧ Below W.heap.size W w') := fun W h => HFd.out W h.1
                  clear hb hN1 f0 f2 HFd HFd0 HS0
                  cases hta : (b.2.2.take k).any fun g => g.2.1 == f.2.1
                  case' false =>
                    have hre : r = k := hat.1 hta
                    have HV : Hid (twice ((b.2.2.take (k + 1)).map zF) = false) := hts.trans hta
                    have t1 : ((k : Int) == (k : Int)) = true := beq_self_eq_true _
                    subst hre
                  case' true =>
                    have hre : r ≠ k := hat.2 hta
                    have HV : Hid (twice ((b.2.2.take (k + 1)).map zF) = true) := hts.trans hta
                    have t1 : (r == (k : Int)) = false := beq_eq_false_iff_ne.2 hre
                  all_goals
                    clear hat hts hta
                    go_wp2_with fail
                    go_region_held3 (fun W => Below w.heap.size w W ∧ W.cell? X = some (.int .i64 b.1) ∧ W.cell? { block := X.block, off := X.off + 1 } = some (.string K) ∧ W.cell? { block := X.block, off := X.off + 2 } = some (.slice (some ad2) m cR) ∧ W.cell? { block := X2.block, off := X2.off + 1 } = some (.string N1)) (first | exact HDr.out | assumption | exact HSt.out _ _ (by assumption) (by assumption)) (first
                      | (go_at_call 24
                         refine (HFw.out _ (by assumption)).mono ?_
                         rintro e w4 ⟨rfl, hb4⟩))
                    go_wp2_with fail
                    first
                    | exact ⟨⟨k + 1, by go_num, hkm, And.left (by assumption), HV.out⟩, by simp [intOf]; omega⟩
                    | (go_ret2
                       refine rtP (T := []) (k := 7) ?_ rfl rfl (And.left (by assumption))
                       rw [HT3.out, if_pos (anyT_hit L twM a HM.out.2.2.2.2 ?_)]
                       rw [HM.out.2.2.2.1]
                       exact twice_more b.2.2 (k + 1) HV.out)
                · have hkm' : m = k := by omega
                  subst hkm'
                  have p1 : ¬ ((m : Int) < m) := by omega
                  obtain ⟨c0, c1, c2⟩ := HCl.out _ hb
                  clear hb
                  go_wp2_with fail
                  refine ⟨⟨a + 1, by go_num, hlt, HBi.out, anyT_succ L twM a HM.out.2.2.2.2 HNo.out ?_⟩, by simp [intOf]; omega⟩
                  rw [HM.out.2.2.2.1]
                  have h := HNi.out
                  rw [List.take_of_length_le (by have := HM.out.2.1; omega)] at h
                  exact h
            · have han : n = a := by omega
              subst han
              have q1 : ¬ ((n : Int) < n) := by omega
              have HT4 : Hid (textT (L.map zB) = if L.any ovM = true then ([], 10) else if (L.map zB).any longB = true ∨ 65536 < (textB (L.map zB)).length then ([], 2) else (textB (L.map zB), 0)) := by
                unfold Hid
                rw [HT3.out, anyT_end HNo.out HN.out.1, if_neg (by simp)]
              clear hb HNo HT3 ha hge
              go_wp2_with fail
              clear q1
              go_loopw [11] (fun i wr => ∃ a : Nat, i = .int .i64 a ∧ a ≤ n ∧ Below w.heap.size w wr ∧ (L.take a).any ovM = false) (fun i _ => n - (intOf i).toNat)
              case atStart => exact ⟨0, rfl, Nat.zero_le _, HB.out, rfl⟩
              case round =>
                clear HB
                obtain ⟨a, rfl, ha, hb, hno⟩ := hrel
                have HB := Lib.hid hb
                have HNo := Lib.hid hno
                clear hno
                rcases Nat.lt_or_ge a n with hlt | hge
                · skip
                  have hal : a < L.length := by rw [HN.out.1]; exact hlt
                  obtain ⟨b, hbe⟩ : ∃ b, L[a] = b := ⟨_, rfl⟩
                  have hbq : L[a]? = some b := by rw [List.getElem?_eq_getElem hal, hbe]
                  obtain ⟨ad, X, vR, rfl, hX, g0, g1, g2, hrf⟩ := HRow.out.parts.2.2.2 a hlt b hbq
                  obtain ⟨AR, cR, rfl, hrf'⟩ := hrf.form
                  have hsm : Smal 9000 b := HN.out.2 b (List.mem_of_getElem? hbq)
                  obtain ⟨m, hm⟩ : ∃ m, b.2.2.length = m := ⟨_, rfl⟩
                  have hm6 : m ≤ 80 := by rw [← hm]; exact hsm.1
                  have hrm := hrf'.parts
                  rw [hm] at g2 hrm
                  have hcR1 := hrm.2.1
                  have hcR2 := hrm.2.2.1
                  have q0 : (0 : Int) ≤ a := by omega
                  have q1 : (a : Int) < n := by omega
                  have HG := Lib.hid (And.intro g0 (And.intro g1 g2))
                  have HM := Lib.hid (And.intro hsm (And.intro hm (And.intro hrf' (And.intro hbe hal))))
                  have HCl : Hid (∀ W, Below w.heap.size w W → W.cell? X = some (.int .i64 b.1) ∧ W.cell? { block := X.block, off := X.off + 1 } = some (.string (str b.2.1)) ∧ W.cell? { block := X.block, off := X.off + 2 } = some (.slice AR m cR)) := fun W hW => ⟨cell9_below HG.out.1 hW, cell9_below HG.out.2.1 hW, cell9_below HG.out.2.2 hW⟩
                  clear hrf hrf' hsm hm hbq hrm g0 g1 g2
                  obtain ⟨c0, c1, c2⟩ := HCl.out _ hb
                  have hov : ovM b = decide (64 < m) := by unfold ovM; rw [HM.out.2.1]
                  clear hb hbe
                  by_cases h64 : 64 < m
                  · have r1 : (64 : Int) < m := by omega
                    have HV : Hid (ovM b = true) := hov.trans (decide_eq_true h64)
                    clear hov h64
                    go_wp2_with fail
                    go_ret2
                    refine rtP (T := []) (k := 10) ?_ rfl rfl HB.out
                    rw [HT4.out, if_pos (anyT_hit L ovM a HM.out.2.2.2.2 ?_)]
                    rw [HM.out.2.2.2.1]
                    exact HV.out
                  · have r1 : ¬ (64 : Int) < m := by omega
                    have HV : Hid (ovM b = false) := hov.trans (decide_eq_false h64)
                    clear hov h64
                    go_wp2_with fail
                    exact ⟨⟨a + 1, by go_num, hlt, HB.out, anyT_succ L ovM a HM.out.2.2.2.2 HNo.out (by rw [HM.out.2.2.2.1]; exact HV.out)⟩, by simp [intOf]; omega⟩
                · have han : n = a := by omega
                  subst han
                  have q1 : ¬ ((n : Int) < n) := by omega
                  have HT5 : Hid (textT (L.map zB) = if (L.map zB).any longB = true ∨ 65536 < (textB (L.map zB)).length then ([], 2) else (textB (L.map zB), 0)) := by
                    unfold Hid
                    rw [HT4.out, anyT_end HNo.out HN.out.1, if_neg (by simp)]
                  clear hb HNo HT4 ha hge
                  go_wp2_with fail
                  clear q1
                  go_loopw [12, 13] (fun t i wr => ∃ a : Nat, i = .int .i64 a ∧ a ≤ n ∧ t = .string (str (tx0 L a)) ∧ Below w.heap.size w wr ∧ (tx0 L a).length ≤ 65536 ∧ ∀ b ∈ L.take a, longB (zB b) = false) (fun _ i _ => n - (intOf i).toNat)
                  case atStart => exact ⟨0, rfl, Nat.zero_le _, rfl, HB.out, Nat.zero_le _, fun b hb => by rw [List.take_zero] at hb; cases hb⟩
                  case round =>
                    clear HB
                    obtain ⟨a, rfl, ha, rfl, hb, hT5, hno⟩ := hrel
                    have HB := Lib.hid hb
                    have HNo := Lib.hid (And.intro hT5 hno)
                    clear hno
                    obtain ⟨S0, hS0⟩ : ∃ x, str (tx0 L a) = x := ⟨_, rfl⟩
                    have hz0 : S0.size ≤ 65536 := by rw [← hS0]; exact hT5
                    have HS0 := Lib.hid hS0
                    rw [hS0]
                    clear hT5 hS0
                    rcases Nat.lt_or_ge a n with hlt | hge
                    · skip
                      have hal : a < L.length := by rw [HN.out.1]; exact hlt
                      obtain ⟨b, hbe⟩ : ∃ b, L[a] = b := ⟨_, rfl⟩
                      have hbq : L[a]? = some b := by rw [List.getElem?_eq_getElem hal, hbe]
                      obtain ⟨ad, X, vR, rfl, hX, g0, g1, g2, hrf⟩ := HRow.out.parts.2.2.2 a hlt b hbq
                      obtain ⟨AR, cR, rfl, hrf'⟩ := hrf.form
                      have hsm : Smal 9000 b := HN.out.2 b (List.mem_of_getElem? hbq)
                      obtain ⟨m, hm⟩ : ∃ m, b.2.2.length = m := ⟨_, rfl⟩
                      have hm6 : m ≤ 80 := by rw [← hm]; exact hsm.1
                      have hrm := hrf'.parts
                      rw [hm] at g2 hrm
                      have hcR1 := hrm.2.1
                      have hcR2 := hrm.2.2.1
                      have q0 : (0 : Int) ≤ a := by omega
                      have q1 : (a : Int) < n := by omega
                      have HG := Lib.hid (And.intro g0 (And.intro g1 g2))
                      have HM := Lib.hid (And.intro hsm (And.intro hm (And.intro hrf' (And.intro hbe hal))))
                      have HCl : Hid (∀ W, Below w.heap.size w W → W.cell? X = some (.int .i64 b.1) ∧ W.cell? { block := X.block, off := X.off + 1 } = some (.string (str b.2.1)) ∧ W.cell? { block := X.block, off := X.off + 2 } = some (.slice AR m cR)) := fun W hW => ⟨cell9_below HG.out.1 hW, cell9_below HG.out.2.1 hW, cell9_below HG.out.2.2 hW⟩
                      clear hrf hrf' hsm hm hbq hrm g0 g1 g2
                      obtain ⟨c0, c1, c2⟩ := HCl.out _ hb
                      obtain ⟨K, hK⟩ : ∃ K, str b.2.1 = K := ⟨_, rfl⟩
                      have hsK : K.size ≤ 9000 := by rw [← hK]; exact HM.out.1.fields.2.1
                      have HE0 : Hid (S0 ++ str (defineT ++ [32]) ++ K ++ str [32, 123, 10] = str (tx1 (tx0 L a) b 0)) := by
                        unfold Hid
                        rw [← hK, ← HS0.out, str_cat, str_cat, str_cat, ← tx1_zero]
                        congr 1
                        simp
                      rw [hK] at HCl c1
                      clear hb hbe hK
                      go_wp2_with fail
                      go_loopw [12, 14] (fun t j wi => ∃ k : Nat, j = .int .i64 k ∧ k ≤ m ∧ t = .string (str (tx1 (tx0 L a) b k)) ∧ Below w.heap.size w wi ∧ (∀ f ∈ b.2.2.take k, ¬ 4096 < (lineF (zF f)).length)) (fun _ j _ => m - (intOf j).toNat)
                      case atStart => exact ⟨0, rfl, Nat.zero_le _, congrArg Value.string HE0.out, HB.out, fun f hf => by rw [List.take_zero] at hf; cases hf⟩
                      case round =>
                        clear c0 c1 c2
                        obtain ⟨k, rfl, hk, rfl, hb, hno⟩ := hrel
                        have HBi := Lib.hid hb
                        have HNi := Lib.hid hno
                        obtain ⟨S1, hS1⟩ : ∃ x, str (tx1 (tx0 L a) b k) = x := ⟨_, rfl⟩
                        have hz1 : S1.size ≤ 10000000 := by
                          rw [← hS1]
                          show (tx1 (tx0 L a) b k).length ≤ _
                          have := tx1_len (tx0 L a) b HM.out.1 k
                          have := HNo.out.1
                          omega
                        have HS1 := Lib.hid hS1
                        rw [hS1]
                        clear hno hS1
                        rcases Nat.lt_or_ge k m with hkm | hkm
                        · skip
                          have hkl : k < b.2.2.length := by rw [HM.out.2.1]; exact hkm
                          obtain ⟨f, hf⟩ : ∃ f, b.2.2[k] = f := ⟨_, rfl⟩
                          have hrw := HM.out.2.2.1
                          rw [HM.out.2.1] at hrw
                          obtain ⟨ad2, X2, rfl, hX2, f0, f1, f2⟩ := hrw.parts.2.2.2 k hkm f (by rw [List.getElem?_eq_getElem hkl, hf])
                          replace f0 := cell9_below f0 hb
                          replace f1 := cell9_below f1 hb
                          replace f2 := cell9_below f2 hb
                          have hfs := HM.out.1.fields.2.2 f (by rw [← hf]; exact List.getElem_mem hkl)
                          have p0 : (0 : Int) ≤ k := by omega
                          have p1 : (k : Int) < m := by omega
                          obtain ⟨c0, c1, c2⟩ := HCl.out _ hb
                          have HF := Lib.hid (And.intro hkl (And.intro hf hfs))
                          clear hrw hf hfs
                          have hsc := tx1_succ (tx0 L a) b k HF.out.1
                          rw [HF.out.2.1] at hsc
                          obtain ⟨ll, hlle⟩ : ∃ x, (lineF (zF f)).length = x := ⟨_, rfl⟩
                          obtain ⟨LS, hLS⟩ : ∃ x, str (lineF (zF f)) = x := ⟨_, rfl⟩
                          have hszL : LS.size = ll := by rw [← hLS]; exact hlle
                          have hll : ll ≤ 20000 := by have := lineF_len f; have := HF.out.2.2; omega
                          have HLs : Hid (S1 ++ str [32, 32] ++ LS ++ str [10] = str (tx1 (tx0 L a) b (k + 1))) := by
                            unfold Hid
                            rw [← hLS, ← HS1.out, str_cat, str_cat, str_cat, ← hsc]
                            congr 1
                            simp
                          have HG4 : Hid (4096 < ll → (L.map zB).any longB = true) := fun h => by
                            obtain ⟨_, _, _, h5, h6⟩ := HM.out
                            subst h5
                            exact long_at L a k h6 HF.out.1 (by rw [HF.out.2.1, hlle]; exact h)
                          have HN4 : Hid (¬ 4096 < ll → ∀ g ∈ b.2.2.take (k + 1), ¬ 4096 < (lineF (zF g)).length) := fun h g hg => by
                            rw [List.take_succ_eq_append_getElem HF.out.1, HF.out.2.1] at hg
                            rcases List.mem_append.1 hg with hg | hg
                            · exact HNi.out g hg
                            · rw [List.mem_singleton.1 hg, hlle]
                              exact h
                          have hE := str_ne8 (l := f.2.2) (b := f.2.2.isEmpty) rfl
                          have hL1 : f.2.2 = [] → str f.2.1 = LS := fun h => by
                            rw [← hLS]
                            unfold lineF
                            rw [if_pos (show (zF f).2.2 = [] from h)]
                            rfl
                          have hL2 : f.2.2 ≠ [] → str f.2.1 ++ str [32] ++ str f.2.2 = LS := fun h => by
                            rw [← hLS]
                            unfold lineF
                            rw [if_neg (show ¬ (zF f).2.2 = [] from h), str_cat, str_cat]
                            rfl
                          have hsz1 : (str f.2.1).size ≤ 9000 := HF.out.2.2.1
                          have hsz2 : (str f.2.2).size ≤ 9000 := HF.out.2.2.2
                          obtain ⟨N1, hN1⟩ : ∃ x, str f.2.1 = x := ⟨_, rfl⟩
                          obtain ⟨N2, hN2⟩ : ∃ x, str f.2.2 = x := ⟨_, rfl⟩
                          rw [hN1] at f1 hL1 hL2 hsz1
                          rw [hN2] at f2 hL2 hsz2 hE
                          have HB4 := Lib.hid (HBi.out.trans (((Below.refl _ _).alloc (Nat.le_refl _) (.cells #[.int .i64 f.1, .string N1, .string N2] 73)).mono HBi.out.size))
                          clear hb hN1 hN2 hLS hlle hsc
                          cases hv : f.2.2.isEmpty
                          · rw [hv] at hE
                            have HL : Hid (N1 ++ str [32] ++ N2 = LS) := hL2 fun h => by rw [h] at hv; cases hv
                            have HLz : Hid ((N1 ++ str [32] ++ N2).size = ll) := by unfold Hid; rw [HL.out]; exact hszL
                            clear hL1 hL2 hv
                            have hsum : N1.size + 1 + N2.size = ll := by
                              rw [← hszL, ← HL.out, ByteArray.size_append, ByteArray.size_append]
                              rfl
                            by_cases hlong : 4096 < ll
                            · have r1 : (4096 : Int) < (N1.size : Int) + 1 + N2.size := by omega
                              clear hsum
                              go_wp2_with fail
                              go_ret2
                              exact rtP (T := []) (k := 2) (by rw [HT5.out, if_pos (.inl (HG4.out hlong))]) rfl rfl HB4.out
                            · have r1 : ¬ (4096 : Int) < (N1.size : Int) + 1 + N2.size := by omega
                              clear hsum
                              go_wp2_with fail
                              refine ⟨⟨k + 1, by go_num, hkm, congrArg Value.string ?_, HB4.out, HN4.out hlong⟩, by simp [intOf]; omega⟩
                              rw [← HLs.out, ← HL.out]
                              rfl
                          · rw [hv] at hE
                            have HL : Hid (N1 = LS) := hL1 (List.isEmpty_iff.1 hv)
                            clear hL1 hL2 hv
                            have hNL := HL.out
                            subst hNL
                            by_cases hlong : 4096 < ll
                            · have r1 : (4096 : Int) < ll := by omega
                              go_wp2_with fail
                              go_ret2
                              exact rtP (T := []) (k := 2) (by rw [HT5.out, if_pos (.inl (HG4.out hlong))]) rfl rfl HB4.out
                            · have r1 : ¬ (4096 : Int) < ll := by omega
                              go_wp2_with fail
                              exact ⟨⟨k + 1, by go_num, hkm, congrArg Value.string HLs.out, HB4.out, HN4.out hlong⟩, by simp [intOf]; omega⟩
                        · have hkm' : m = k := by omega
                          subst hkm'
                          have p1 : ¬ ((m : Int) < m) := by omega
                          obtain ⟨c0, c1, c2⟩ := HCl.out _ hb
                          clear hb
                          have hE1 : tx1 (tx0 L a) b m ++ [125, 10] = tx0 L (a + 1) := by
                            obtain ⟨_, h4, _, h5, h6⟩ := HM.out
                            subst h5
                            rw [← h4]
                            exact tx1_end L a h6
                          have HE1 : Hid (S1 ++ str [125, 10] = str (tx0 L (a + 1))) := by
                            unfold Hid
                            rw [← HS1.out, str_cat, hE1]
                          obtain ⟨tl, htl⟩ : ∃ x, (tx0 L (a + 1)).length = x := ⟨_, rfl⟩
                          have hsz : (S1 ++ str [125, 10]).size = tl := by rw [HE1.out]; exact htl
                          have htl6 : tl ≤ 10000010 := by
                            rw [← htl, ← hE1, List.length_append]
                            have h1 : (tx1 (tx0 L a) b m).length ≤ 10000000 := by
                              have := HS1.out
                              rw [← this] at hz1
                              exact hz1
                            have h2 : ([125, 10] : Tx).length = 2 := rfl
                            omega
                          have HNo2 : Hid (∀ b ∈ L.take (a + 1), longB (zB b) = false) := fun c hc => by
                            obtain ⟨_, h4, _, h5, h6⟩ := HM.out
                            rw [List.take_succ_eq_append_getElem h6, h5] at hc
                            rcases List.mem_append.1 hc with hc | hc
                            · exact HNo.out.2 c hc
                            · rw [List.mem_singleton.1 hc]
                              exact long_no b fun f hf => HNi.out f (by rw [← h4, List.take_length]; exact hf)
                          have HBig : Hid (65536 < tl → 65536 < (textB (L.map zB)).length) := fun h => Nat.lt_of_lt_of_le (by rw [htl]; exact h) (tx0_le L (a + 1))
                          have HTL := Lib.hid htl
                          obtain ⟨S2, hS2⟩ : ∃ x, S1 ++ str [125, 10] = x := ⟨_, rfl⟩
                          rw [hS2] at hsz HE1
                          have hS2' : S1 ++ { data := #[125, 10] } = S2 := hS2
                          clear hE1 htl hS2
                          by_cases hbig : 65536 < tl
                          · have r1 : (65536 : Int) < tl := by omega
                            go_wp2_with fail
                            go_ret2
                            exact rtP (T := []) (k := 2) (by rw [HT5.out, if_pos (.inr (HBig.out hbig))]) rfl rfl HBi.out
                          · have r1 : ¬ (65536 : Int) < tl := by omega
                            go_wp2_with fail
                            exact ⟨⟨a + 1, by go_num, hlt, congrArg Value.string HE1.out, HBi.out, by rw [HTL.out]; omega, HNo2.out⟩, by simp [intOf]; omega⟩
                    · have han : n = a := by omega
                      subst han
                      have q1 : ¬ ((n : Int) < n) := by omega
                      clear hb ha hge
                      go_wp2_with fail
                      go_ret2
                      refine rtP (T := tx0 L n) (k := 0) ?_ HS0.out.symm rfl HB.out
                      have h1 : tx0 L n = textB (L.map zB) := by rw [← HN.out.1]; exact tx0_all L
                      rw [HT5.out, if_neg, h1]
                      rintro (h | h)
                      · rw [any_zB, List.any_eq_true] at h
                        obtain ⟨b, hb, h⟩ := h
                        have := HNo.out.2 b (by rw [← HN.out.1, List.take_length]; exact hb)
                        rw [h] at this
                        cases this
                      · have := HNo.out.1
                        rw [h1] at this
                        omega
end Go.Proofs.YtbeehedppofpnaaGreatDoor

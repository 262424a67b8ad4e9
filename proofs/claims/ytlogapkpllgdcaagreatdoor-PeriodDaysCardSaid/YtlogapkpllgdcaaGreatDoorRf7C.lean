/- The document's borders: the walk. -/
import Derived.Test.YtlogapkpllgdcaaGreatDoorRf7G
import Derived.Test.YtlogapkpllgdcaaGreatDoorRf7P
import Derived.Test.YtlogapkpllgdcaaGreatDoorPdAp7
import Derived.Deep.Cut
namespace Go.Proofs.YtlogapkpllgdcaaGreatDoor
open Go.RowKit

def Sub7 (B B' : List Bool) : Prop := ∀ k, B.getD k false = true → B'.getD k false = true
theorem Sub7.set (B : List Bool) (y : Nat) : Sub7 B (B.set y true) := fun _ h => getD_set_keep h
theorem Sub7.trans {B B' B'' : List Bool} (h : Sub7 B B') (h' : Sub7 B' B'') : Sub7 B B'' := fun k hk => h' k (h k hk)
/-- The ends of spans are marked. -/
def AllS (sp : List Spn) (B : List Bool) : Prop := ∀ x ∈ sp, B.getD x.f.toNat false = true ∧ B.getD x.t.toNat false = true
def AllE (es : List Ent) (B : List Bool) : Prop := ∀ e ∈ es, AllS e.sp B
def AllP (l : List Prd) (B : List Bool) : Prop := ∀ p ∈ l, AllE p.es B
theorem AllS.mono {sp : List Spn} {B B' : List Bool} (h : AllS sp B) (hs : Sub7 B B') : AllS sp B' := fun x hx => ⟨hs _ (h x hx).1, hs _ (h x hx).2⟩
theorem AllE.mono {es : List Ent} {B B' : List Bool} (h : AllE es B) (hs : Sub7 B B') : AllE es B' := fun x hx => (h x hx).mono hs
theorem AllP.mono {l : List Prd} {B B' : List Bool} (h : AllP l B) (hs : Sub7 B B') : AllP l B' := fun x hx => (h x hx).mono hs
theorem all_take7 {α : Type} {Q : α → Prop} {L : List α} {k : Nat} {x : α} (hk : L[k]? = some x) (h : ∀ y ∈ L.take k, Q y) (hx : Q x) : ∀ y ∈ L.take (k + 1), Q y := by
  intro y hy
  rw [List.take_add_one, List.mem_append, hk] at hy
  rcases hy with hy | hy
  · exact h y hy
  · have : y = x := by simpa using hy
    rw [this]; exact hx
theorem bord_false {l : List Prd} {B : List Bool} {s : Nat} (h0 : B.getD 0 false = true) (h : AllP l B) (hs : B.getD s false = false) : bordB l s = false := by
  cases hb : bordB l s
  · rfl
  · exfalso
    unfold bordB at hb
    simp only [Bool.or_eq_true, beq_iff_eq, List.any_eq_true] at hb
    rcases hb with rfl | ⟨p, hp, e, he, x, hx, ha⟩
    · rw [h0] at hs; cases hs
    · obtain ⟨h1, h2⟩ := h p hp e he x hx
      simp only [atB, Bool.or_eq_true, beq_iff_eq] at ha
      rcases ha with ha | ha
      · rw [ha, Int.toNat_natCast, hs] at h1; cases h1
      · rw [ha, Int.toNat_natCast, hs] at h2; cases h2
/-- The marks, in a block of their own. -/
structure Bk (w : World) (m b : Nat) (B : List Bool) (W : World) : Prop where
  below : Below w.heap.size w W
  base : w.heap.size ≤ b
  len : B.length = m
  zero : B.getD 0 false = true
  blk : W.heap[b]? = some (.cells (boolL B).toArray 4 (0, 0))
section
variable {w W : World} {m b : Nat} {B : List Bool}
theorem Bk.load (h : Bk w m b B W) {k : Nat} (hk : k < m) : W.cell? ⟨b, k, none⟩ = some (.bool (B.getD k false)) := cell_blk h.blk k (boolL_get B k (by rw [h.len]; exact hk))
theorem Bk.set (h : Bk w m b B W) (k : Nat) : Bk w m b (B.set k true) (W.setCell ⟨b, k, none⟩ (.bool true)) := by
  refine ⟨h.below.setCell (p := ⟨b, k, none⟩) h.base _, h.base, by rw [List.length_set]; exact h.len, getD_set_keep h.zero, ?_⟩
  have := heap_setCell_same W b k _ _ (.bool true) h.blk
  rw [boolL_set] at this
  exact this
theorem Bk.start (w : World) (m : Nat) (hm : 0 < m) (Z : Array Value) (hZ : madeCells #[.bool false] m = Z) : Bk w m w.heap.size ((List.replicate m false).set 0 true) (w.alloc (.cells (Z.setIfInBounds 0 (.bool true)) 4)) := by
  refine ⟨(Below.refl _ w).alloc (Nat.le_refl _) _, Nat.le_refl _, by rw [List.length_set, List.length_replicate], getD_set_new (by rw [List.length_replicate]; exact hm), ?_⟩
  rw [← boolL_set, ← made_false, hZ]
  exact heap_alloc_new w _
end
def natL (L : List Nat) : List Value := L.map fun x : Nat => .int .i64 (x : Int)
theorem natL_snoc (L : List Nat) (s : Nat) : natL (L ++ [s]) = natL L ++ [.int .i64 (s : Int)] := by simp [natL]
theorem natL_get (L : List Nat) (k : Nat) (hk : k < L.length) : (natL L)[k]? = some (.int .i64 ((L.getD k 0 : Nat) : Int)) := by
  unfold natL
  rw [List.getElem?_map, getD_some hk 0]
  rfl
/-- What its last loop keeps. -/
def BordR (l : List Prd) (w : World) (b : Nat) (B : List Bool) (s : Nat) (u : Value) (W : World) : Prop :=
  ∃ (L : List Nat) (q : Nat), L.length = q ∧ q ≤ s ∧ BrdUp l L s ∧ W.ownsRow w.heap.size 3 1 u q (natL L) ∧ Below w.heap.size w W ∧ W.heap[b]? = some (.cells (boolL B).toArray 4 (0, 0)) ∧ (∀ k, u.ownBlock = some k → k ≠ b)
set_option maxRecDepth 100000 in
set_option maxHeartbeats 1000000 in
theorem refBord_any (l : List Prd) (v : Value) (w : World) (hg : Good l) (hset : HPd w v l) :
    Calls Tryz.prog 35 #[v] w fun e w' => ∃ u L, e = .returned u ∧ Brd l L ∧ w'.ownsRow w.heap.size 3 1 u L.length (natL L) ∧ Below w.heap.size w w' := by
  obtain ⟨A, c, E, U, rfl, _, _, hk⟩ := hset
  obtain ⟨n, hn⟩ : ∃ n, l.length = n := ⟨_, rfl⟩
  have hn9 : (n : Int) ≤ 64 := by have := hg.len; omega
  have HK := Lib.hid hk
  have HN := Lib.hid hn
  have HG := Lib.hid hg
  rw [hn]
  obtain ⟨Z, hZ⟩ : ∃ Z, madeCells #[Value.bool false] 86401 = Z := ⟨_, rfl⟩
  obtain ⟨m, hm⟩ : ∃ m : Nat, 86401 = m := ⟨_, rfl⟩
  have hmk2 : ∀ W : World, (Instr.makeSlice 91 (.int .i64 86401) (.int .i64 86401)).run Tryz.prog W = .ok (.slice (some ⟨W.heap.size, 0, none⟩) m m) (W.alloc (.cells Z 4)) := fun W => by
    have := run_mk elB ((86401 : Nat) : Int) ((86401 : Nat) : Int) (by omega) (Int.le_refl _) (by omega) (by omega) W
    rw [← hZ, ← hm]
    exact this
  have hm1 : (0 : Int) < m := by omega
  have HBK := Lib.hid (Bk.start w m (by omega) Z (by rw [← hm]; exact hZ))
  have HM := Lib.hid hm
  obtain ⟨b, hb⟩ : ∃ b, w.heap.size = b := ⟨_, rfl⟩
  have y0 : Z[0]? = some (.bool false) := by rw [← hZ, made_false]; exact boolL_get _ 0 (by rw [List.length_replicate]; omega)
  clear hZ hk hn hg hm
  go_enter Tryz.func35, Tryz.ntmps35
  go_wp2_with fail
  rw [hb] at HBK
  have HBB := Lib.hid hb
  obtain ⟨w1, hw1⟩ : ∃ w1, w.alloc (.cells (Z.setIfInBounds 0 (.bool true)) 4) = w1 := ⟨_, rfl⟩
  rw [hw1] at HBK ⊢
  clear hb
  clear y0 hw1 hmk2
  go_loopw [4] (fun s wr => ∃ i : Nat, i ≤ n ∧ s = .int .i64 i ∧ ∃ B, Bk w m b B wr ∧ AllP (l.take i) B) (fun s _ => n - (intOf s).toNat)
  case atStart => exact ⟨0, Nat.zero_le _, rfl, _, HBK.out, fun p hp => by cases hp⟩
  case round =>
    obtain ⟨i, hi, rfl, B, hbk, hap⟩ := hrel
    obtain ⟨w2, hw2⟩ : ∃ w2, w2 = wr := ⟨_, rfl⟩
    subst hw2
    have HB := Lib.hid hbk
    have HAP := Lib.hid hap
    clear hbk hap
    by_cases hlt : (i : Int) < n
    · have HI1 := Lib.hid (show i + 1 ≤ n by omega)
      obtain ⟨⟨ad, X, hA, hX, x1, x2⟩, hes, _⟩ := HK.out i (by rw [HN.out]; omega)
      obtain ⟨p, hp⟩ : ∃ p, l.getD i dP = p := ⟨_, rfl⟩
      have hpm : p ∈ l := by rw [← hp]; exact getD_mem (by rw [HN.out]; omega) dP
      have HPI := Lib.hid (show l[i]? = some p by rw [← hp]; exact getD_some (by rw [HN.out]; omega) dP)
      rw [hp] at hes
      obtain ⟨Ae, ce, S, hE, _, _, hks⟩ := hes
      obtain ⟨ne, hne⟩ : ∃ n, p.es.length = n := ⟨_, rfl⟩
      have hne9 : (ne : Int) ≤ 64 := by have := HG.out.es p hpm; omega
      rw [hne] at hE hks
      rw [hE] at x1
      cases hA
      have HX1 := Lib.hid (fun W (hW : Below w.heap.size w W) => cell_below x1 hW)
      have HKS := Lib.hid hks
      have HNE := Lib.hid hne
      have HPM := Lib.hid hpm
      clear x1 x2 hks hne hpm hE hp
      go_wp2_with fail
      go_loopw [5] (fun s wr => ∃ k : Nat, k ≤ ne ∧ s = .int .i64 k ∧ ∃ B, Bk w m b B wr ∧ AllP (l.take i) B ∧ AllE (p.es.take k) B) (fun s _ => ne - (intOf s).toNat)
      case atStart => exact ⟨0, Nat.zero_le _, rfl, B, HB.out, HAP.out, fun p hp => by cases hp⟩
      case round =>
        obtain ⟨k, hk, rfl, B2, hbk, hap, hae⟩ := hrel
        obtain ⟨w3, hw3⟩ : ∃ w3, w3 = wr := ⟨_, rfl⟩
        subst hw3
        have y1 := HX1.out _ hbk.below
        have HB2 := Lib.hid hbk
        have HAP2 := Lib.hid hap
        have HAE2 := Lib.hid hae
        clear hbk hap hae
        by_cases hkt : (k : Int) < ne
        · have HK1 := Lib.hid (show k + 1 ≤ ne by omega)
          obtain ⟨⟨ae, Y, hAe, hY, hat⟩, hsp⟩ := HKS.out k (by omega)
          obtain ⟨en, hen⟩ : ∃ en, p.es.getD k dE = en := ⟨_, rfl⟩
          have hem : en ∈ p.es := by rw [← hen]; exact getD_mem (by rw [HNE.out]; omega) dE
          have HEI := Lib.hid (show p.es[k]? = some en by rw [← hen]; exact getD_some (by rw [HNE.out]; omega) dE)
          rw [hen] at hat hsp
          obtain ⟨_, _, _, _, _, _, _, _, _, _, c10⟩ := hat
          obtain ⟨As, cs, hS, _, _, hkk⟩ := hsp
          obtain ⟨q, hq⟩ : ∃ q, en.sp.length = q := ⟨_, rfl⟩
          have hq9 : (q : Int) ≤ 32 := by have := HG.out.sp p HPM.out en hem; omega
          rw [hq] at hS hkk
          rw [hS] at c10
          cases hAe
          have HX2 := Lib.hid (fun W (hW : Below w.heap.size w W) => cell_below c10 hW)
          have HKK := Lib.hid hkk
          have HQ := Lib.hid hq
          have HEM := Lib.hid hem
          clear c10 hkk hq hem hS hen
          go_wp2_with fail
          go_loopw [6] (fun s wr => ∃ j : Nat, j ≤ q ∧ s = .int .i64 j ∧ ∃ B, Bk w m b B wr ∧ AllP (l.take i) B ∧ AllE (p.es.take k) B ∧ AllS (en.sp.take j) B) (fun s _ => q - (intOf s).toNat)
          case atStart => exact ⟨0, Nat.zero_le _, rfl, B2, HB2.out, HAP2.out, HAE2.out, fun p hp => by cases hp⟩
          case round =>
            obtain ⟨j, hj, rfl, B3, hbk, hap, hae, has⟩ := hrel
            obtain ⟨w4, hw4⟩ : ∃ w4, w4 = wr := ⟨_, rfl⟩
            subst hw4
            have y1 := HX1.out _ hbk.below
            have y2 := HX2.out _ hbk.below
            have HB3 := Lib.hid hbk
            have HAP3 := Lib.hid hap
            have HAE3 := Lib.hid hae
            have HAS3 := Lib.hid has
            clear hbk hap hae has
            by_cases hjt : (j : Int) < q
            · have HJ1 := Lib.hid (show j + 1 ≤ q by omega)
              obtain ⟨ad7, X7, hao, hX7, e1, e2⟩ := HKK.out j (by omega)
              obtain ⟨sx, hsx⟩ : ∃ s, en.sp.getD j dS = s := ⟨_, rfl⟩
              have hsm : sx ∈ en.sp := by rw [← hsx]; exact getD_mem (by rw [HQ.out]; omega) dS
              have HSI := Lib.hid (show en.sp[j]? = some sx by rw [← hsx]; exact getD_some (by rw [HQ.out]; omega) dS)
              obtain ⟨b1, b2, b3⟩ := badS_no (HG.out.span p HPM.out en HEM.out sx hsm)
              rw [hsx] at e1 e2
              obtain ⟨fz, tz⟩ := sx
              simp only at e1 e2 b1 b2 b3
              obtain ⟨f, rfl⟩ : ∃ f : Nat, fz = f := ⟨fz.toNat, by omega⟩
              obtain ⟨t, rfl⟩ : ∃ t : Nat, tz = t := ⟨tz.toNat, by omega⟩
              have hf : (f : Int) < m := by rw [← HM.out]; omega
              have ht : (t : Int) < m := by rw [← HM.out]; omega
              have HB4 := Lib.hid (HB3.out.set f)
              obtain ⟨w5, hw5⟩ : ∃ w5, w4.setCell ⟨b, f, none⟩ (.bool true) = w5 := ⟨_, rfl⟩
              rw [hw5] at HB4
              have HB5 := Lib.hid (HB4.out.set t)
              have HSU := Lib.hid ((Sub7.set B3 f).trans (Sub7.set _ t))
              have HAS5 := Lib.hid (show AllS (en.sp.take (j + 1)) ((B3.set f true).set t true) from all_take7 HSI.out (HAS3.out.mono HSU.out) ⟨by
                show ((B3.set f true).set t true).getD ((f : Int)).toNat false = true
                rw [Int.toNat_natCast]
                exact getD_set_keep (getD_set_new (by rw [HB3.out.len]; omega)), by
                show ((B3.set f true).set t true).getD ((t : Int)).toNat false = true
                rw [Int.toNat_natCast]
                exact getD_set_new (by rw [List.length_set, HB3.out.len]; omega)⟩)
              have z1 := cell_below e1 HB3.out.below
              have z2 := cell_below e2 HB4.out.below
              have z3 := HB3.out.load (k := f) (by omega)
              have z4 := frz_blk HB3.out.blk f
              have z5 := HB4.out.load (k := t) (by omega)
              have z6 := frz_blk HB4.out.blk t
              have z7 := HX1.out _ HB4.out.below
              have z8 := HX2.out _ HB4.out.below
              have HW5 := Lib.hid hw5
              have hf0 : (0 : Int) ≤ f := by omega
              have ht0 : (0 : Int) ≤ t := by omega
              cases hao
              clear e1 e2 hsx hsm b1 b2 b3 hw5
              go_upto_region 13 with (fail)
              rw [HW5.out]
              go_wp2_with fail
              go_round
              case rel => exact ⟨j + 1, HJ1.out, by go_num, (B3.set f true).set t true, HB5.out, HAP3.out.mono HSU.out, HAE3.out.mono HSU.out, HAS5.out⟩
              case measure => simp [intOf]; omega
            · have HF := Lib.hid (show AllE (p.es.take (k + 1)) B3 from all_take7 HEI.out HAE3.out (by have := HAS3.out; rw [List.take_of_length_le (by rw [HQ.out]; omega)] at this; exact this))
              go_wp2_with fail
              go_round
              case rel => exact ⟨k + 1, HK1.out, by go_num, B3, HB3.out, HAP3.out, HF.out⟩
              case measure => simp [intOf]; omega
        · have HF := Lib.hid (show AllP (l.take (i + 1)) B2 from all_take7 HPI.out HAP2.out (by have := HAE2.out; rw [List.take_of_length_le (by rw [HNE.out]; omega)] at this; exact this))
          go_wp2_with fail
          go_round
          case rel => exact ⟨i + 1, HI1.out, by go_num, B2, HB2.out, HF.out⟩
          case measure => simp [intOf]; omega
    · have HBF := Lib.hid (show ∀ s, B.getD s false = false → bordB l s = false from fun s hs => bord_false HB.out.zero (by have := HAP.out; rw [List.take_of_length_le (by rw [HN.out]; omega)] at this; exact this) hs)
      go_wp2_with fail
      go_loopw [7, 8] (fun u s wr => ∃ q : Nat, q ≤ 86400 ∧ s = .int .i64 q ∧ BordR l w b B q u wr) (fun _ s _ => 86400 - (intOf s).toNat)
      case atStart => exact ⟨0, Nat.zero_le _, rfl, [], 0, rfl, Nat.le_refl _, BrdUp.start l, World.ownsRow_nil _ _ _ _, HB.out.below, HB.out.blk, fun k hk => by cases hk⟩
      case round =>
        obtain ⟨q, hq, rfl, L, z, hL, hzq, hup, hown, hbw, hblk, hne⟩ := hrel
        have HR := Lib.hid (And.intro hL (And.intro hup (And.intro hown (And.intro hbw (And.intro hblk hne)))))
        have HQ := Lib.hid hq
        have HZQ := Lib.hid hzq
        clear hL hzq hup hown hbw hblk hne hq
        by_cases hqt : (q : Int) < 86400
        · have hqm : (q : Int) < m := by rw [← HM.out]; omega
          have HQ1 := Lib.hid (show q + 1 ≤ 86400 by omega)
          have HQT := Lib.hid hqt
          have y1 := cell_blk HR.out.2.2.2.2.1 q (boolL_get B q (by rw [HB.out.len]; omega))
          obtain ⟨bf, hbf⟩ : ∃ x, B.getD q false = x := ⟨_, rfl⟩
          rw [hbf] at y1
          cases bf with
          | false =>
            have HF := Lib.hid (show BordR l w b B (q + 1) u7 wr from ⟨L, z, HR.out.1, Nat.le_succ_of_le HZQ.out, HR.out.2.1.no (HBF.out q hbf), HR.out.2.2.1, HR.out.2.2.2.1, HR.out.2.2.2.2.1, HR.out.2.2.2.2.2⟩)
            clear hbf
            go_wp2_with fail
            go_roundw
            case rel => exact ⟨q + 1, HQ1.out, by go_num, HF.out⟩
            case measure => simp [intOf]; have := HQT.out; omega
          | true =>
            clear hbf
            have hzz : z ≤ 86400 := Nat.le_trans HZQ.out HQ.out
            have HZZ := Lib.hid hzz
            clear hzz
            go_wp2_with
              (at_builtin
               refine wpList_app rfl (.tmp 80) (.tmp 82) 55 rfl elI w.heap.size u7 z (natL L) rfl (HR.out.2.2.1.alloc _) (some ⟨wr.heap.size, 0, none⟩) 1 1 [.int .i64 (q : Int)] rfl rfl (Rd.block (heap_alloc_new wr (.cells #[.int .i64 (q : Int)] 3))) (by intro u hu; simp only [List.mem_cons, List.not_mem_nil, or_false] at hu; rw [hu]; rfl) (by have := HZZ.out; unfold maxLen; omega) (by have := HZZ.out; omega) (by rw [World.size_alloc]; have := HR.out.2.2.2.1.size; omega) ?_)
            intro v' w' ho hg hor
            have hbl := (Array.getElem?_eq_some_iff.1 HR.out.2.2.2.2.1).1
            have HF := Lib.hid (show BordR l w b B (q + 1) v' w' from ⟨L ++ [q], z + 1, by rw [List.length_append, HR.out.1]; rfl, Nat.succ_le_succ HZQ.out, HR.out.2.1.yes, by rw [natL_snoc]; exact ho,
              (HR.out.2.2.2.1.alloc HR.out.2.2.2.1.size _).grown hg (by rw [World.size_alloc]; have := HR.out.2.2.2.1.size; omega) (fun k hk => (HR.out.2.2.1.lt k hk).1),
              (hg.block b (by rw [World.size_alloc]; omega) (fun e => HR.out.2.2.2.2.2 b e.symm rfl)).trans ((Below.heap_alloc wr _ b hbl).trans HR.out.2.2.2.2.1), fun k hk => by
                rcases hor with h | h
                · rw [h] at hk; exact HR.out.2.2.2.2.2 k hk
                · rw [h] at hk; injection hk with hk; omega⟩)
            clear ho hg hor hbl
            go_wp2_with fail
            go_roundw
            case rel => exact ⟨q + 1, HQ1.out, by go_num, HF.out⟩
            case measure => simp [intOf]; have := HQT.out; omega
        · obtain rfl : q = 86400 := by have := HQ.out; omega
          go_wp2_with fail
          go_ret
          exact ⟨u7, rfl, L, HR.out.2.1.end_, by rw [HR.out.1]; exact HR.out.2.2.1, HR.out.2.2.2.1⟩
end Go.Proofs.YtlogapkpllgdcaaGreatDoor

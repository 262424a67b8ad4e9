/- PdLayA, PdLay, in one text. -/
import Derived.Test.YtlogapkpllgdcaaGreatDoorPdNs
import Derived.Test.YtlogapkpllgdcaaGreatDoorPdIs
import Derived.Deep.Cut
/- What lay makes: a day's words, and the counts of whole words; what its loop keeps. -/
namespace Go.Proofs.YtlogapkpllgdcaaGreatDoor
open Go.RowKit

theorem elU : Elem Tryz.prog 93 131 (.int .u64 0) 8 := ⟨Tryz.underlying93, by kernel_rfl, rfl⟩
theorem made_u64 (n : Nat) : madeCells #[Value.int .u64 0] n = (u64L (List.replicate n 0)).toArray := by
  rw [← Array.toList_inj, toList_madeCells_one]
  simp [u64L]
theorem whole_zero : Tryz.zeroCells162 = (intL (List.replicate 1350 0)).toArray := by
  have h : Tryz.zeroCells162 = Array.replicate 1350 (.int .i64 0) := by kernel_rfl
  rw [h, ← Array.toList_inj, Array.toList_replicate]
  unfold intL
  rw [List.map_replicate]
theorem shl_max (k : Nat) : IntKind.u64.wrap (18446744073709551615 * 2 ^ k) = ((headN k : Nat) : Int) := by
  rw [IntKind.wrap_u64]
  unfold headN
  simp
theorem tail_max (k : Nat) : (18446744073709551615 : Int) / 2 ^ (63 - k) = ((tailN k : Nat) : Int) := by
  unfold tailN
  simp
/-- What lay's first loop keeps: the first k spans are laid by their ends, and counted. -/
def LayR (w : World) (l : List Spn) (k : Nat) (W : World) : Prop :=
  ∃ (ws : List Nat) (cs : List Int), W.heap[w.heap.size]? = some (.cells (u64L ws).toArray 131 (0, 0)) ∧ W.heap[w.heap.size + 1]? = some (.cells (intL cs).toArray 162 (0, 0)) ∧ Words ws ∧ cs.length = 1350 ∧
    (∀ j, bit ws j = (l.take k).any fun s => endS s j) ∧ (∀ i, i < 1350 → lk cs i = stepN (l.take k) i) ∧ Below w.heap.size w W
theorem run_index_whole (cs : List Int) (hn : cs.length = 1350) (k : Nat) (hk : k < 1350) (W : World) : (Instr.index 162 (.agg (intL cs).toArray) (.int .i64 (k : Int))).run Tryz.prog W = .ok (.int .i64 (lk cs k)) W := by
  have hu : (underlying 162).run Tryz.prog W = .ok (.array 1350 3) W := run_underlying Tryz.underlying162 W
  have hs : (sizeOf 3).run Tryz.prog W = .ok 1 W := by kernel_rfl
  have hc := intL_get cs k (by rw [hn]; exact hk)
  have hc' : (intL cs)[k]? = some (.int .i64 (lk cs k)) := by rw [← List.getElem?_toArray]; exact hc
  simp [Instr.index, asIntOf, Sem.run_bind, hu, hs, part, hk, hc']
theorem ends_eq {ws : List Nat} {a b : Nat} (h : a / 64 = b / 64) : ends ws ⟨a, (b : Int) + 1⟩ = ws.set (a / 64) (ws.getD (a / 64) 0 ||| (headN (a % 64) &&& tailN (b % 64))) := by
  have e1 : fw ⟨a, (b : Int) + 1⟩ = a / 64 := by unfold fw; simp
  have e2 : tw ⟨a, (b : Int) + 1⟩ = b / 64 := by unfold tw; simp
  have e3 : fb ⟨a, (b : Int) + 1⟩ = a % 64 := by unfold fb; simp
  have e4 : lb ⟨a, (b : Int) + 1⟩ = b % 64 := by unfold lb; simp
  unfold ends
  rw [e1, e2, e3, e4, if_pos h]
  rfl
theorem ends_ne {ws : List Nat} {a b : Nat} (h : ¬ a / 64 = b / 64) : ends ws ⟨a, (b : Int) + 1⟩ = (ws.set (a / 64) (ws.getD (a / 64) 0 ||| headN (a % 64))).set (b / 64) ((ws.set (a / 64) (ws.getD (a / 64) 0 ||| headN (a % 64))).getD (b / 64) 0 ||| tailN (b % 64)) := by
  have e1 : fw ⟨a, (b : Int) + 1⟩ = a / 64 := by unfold fw; simp
  have e2 : tw ⟨a, (b : Int) + 1⟩ = b / 64 := by unfold tw; simp
  have e3 : fb ⟨a, (b : Int) + 1⟩ = a % 64 := by unfold fb; simp
  have e4 : lb ⟨a, (b : Int) + 1⟩ = b % 64 := by unfold lb; simp
  unfold ends
  rw [e1, e2, e3, e4, if_neg h]
  rfl
theorem stepN_take (l : List Spn) (k i : Nat) (hk : k < l.length) : stepN (l.take (k + 1)) i = stepN (l.take k) i + step1 (l.getD k dS) i := by
  rw [List.take_add_one, getD_some hk dS]
  exact stepN_snoc _ _ _
/-- One span more, in one word. -/
theorem layR_one {w W : World} {l : List Spn} {k : Nat} {ws : List Nat} {cs : List Int} {a b : Nat} (hk : k < l.length) (hbad : ∀ s ∈ l, badS s = false) (hs : l.getD k dS = ⟨a, (b : Int) + 1⟩)
    (h3 : Words ws) (h4 : cs.length = 1350) (h5 : ∀ j, bit ws j = (l.take k).any fun s => endS s j) (h6 : ∀ i, i < 1350 → lk cs i = stepN (l.take k) i)
    (heq : a / 64 = b / 64) (g1 : W.heap[w.heap.size]? = some (.cells (u64L (ws.set (a / 64) (ws.getD (a / 64) 0 ||| (headN (a % 64) &&& tailN (b % 64))))).toArray 131 (0, 0)))
    (g2 : W.heap[w.heap.size + 1]? = some (.cells (intL cs).toArray 162 (0, 0))) (g3 : Below w.heap.size w W) : LayR w l (k + 1) W := by
  have hb := hbad _ (getD_mem hk dS)
  refine ⟨_, cs, g1, g2, ?_, h4, fun j => ?_, fun i hi => ?_, g3⟩
  · rw [← ends_eq heq]; exact ends_words h3 _
  · rw [← ends_eq heq, ← hs, bit_ends h3 hb, any_take _ l dS k hk, h5 j]
  · rw [stepN_take l k i hk, h6 i hi, hs]
    have : step1 ⟨a, (b : Int) + 1⟩ i = 0 := by
      unfold step1
      rw [if_pos (by unfold fw tw; simpa using heq)]
    omega
/-- One span more, in two words and what is between. -/
theorem layR_two {w W : World} {l : List Spn} {k : Nat} {ws : List Nat} {cs : List Int} {a b : Nat} (hk : k < l.length) (hbad : ∀ s ∈ l, badS s = false) (hs : l.getD k dS = ⟨a, (b : Int) + 1⟩)
    (h3 : Words ws) (h4 : cs.length = 1350) (h5 : ∀ j, bit ws j = (l.take k).any fun s => endS s j) (h6 : ∀ i, i < 1350 → lk cs i = stepN (l.take k) i)
    (hne : ¬ a / 64 = b / 64) (ha : a / 64 + 1 < 1350) (hb' : b / 64 < 1350)
    (g1 : W.heap[w.heap.size]? = some (.cells (u64L ((ws.set (a / 64) (ws.getD (a / 64) 0 ||| headN (a % 64))).set (b / 64) ((ws.set (a / 64) (ws.getD (a / 64) 0 ||| headN (a % 64))).getD (b / 64) 0 ||| tailN (b % 64)))).toArray 131 (0, 0)))
    (g2 : W.heap[w.heap.size + 1]? = some (.cells (intL ((cs.set (a / 64 + 1) (lk cs (a / 64 + 1) + 1)).set (b / 64) (lk (cs.set (a / 64 + 1) (lk cs (a / 64 + 1) + 1)) (b / 64) - 1))).toArray 162 (0, 0))) (g3 : Below w.heap.size w W) : LayR w l (k + 1) W := by
  have hb := hbad _ (getD_mem hk dS)
  refine ⟨_, _, g1, g2, ?_, by rw [List.length_set, List.length_set]; exact h4, fun j => ?_, fun i hi => ?_, g3⟩
  · rw [← ends_ne hne]; exact ends_words h3 _
  · rw [← ends_ne hne, ← hs, bit_ends h3 hb, any_take _ l dS k hk, h5 j]
  · rw [stepN_take l k i hk, ← h6 i hi, hs, lk_set (by rw [List.length_set, h4]; exact hb'), lk_set (by rw [h4]; exact ha), lk_set (by rw [h4]; exact ha)]
    have e1 : fw ⟨a, (b : Int) + 1⟩ = a / 64 := by unfold fw; simp
    have e2 : tw ⟨a, (b : Int) + 1⟩ = b / 64 := by unfold tw; simp
    unfold step1
    rw [e1, e2, if_neg hne]
    by_cases c1 : i = b / 64
    · rw [if_pos c1, if_pos c1]
      by_cases c2 : b / 64 = a / 64 + 1
      · rw [if_pos c2, if_pos (by omega), c1, c2]; omega
      · rw [if_neg c2, if_neg (by omega), c1]; omega
    · rw [if_neg c1, if_neg c1]
      by_cases c2 : i = a / 64 + 1
      · rw [if_pos c2, if_pos c2, c2]; omega
      · rw [if_neg c2, if_neg c2]; omega
end Go.Proofs.YtlogapkpllgdcaaGreatDoor
/- Contract: lay. -/
namespace Go.Proofs.YtlogapkpllgdcaaGreatDoor
open Go.RowKit

/-- What lay's second loop keeps: the first k words are whole where they must be. -/
def WholeR (w : World) (l : List Spn) (ws : List Nat) (k : Nat) (W : World) : Prop :=
  ∃ ws2, W.heap[w.heap.size]? = some (.cells (u64L ws2).toArray 131 (0, 0)) ∧ Words ws2 ∧ (∀ j, j < 64 * k → bit ws2 j = (decide (0 < openN l (j / 64)) || bit ws j)) ∧ (∀ j, 64 * k ≤ j → bit ws2 j = bit ws j) ∧ Below w.heap.size w W
/-- What lay hands back. -/
def LaidS (w : World) (l : List Spn) (e : Ending) (W : World) : Prop := ∃ u, e = .returned u ∧ HSec W u (fun j => l.any fun s => inS s j) ∧ Below w.heap.size w W ∧ (u = .slice none 0 0 ∨ u = .slice (some ⟨w.heap.size, 0, none⟩) 1350 1350)
/-- The count behind the first q words. -/
def opn (l : List Spn) (q : Nat) : Nat := if q = 0 then 0 else openN l (q - 1)
theorem opn_succ {l : List Spn} (hl : ∀ s ∈ l, badS s = false) (q : Nat) : (opn l (q + 1) : Int) = opn l q + stepN l q ∧ opn l (q + 1) = openN l q := by
  have e : opn l (q + 1) = openN l q := by unfold opn; rw [if_neg (by omega), Nat.add_sub_cancel]
  refine ⟨?_, e⟩
  rw [e]
  unfold opn
  split
  · rename_i h; rw [h, open_zero hl]; simp
  · rename_i h
    have := open_succ hl (q - 1)
    rw [show q - 1 + 1 = q by omega] at this
    exact this
theorem opn_le (l : List Spn) (q : Nat) : opn l q ≤ l.length := by
  unfold opn
  split
  · exact Nat.zero_le _
  · exact openN_le _ _
theorem wholeR_no {w W : World} {l : List Spn} {ws : List Nat} {q : Nat} (h : WholeR w l ws q W) (h0 : openN l q = 0) : WholeR w l ws (q + 1) W := by
  obtain ⟨ws2, h1, h2, h3, h4, h5⟩ := h
  refine ⟨ws2, h1, h2, fun j hj => ?_, fun j hj => h4 j (by omega), h5⟩
  rcases Nat.lt_or_ge j (64 * q) with h | h
  · exact h3 j h
  · rw [h4 j h, show j / 64 = q by omega, h0]; rfl
theorem wholeR_yes {w W : World} {l : List Spn} {ws : List Nat} {q : Nat} (h : WholeR w l ws q W) (hq : q < 1350) (h0 : 0 < openN l q) :
    WholeR w l ws (q + 1) (W.setCell ⟨w.heap.size, q, none⟩ (.int .u64 18446744073709551615)) := by
  obtain ⟨ws2, h1, h2, h3, h4, h5⟩ := h
  have hst := heap_setCell_same W w.heap.size q _ _ (.int .u64 ((18446744073709551615 : Nat) : Int)) h1
  rw [u64L_set] at hst
  refine ⟨_, hst, h2.set q (by decide), fun j hj => ?_, fun j hj => ?_, h5.setCell (p := ⟨w.heap.size, q, none⟩) (Nat.le_refl _) _⟩
  · rw [bit_set (by rw [h2.1]; exact hq)]
    split
    · rename_i e
      rw [tb_max, e, decide_eq_true (Nat.mod_lt _ (by decide)), decide_eq_true h0]; rfl
    · exact h3 j (by omega)
  · rw [bit_set (by rw [h2.1]; exact hq), if_neg (by omega)]
    exact h4 j (by omega)
set_option maxRecDepth 100000 in
set_option maxHeartbeats 4000000 in
theorem lay_some (l : List Spn) (v : Value) (w : World) (hv : HSp w v l) (hl : l.length ≤ 4096) (hne : l ≠ []) (hbad : ∀ s ∈ l, badS s = false) :
    Calls Tryz.prog 64 #[v] w (LaidS w l) := by
  obtain ⟨A, c, rfl, _, _, hk⟩ := hv
  obtain ⟨n, hn⟩ : ∃ n, l.length = n := ⟨_, rfl⟩
  have hn0 : 0 < n := by rw [← hn]; exact List.length_pos_iff.2 hne
  have hn1 : ((n : Int) == 0) = false := by simp; omega
  rw [hn] at hl ⊢
  obtain ⟨ZW, hZW⟩ : ∃ Z, (u64L (List.replicate 1350 0)).toArray = Z := ⟨_, rfl⟩
  have hmk : ∀ W : World, (Instr.makeSlice 93 (.int .i64 1350) (.int .i64 1350)).run Tryz.prog W = .ok (.slice (some ⟨W.heap.size, 0, none⟩) 1350 1350) (W.alloc (.cells ZW 131)) := fun W => by
    rw [← hZW, ← made_u64]
    exact run_mk elU 1350 1350 (by omega) (by omega) (by omega) (by omega) W
  have H0 : Hid (LayR w l 0 ((w.alloc (.cells ZW 131)).alloc (.cells Tryz.zeroCells162 162))) := by
    refine ⟨List.replicate 1350 0, List.replicate 1350 0, ?_, ?_, words_zero, List.length_replicate, fun j => by rw [bit_zero]; rfl, fun i _ => by rw [lk_zero]; rfl, ((Below.refl _ _).alloc (Nat.le_refl _) _).alloc (by simp) _⟩
    · rw [hZW, Below.heap_alloc _ _ _ (by simp)]; exact heap_alloc_new _ _
    · rw [← whole_zero]; exact heap_new2 _ _ _
  have HN := Lib.hid hn
  have HK := Lib.hid hk
  have HBAD := Lib.hid hbad
  clear hZW hn hk hbad hne hn0
  go_enter Tryz.func64, Tryz.ntmps64
  go_wp2_with fail
  clear hmk
  go_loopw [21] (fun i wr => ∃ k : Nat, k ≤ n ∧ i = .int .i64 k ∧ LayR w l k wr) (fun i _ => n - (intOf i).toNat)
  case atStart => exact ⟨0, Nat.zero_le _, rfl, H0.out⟩
  case round =>
    obtain ⟨k, hkn, rfl, ws, cs, h1, h2, h3, h4, h5, h6, h7⟩ := hrel
    by_cases hlt : k < n
    · have hlt' : k < l.length := by rw [HN.out]; exact hlt
      obtain ⟨ad, X, rfl, hX, c0, c1⟩ := HK.out k hlt'
      have hb := badS_no (HBAD.out _ (getD_mem hlt' dS))
      have c0' := cell_below c0 h7
      have c1' := cell_below c1 h7
      obtain ⟨s, hs⟩ : ∃ s, l.getD k dS = s := ⟨_, rfl⟩
      rw [hs] at hb c0' c1'
      obtain ⟨f, t⟩ := s
      simp only at hb c0' c1'
      obtain ⟨a, rfl⟩ : ∃ a : Nat, f = a := ⟨f.toNat, by omega⟩
      obtain ⟨b, rfl⟩ : ∃ b : Nat, t = (b : Int) + 1 := ⟨t.toNat - 1, by omega⟩
      have ha : (a : Int) ≤ b := by omega
      have hb2 : (b : Int) < 86400 := by omega
      have s1 := shl_max (a % 64)
      have s2 := tail_max (b % 64)
      have HH := Lib.hid (And.intro h1 (And.intro h2 (And.intro h3 (And.intro h4 (And.intro h5 (And.intro h6 (And.intro h7 hs)))))))
      clear h1 h2 h3 h4 h5 h6 h7 hs c0 c1 hb
      have HBA := Lib.hid (And.intro ha hb2)
      have hb1' := HH.out.2.2.2.2.2.2.1.alloc HH.out.2.2.2.2.2.2.1.size (.cells #[.int .i64 (a : Int), .int .i64 ((b : Int) + 1)] 51)
      have hl1 := (Array.getElem?_eq_some_iff.1 HH.out.1).1
      have hl2 := (Array.getElem?_eq_some_iff.1 HH.out.2.1).1
      have g1 := (Below.heap_alloc wr (.cells #[.int .i64 (a : Int), .int .i64 ((b : Int) + 1)] 51) _ hl1).trans HH.out.1
      have g2 := (Below.heap_alloc wr (.cells #[.int .i64 (a : Int), .int .i64 ((b : Int) + 1)] 51) _ hl2).trans HH.out.2.1
      obtain ⟨w1, hw1⟩ : ∃ w1, wr.alloc (.cells #[.int .i64 (a : Int), .int .i64 ((b : Int) + 1)] 51) = w1 := ⟨_, rfl⟩
      rw [hw1] at hb1' g1 g2
      have HW1 := Lib.hid hw1
      have HG := Lib.hid (And.intro g1 (And.intro g2 hb1'))
      have S1 := Lib.hid s1
      have S2 := Lib.hid s2
      clear hl1 hl2 g1 g2 hb1' hw1 s1 s2
      by_cases heq : a / 64 = b / 64
      · have q1 : ((a : Int) / 64 == (b : Int) / 64) = true := by simp; omega
        have HEQ := Lib.hid heq
        have l1 : a / 64 < 1350 := by omega
        clear heq
        go_upto_region 13 with (fail)
        rw [S1.out, S2.out, HW1.out]
        have hx := HH.out.2.2.1.get (a / 64)
        have y1 : w1.cell? ⟨w.heap.size, a / 64, none⟩ = some (.int .u64 (ws.getD (a / 64) 0 : Nat)) := cell_blk HG.out.1 (a / 64) (u64L_get ws _ (by rw [HH.out.2.2.1.1]; omega))
        have y2 := frz_blk HG.out.1 (a / 64)
        have e1 := bits_and_u64_nat (headN (a % 64)) (tailN (b % 64)) (headN_lt _) (tailN_lt _)
        have e2 := bits_or_u64_nat (ws.getD (a / 64) 0) (headN (a % 64) &&& tailN (b % 64)) hx (Nat.and_lt_two_pow (n := 64) _ (tailN_lt _))
        have hst := heap_setCell_same w1 w.heap.size (a / 64) _ _ (.int .u64 ((ws.getD (a / 64) 0 ||| (headN (a % 64) &&& tailN (b % 64)) : Nat) : Int)) HG.out.1
        rw [u64L_set] at hst
        have hst2 := (heap_setCell_other w1 ⟨w.heap.size, a / 64, none⟩ (w.heap.size + 1) (.int .u64 ((ws.getD (a / 64) 0 ||| (headN (a % 64) &&& tailN (b % 64)) : Nat) : Int)) (by simp)).trans HG.out.2.1
        have HF := Lib.hid (layR_one hlt' HBAD.out HH.out.2.2.2.2.2.2.2 HH.out.2.2.1 HH.out.2.2.2.1 HH.out.2.2.2.2.1 HH.out.2.2.2.2.2.1 HEQ.out hst hst2 (HG.out.2.2.setCell (p := ⟨w.heap.size, a / 64, none⟩) (Nat.le_refl _) _))
        generalize (ws.getD (a / 64) 0 ||| (headN (a % 64) &&& tailN (b % 64))) = z at *
        generalize (headN (a % 64) &&& tailN (b % 64)) = y at *
        generalize headN (a % 64) = h at *
        generalize tailN (b % 64) = t at *
        generalize ws.getD (a / 64) 0 = x at *
        clear hst hst2 hx c0' c1' q1 hlt'
        go_wp2_with fail
        go_roundw
        case rel => exact ⟨k + 1, by omega, by go_num, HF.out⟩
        case measure => simp [intOf]; omega
      · have q1 : ((a : Int) / 64 == (b : Int) / 64) = false := by simp; omega
        have HEQ := Lib.hid heq
        have l1 : a / 64 + 1 < 1350 := by omega
        have l2 : b / 64 < 1350 := by omega
        clear heq
        go_upto_region 14 with (fail)
        rw [S1.out, S2.out, HW1.out]
        have hx := HH.out.2.2.1.get (a / 64)
        have y1 : w1.cell? ⟨w.heap.size, a / 64, none⟩ = some (.int .u64 (ws.getD (a / 64) 0 : Nat)) := cell_blk HG.out.1 (a / 64) (u64L_get ws _ (by rw [HH.out.2.2.1.1]; omega))
        have y2 := frz_blk HG.out.1 (a / 64)
        have e2 := bits_or_u64_nat (ws.getD (a / 64) 0) (headN (a % 64)) hx (headN_lt _)
        have hst := heap_setCell_same w1 w.heap.size (a / 64) _ _ (.int .u64 ((ws.getD (a / 64) 0 ||| headN (a % 64) : Nat) : Int)) HG.out.1
        rw [u64L_set] at hst
        have hw2s : Words (ws.set (a / 64) (ws.getD (a / 64) 0 ||| headN (a % 64))) := HH.out.2.2.1.set _ (Nat.or_lt_two_pow (n := 64) hx (headN_lt _))
        have hst2 := (heap_setCell_other w1 ⟨w.heap.size, a / 64, none⟩ (w.heap.size + 1) (.int .u64 ((ws.getD (a / 64) 0 ||| headN (a % 64) : Nat) : Int)) (by simp)).trans HG.out.2.1
        have hbw := HG.out.2.2.setCell (p := ⟨w.heap.size, a / 64, none⟩) (Nat.le_refl _) (.int .u64 ((ws.getD (a / 64) 0 ||| headN (a % 64) : Nat) : Int))
        have HFIN := Lib.hid (fun W g1 g2 g3 => layR_two (w := w) (W := W) hlt' HBAD.out HH.out.2.2.2.2.2.2.2 HH.out.2.2.1 HH.out.2.2.2.1 HH.out.2.2.2.2.1 HH.out.2.2.2.2.2.1 HEQ.out l1 l2 g1 g2 g3)
        obtain ⟨w2, hw2⟩ : ∃ w2, w1.setCell ⟨w.heap.size, a / 64, none⟩ (.int .u64 ((ws.getD (a / 64) 0 ||| headN (a % 64) : Nat) : Int)) = w2 := ⟨_, rfl⟩
        rw [hw2] at hst hst2 hbw
        have HW2 := Lib.hid hw2
        have HG2 := Lib.hid (And.intro hst (And.intro hst2 (And.intro hbw hw2s)))
        generalize ws.set (a / 64) (ws.getD (a / 64) 0 ||| headN (a % 64)) = ws1 at *
        generalize (ws.getD (a / 64) 0 ||| headN (a % 64)) = z at *
        generalize headN (a % 64) = h at *
        generalize ws.getD (a / 64) 0 = x at *
        clear hst hst2 hbw hw2 hw2s hx c0' c1' q1
        go_upto_region 15 with (fail)
        rw [HW2.out]
        clear y1 y2 e2
        have hx := HG2.out.2.2.2.get (b / 64)
        have y1 : w2.cell? ⟨w.heap.size, b / 64, none⟩ = some (.int .u64 (ws1.getD (b / 64) 0 : Nat)) := cell_blk HG2.out.1 (b / 64) (u64L_get ws1 _ (by rw [HG2.out.2.2.2.1]; exact l2))
        have y2 := frz_blk HG2.out.1 (b / 64)
        have e2 := bits_or_u64_nat (ws1.getD (b / 64) 0) (tailN (b % 64)) hx (tailN_lt _)
        have hst := heap_setCell_same w2 w.heap.size (b / 64) _ _ (.int .u64 ((ws1.getD (b / 64) 0 ||| tailN (b % 64) : Nat) : Int)) HG2.out.1
        rw [u64L_set] at hst
        have hst2 := (heap_setCell_other w2 ⟨w.heap.size, b / 64, none⟩ (w.heap.size + 1) (.int .u64 ((ws1.getD (b / 64) 0 ||| tailN (b % 64) : Nat) : Int)) (by simp)).trans HG2.out.2.1
        have hbw := HG2.out.2.2.1.setCell (p := ⟨w.heap.size, b / 64, none⟩) (Nat.le_refl _) (.int .u64 ((ws1.getD (b / 64) 0 ||| tailN (b % 64) : Nat) : Int))
        obtain ⟨w3, hw3⟩ : ∃ w3, w2.setCell ⟨w.heap.size, b / 64, none⟩ (.int .u64 ((ws1.getD (b / 64) 0 ||| tailN (b % 64) : Nat) : Int)) = w3 := ⟨_, rfl⟩
        rw [hw3] at hst hst2 hbw
        have HW3 := Lib.hid hw3
        have HG3 := Lib.hid (And.intro hst (And.intro hst2 hbw))
        generalize ws1.set (b / 64) (ws1.getD (b / 64) 0 ||| tailN (b % 64)) = ws2 at *
        generalize (ws1.getD (b / 64) 0 ||| tailN (b % 64)) = z2 at *
        generalize tailN (b % 64) = t at *
        generalize ws1.getD (b / 64) 0 = x2 at *
        clear hst hst2 hbw hw3 hx
        go_upto_region 16 with (fail)
        rw [HW3.out]
        clear y1 y2 e2
        have hc4 := HH.out.2.2.2.1
        have hc6 := HH.out.2.2.2.2.2.1 (a / 64 + 1) l1
        have hcb := stepN_bd (l.take k) (a / 64 + 1)
        rw [← hc6, List.length_take] at hcb
        have y1 : w3.cell? ⟨w.heap.size + 1, a / 64 + 1, none⟩ = some (.int .i64 (lk cs (a / 64 + 1))) := cell_blk HG3.out.2.1 (a / 64 + 1) (intL_get cs _ (by rw [hc4]; exact l1))
        have y2 := frz_blk HG3.out.2.1 (a / 64 + 1)
        have hst := heap_setCell_same w3 (w.heap.size + 1) (a / 64 + 1) _ _ (.int .i64 (lk cs (a / 64 + 1) + 1)) HG3.out.2.1
        rw [intL_set] at hst
        have hst2 := (heap_setCell_other w3 ⟨w.heap.size + 1, a / 64 + 1, none⟩ w.heap.size (.int .i64 (lk cs (a / 64 + 1) + 1)) (by simp)).trans HG3.out.1
        have hbw := HG3.out.2.2.setCell (p := ⟨w.heap.size + 1, a / 64 + 1, none⟩) (by simp) (.int .i64 (lk cs (a / 64 + 1) + 1))
        have hc7 : -5000 ≤ lk (cs.set (a / 64 + 1) (lk cs (a / 64 + 1) + 1)) (b / 64) ∧ lk (cs.set (a / 64 + 1) (lk cs (a / 64 + 1) + 1)) (b / 64) ≤ 5000 := by
          rw [lk_set (by rw [hc4]; exact l1)]
          split
          · omega
          · have h8 := HH.out.2.2.2.2.2.1 (b / 64) l2
            have h9 := stepN_bd (l.take k) (b / 64)
            rw [← h8, List.length_take] at h9
            omega
        have hc8 : (cs.set (a / 64 + 1) (lk cs (a / 64 + 1) + 1)).length = 1350 := by rw [List.length_set]; exact hc4
        have hcb1 : -5000 ≤ lk cs (a / 64 + 1) := by omega
        have hcb2 : lk cs (a / 64 + 1) ≤ 5000 := by omega
        obtain ⟨w4, hw4⟩ : ∃ w4, w3.setCell ⟨w.heap.size + 1, a / 64 + 1, none⟩ (.int .i64 (lk cs (a / 64 + 1) + 1)) = w4 := ⟨_, rfl⟩
        rw [hw4] at hst hst2 hbw
        have HW4 := Lib.hid hw4
        have HG4 := Lib.hid (And.intro hst (And.intro hst2 (And.intro hbw (And.intro hc7 hc8))))
        generalize cs.set (a / 64 + 1) (lk cs (a / 64 + 1) + 1) = cs1 at *
        generalize lk cs (a / 64 + 1) = v1 at *
        clear hst hst2 hbw hw4 hc4 hc6 hcb hc7 hc8
        go_upto_region 17 with (fail)
        rw [HW4.out]
        clear y1 y2 hcb1 hcb2
        obtain ⟨hcb1, hcb2⟩ := HG4.out.2.2.2.1
        have y1 : w4.cell? ⟨w.heap.size + 1, b / 64, none⟩ = some (.int .i64 (lk cs1 (b / 64))) := cell_blk HG4.out.1 (b / 64) (intL_get cs1 _ (by rw [HG4.out.2.2.2.2]; exact l2))
        have y2 := frz_blk HG4.out.1 (b / 64)
        have hst := heap_setCell_same w4 (w.heap.size + 1) (b / 64) _ _ (.int .i64 (lk cs1 (b / 64) - 1)) HG4.out.1
        rw [intL_set] at hst
        have hst2 := (heap_setCell_other w4 ⟨w.heap.size + 1, b / 64, none⟩ w.heap.size (.int .i64 (lk cs1 (b / 64) - 1)) (by simp)).trans HG4.out.2.1
        have HF := Lib.hid (HFIN.out _ hst2 hst (HG4.out.2.2.1.setCell (p := ⟨w.heap.size + 1, b / 64, none⟩) (by simp) (.int .i64 (lk cs1 (b / 64) - 1))))
        clear hst hst2
        generalize lk cs1 (b / 64) = v2 at *
        clear ha hb2 hlt'
        go_wp2_with fail
        go_roundw
        case rel => exact ⟨k + 1, by omega, by go_num, HF.out⟩
        case measure => simp [intOf]; omega
    · obtain rfl : k = n := by omega
      have hfull : l.take k = l := by rw [← HN.out]; exact List.take_length
      rw [hfull] at h5 h6
      have hW0 : WholeR w l ws 0 wr := ⟨ws, h1, h3, fun j hj => by omega, fun _ _ => rfl, h7⟩
      have HLD := Lib.hid h2
      have HSZ := Lib.hid (show (Tryz.prog.info? 162).map (·.size) = some (intL cs).toArray.size by rw [List.size_toArray, intL_length, h4]; kernel_rfl)
      have HIX := Lib.hid (fun q hq W => run_index_whole cs h4 q hq W)
      have H6 := Lib.hid h6
      have H5 := Lib.hid h5
      have HW0 := Lib.hid hW0
      generalize (intL cs).toArray = Z at *
      clear h1 h2 h3 h4 h5 h6 h7 hW0 hfull
      go_wp2_with (refine wpList_load_row rfl 162 (.tmp 4) rfl (w.heap.size + 1) rfl _ Z _ _ HLD.out Tryz.underlying162 rfl HSZ.out ?_)
      go_loopw [12, 80] (fun o i wr => ∃ q : Nat, q ≤ 1350 ∧ i = .int .i64 q ∧ o = .int .i64 (opn l q : Nat) ∧ WholeR w l ws q wr) (fun _ i _ => 1350 - (intOf i).toNat)
      case atStart => exact ⟨0, Nat.zero_le _, rfl, rfl, HW0.out⟩
      case round =>
        obtain ⟨q, hq, rfl, rfl, hwr⟩ := hrel
        have HR := Lib.hid hwr
        clear hwr
        by_cases hq1 : q < 1350
        · have hix := HIX.out q hq1
          obtain ⟨hs1, hs2⟩ := opn_succ HBAD.out q
          rw [← H6.out q hq1] at hs1
          have hle := opn_le l q
          have hle2 := opn_le l (q + 1)
          rw [HN.out] at hle hle2
          have HS := Lib.hid hs1
          have hbd1 : -5000 ≤ lk cs q := by omega
          have hbd2 : lk cs q ≤ 5000 := by omega
          have hsum : ((opn l q : Nat) : Int) + lk cs q = ((opn l (q + 1) : Nat) : Int) := hs1.symm
          clear hs1
          by_cases h0 : openN l q = 0
          · have hz : opn l (q + 1) = 0 := by omega
            have HF := Lib.hid (wholeR_no HR.out h0)
            rw [hz] at hsum hle2
            have HZ := Lib.hid hz
            clear h0 hs2 hz HS
            generalize opn l q = x at *
            generalize lk cs q = y at *
            go_wp2_with fail
            go_roundw
            case rel => exact ⟨q + 1, by omega, by go_num, by rw [HZ.out]; go_num, HF.out⟩
            case measure => simp [intOf]; omega
          · have HF := Lib.hid (wholeR_yes HR.out hq1 (by omega))
            have hr := HR.out
            obtain ⟨ws2, g1, g2, _⟩ := hr
            have y1 : wr.cell? ⟨w.heap.size, q, none⟩ = some (.int .u64 (ws2.getD q 0 : Nat)) := cell_blk g1 q (u64L_get ws2 q (by rw [g2.1]; exact hq1))
            have y2 := frz_blk g1 q
            obtain ⟨z, hz⟩ : ∃ z, opn l (q + 1) = z + 1 := ⟨opn l (q + 1) - 1, by omega⟩
            rw [hz] at hsum hle2
            have HZ := Lib.hid hz
            clear h0 hs2 hz HS g1 g2
            generalize opn l q = x at *
            generalize lk cs q = y at *
            generalize ws2.getD q 0 = u at *
            go_wp2_with fail
            go_roundw
            case rel => exact ⟨q + 1, by omega, by go_num, by rw [HZ.out]; go_num, HF.out⟩
            case measure => simp [intOf]; omega
        · obtain rfl : q = 1350 := by omega
          have hr := HR.out
          obtain ⟨ws2, g1, g2, g3, _, g5⟩ := hr
          have HF : Hid (LaidS w l (.returned (.slice (some ⟨w.heap.size, 0, none⟩) 1350 1350)) wr) :=
            ⟨_, rfl, .inr ⟨_, ws2, rfl, g1, g2, fun j hj => by rw [g3 j (by omega)]; exact (laid_all HBAD.out j hj (H5.out j) _ rfl).symm⟩, g5, .inr rfl⟩
          clear g1 g2 g3 g5
          go_wp2_with fail
          go_ret
          exact HF.out
set_option maxRecDepth 100000 in
set_option maxHeartbeats 1000000 in
theorem lay_any (l : List Spn) (v : Value) (w : World) (hv : HSp w v l) (hl : l.length ≤ 4096) (hbad : ∀ s ∈ l, badS s = false) :
    Calls Tryz.prog 64 #[v] w (LaidS w l) := by
  by_cases hne : l = []
  · subst hne
    obtain ⟨A, c, rfl, _, _, _⟩ := hv
    have HF : Hid (LaidS w [] (.returned (.slice none 0 0)) w) := ⟨_, rfl, .inl ⟨rfl, fun j _ => rfl⟩, Below.refl _ _, .inl rfl⟩
    clear hbad hl
    simp only [List.length_nil]
    go_enter Tryz.func64, Tryz.ntmps64
    go_wp2_with fail
    go_ret
    exact HF.out
  · exact lay_some l v w hv hl hne hbad
end Go.Proofs.YtlogapkpllgdcaaGreatDoor

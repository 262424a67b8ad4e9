/- Layer 3's law FilesWhole: its walk. -/
import Derived.Test.YtljagggankmnkaaRowA
import Derived.Deep.QuietTactic
import Derived.BigQuiet
namespace Go.Proofs.Ytljagggankmnkaa
open Go.RowKit Go.Maps

theorem RdA.below {w w' : World} {A : Option Addr} {L : List Act3} (h : RdA w A L) (hb : Below w.heap.size w w') : RdA w' A L := Rd.below h hb
/-- Apart from the rows of two slices nothing of w has turned. -/
def Unt (w : World) (v v' : Value) (W : World) : Prop := w.heap.size ≤ W.heap.size ∧ ∀ k, k < w.heap.size → v.ownBlock ≠ some k → v'.ownBlock ≠ some k → W.heap[k]? = w.heap[k]?
theorem Unt.alloc {w W : World} {v v' : Value} (h : Unt w v v' W) (o : Obj) : Unt w v v' (W.alloc o) :=
  ⟨Nat.le_trans h.1 (by rw [World.size_alloc]; omega), fun k hk h1 h2 => (Below.heap_alloc W o k (Nat.lt_of_lt_of_le hk h.1)).trans (h.2 k hk h1 h2)⟩
theorem Unt.grown {w W W' : World} {v v' : Value} {row : Option Nat} (h : Unt w v v' W) (hg : W.grownBy W' row) (hr : row = v.ownBlock ∨ row = v'.ownBlock) : Unt w v v' W' :=
  ⟨Nat.le_trans h.1 hg.size, fun k hk h1 h2 => (hg.block k (Nat.lt_of_lt_of_le hk h.1) (fun e => by rcases hr with rfl | rfl; exact h1 e.symm; exact h2 e.symm)).trans (h.2 k hk h1 h2)⟩
theorem own_kept {W W' : World} {base e k n : Nat} {v : Value} {xs : List Value} {row : Option Nat} (h : W.ownsRow base e k v n xs) (hg : W.grownBy W' row) (hne : ∀ i, v.ownBlock = some i → row ≠ some i) : W'.ownsRow base e k v n xs :=
  ownsRow_block h (fun i hi => hg.block i (h.lt i hi).2 (fun e => hne i hi e.symm))
theorem rows_next {w3 wr w5 wN wM wB : World} {e : TypeId} {v v' vN vB : Value} {j : Nat} {xs ys : List Value} {x : Value} (h3 : Below w3.heap.size w3 wr) (h5 : Below wr.heap.size wr w5) (hN0 : wr.ownsRow w3.heap.size e 1 v j xs) (hB0 : wr.ownsRow w3.heap.size e 1 v' j ys) (hap : ∀ k, v.ownBlock = some k → v'.ownBlock ≠ some k)
    (hoN : wN.ownsRow w3.heap.size e 1 vN (j + 1) (xs ++ [x])) (hM : ∀ k, k < wN.heap.size → wM.heap[k]? = wN.heap[k]?) (hMs : wN.heap.size ≤ wM.heap.size) (hgB : wM.grownBy wB v'.ownBlock) (hlN : ∀ k, vN.ownBlock = some k → v.ownBlock = some k ∨ w5.heap.size ≤ k) (hlB : ∀ k, vB.ownBlock = some k → v'.ownBlock = some k ∨ wN.heap.size ≤ k)
    (hU : Unt w5 v v' wB) (ho : wB.os = w5.os ∧ wB.tape = w5.tape ∧ wB.output = w5.output) :
    wB.ownsRow w3.heap.size e 1 vN (j + 1) (xs ++ [x]) ∧ (∀ k, vN.ownBlock = some k → vB.ownBlock ≠ some k) ∧ Below w3.heap.size w3 wB := by
  have hne : ∀ k, vN.ownBlock = some k → v'.ownBlock ≠ some k := fun k h1 h2 => by
    rcases hlN k h1 with h | h
    · exact hap k h h2
    · have := (hB0.lt k h2).2
      have := h5.size
      omega
  refine ⟨ownsRow_block hoN (fun k hk => ?_), fun k h1 h2 => ?_, ?_⟩
  · have hl := (hoN.lt k hk).2
    exact (hgB.block k (Nat.lt_of_lt_of_le hl hMs) (fun e => hne k hk e.symm)).trans (hM k hl)
  · rcases hlB k h2 with h | h
    · exact hne k h1 h
    · have := (hoN.lt k h1).2
      omega
  · exact ⟨ho.1.trans (h5.os.trans h3.os), ho.2.1.trans (h5.tape.trans h3.tape), ho.2.2.trans (h5.output.trans h3.output), Nat.le_trans h3.size (Nat.le_trans h5.size hU.1), fun k hk => by
      have hk2 : k < wr.heap.size := Nat.lt_of_lt_of_le hk h3.size
      have e1 := hU.2 k (Nat.lt_of_lt_of_le hk2 h5.size) (fun h => by have := (hN0.lt k h).1; omega) (fun h => by have := (hB0.lt k h).1; omega)
      exact e1.trans ((h5.block k hk2).trans (h3.block k hk))⟩
theorem elemS : Elem Try.prog 30 9 (.string ⟨#[]⟩) 16 := ⟨Try.underlying30, by kernel_rfl, rfl⟩
theorem rd_new (W : World) (x : ByteArray) : Rd (W.alloc (.cells #[.string x] 9)) (some ⟨W.heap.size, 0, none⟩) [.string x] := Rd.block (MapKept.heap_alloc W (.cells #[.string x] 9)).1
theorem rd_new2 (W : World) (o : Obj) (x : ByteArray) : Rd ((W.alloc o).alloc (.cells #[.string x] 9)) (some ⟨W.heap.size + 1, 0, none⟩) [.string x] := by
  have h := rd_new (W.alloc o) x
  rw [World.size_alloc] at h
  exact h
theorem got_at {l : List (Bs × Bs)} (h : (l.map (·.1)).Pairwise (fun x y => x < y)) {i : Nat} (hi : i < l.length) : got l[i].1 l = some l[i].2 := by
  induction l generalizing i with
  | nil => cases hi
  | cons p l ih =>
    rw [List.map_cons, List.pairwise_cons] at h
    cases i with
    | zero => simp [got]
    | succ i =>
      have hi' : i < l.length := by simpa using hi
      have hm : l[i].1 ∈ l.map (·.1) := List.mem_map.2 ⟨_, List.getElem_mem hi', rfl⟩
      have hne : p.1 ≠ l[i].1 := fun e => by have := h.1 _ hm; rw [e] at this; exact absurd this (List.lt_irrefl _)
      have := ih h.2 hi'
      simp only [got, List.getElem_cons_succ] at this ⊢
      rw [List.find?_cons_of_neg (by simpa using hne)]
      exact this
theorem RdA.six {w : World} {A : Option Addr} {L : List Act3} (h : RdA w A L) (i : Nat) (hi : i < L.length) : ∃ ad X, A = some ad ∧ ad.add (i * 6) = X ∧ w.cell? X = some (.int .i64 L[i].kind) ∧ w.cell? { block := X.block, off := X.off + 1 } = some (.string (str L[i].nm)) ∧ w.cell? { block := X.block, off := X.off + 2 } = some (.string (str L[i].to)) ∧ w.cell? { block := X.block, off := X.off + 3 } = some (.string (str L[i].b)) ∧ w.cell? { block := X.block, off := X.off + 4 } = some (.int .i64 L[i].steps) ∧ w.cell? { block := X.block, off := X.off + 5 } = some (.int .i64 L[i].part) := by
  obtain ⟨ad, e, hc⟩ := h.at_ i hi
  refine ⟨ad, _, e, rfl, hc 0 _ (by omega) rfl, ?_, ?_, ?_, ?_, ?_⟩
  · have := hc 1 _ (by omega) rfl; rw [← add_add'] at this; exact this
  · have := hc 2 _ (by omega) rfl; rw [← add_add'] at this; exact this
  · have := hc 3 _ (by omega) rfl; rw [← add_add'] at this; exact this
  · have := hc 4 _ (by omega) rfl; rw [← add_add'] at this; exact this
  · have := hc 5 _ (by omega) rfl; rw [← add_add'] at this; exact this
set_option maxHeartbeats 8000000 in
set_option maxRecDepth 100000 in
theorem whole_walk (A1 : Option Addr) (c1 : Nat) (L1 : List Act3) (A2 : Option Addr) (c2 : Nat) (L2 : List Act3) (n1 n2 : Nat) (all : Bool) (W : World) (hn1 : L1.length = n1) (hn2 : L2.length = n2) (hr1 : RdA W A1 L1) (hr2 : RdA W A2 L2) (hs1 : (n1 : Int) ≤ 140737488355328) (hs2 : (n2 : Int) ≤ 140737488355328) (hk1 : ∀ a ∈ L1, ActOk a) (hk2 : ∀ a ∈ L2, ActOk a) :
    Calls Try.prog 3 #[.slice A1 n1 c1, .slice A2 n2 c2, .bool all] W fun e w' => e = .returned (.bool true) ∧ Below W.heap.size W w' := by
  have HA := Lib.hid (And.intro hn1 (And.intro hn2 (And.intro hr1 (And.intro hr2 (And.intro hk1 hk2)))))
  clear hn1 hn2 hr1 hr2 hk1 hk2
  go_enter Try.func3, Try.ntmps3
  go_wp2_with fail
  refine (new_is W).mono ?_
  rintro e w1 ⟨p, F, rfl, hb, hd⟩
  have HS := Lib.hid (fun (wk : World) (Fk : Nat → Prop) (ht : Turn F w1 Fk wk) => (Nat.le_trans hb.size ht.size : W.heap.size ≤ wk.heap.size))
  have HB := Lib.hid (fun (wk : World) (Fk : Nat → Prop) (ht : Turn F w1 Fk wk) => (turn_below hb rfl ht (fun i hi => (hd.lt i hi).1) : Below W.heap.size W wk))
  have H1 := Lib.hid (And.intro hb hd)
  clear hb hd
  go_wp2_with fail
  go_loopw [8] (fun v wr => ∃ (i : Nat) (F' : Nat → Prop) (su no : List (Bs × Bs)) (st : List (Stp Bs)), v = .int .i64 i ∧ i ≤ 80 ∧ Turn F w1 F' wr ∧ Disk wr W.heap.size p F' su no st) (fun v _ => 80 - (intOf v).toNat)
  case atStart => exact ⟨0, F, _, _, _, rfl, Nat.zero_le _, Turn.refl _ _, H1.out.2⟩
  case round =>
    obtain ⟨i, F1, su, no, st, rfl, hi, ht1, hd1⟩ := hrel
    have HR := Lib.hid (And.intro ht1 hd1)
    clear ht1 hd1
    by_cases hgo : i < n1 + n2 ∧ i < 80
    · have j1 : (i : Int) < (n1 : Int) + n2 := by omega
      have j2 : (i : Int) < 80 := by omega
      have jw : IntKind.i64.wrap ((n1 : Int) + n2) = (n1 : Int) + n2 := IntWalk.i64_in _ (by omega)
      have hbz := (MapKept.heap_alloc wr (.cells #[.int .i64 4, .string ⟨#[]⟩, .string ⟨#[]⟩, .string ⟨#[]⟩, .int .i64 0, .int .i64 0] 26)).1
      have hWz := (Below.refl wr.heap.size wr).alloc (Nat.le_refl _) (.cells #[.int .i64 4, .string ⟨#[]⟩, .string ⟨#[]⟩, .string ⟨#[]⟩, .int .i64 0, .int .i64 0] 26)
      have z0 := cell_blk hbz 0 (v := .int .i64 4) rfl
      have z1 := cell_blk hbz 1 (v := .string ⟨#[]⟩) rfl
      have z2 := cell_blk hbz 2 (v := .string ⟨#[]⟩) rfl
      have z3 := cell_blk hbz 3 (v := .string ⟨#[]⟩) rfl
      have z4 := cell_blk hbz 4 (v := .int .i64 0) rfl
      have z5 := cell_blk hbz 5 (v := .int .i64 0) rfl
      have y0 := frz_blk hbz 0
      have y1 := frz_blk hbz 1
      have y2 := frz_blk hbz 2
      have y3 := frz_blk hbz 3
      have y4 := frz_blk hbz 4
      have y5 := frz_blk hbz 5
      have HZ := Lib.hid hWz
      clear hbz hWz
      rcases Nat.lt_trichotomy i n1 with h | h | h
      case' inl =>
        have j3 : (i : Int) < n1 := by omega
        have j4 : (0 : Int) ≤ i := by omega
        obtain ⟨ad, X, rfl, hX, k0, k1, k2, k3, k4, k5⟩ := ((HA.out.2.2.1.below (HB.out _ _ HR.out.1)).below HZ.out).six i (by rw [HA.out.1]; exact h)
        have hok := HA.out.2.2.2.2.1 _ (List.getElem_mem (show i < L1.length by rw [HA.out.1]; exact h))
        generalize L1[i]'(by rw [HA.out.1]; exact h) = act at k0 k1 k2 k3 k4 k5 hok
        obtain ⟨kind, nm, to, b, steps, part⟩ := act
        dsimp only at k0 k1 k2 k3 k4 k5
        have HDO := Lib.hid (fun (w' : World) (hd : Disk w' W.heap.size p F1 su no st) (hB : W.heap.size ≤ w'.heap.size) => (do3_is ⟨kind, nm, to, b, steps, part⟩ w' hd hB (by have := hok.2.2.2.1; unfold maxLen at this; dsimp only at this ⊢; omega) : Calls Try.prog 6 #[.pointer (some ⟨p, 0, none⟩), .agg #[.int .i64 kind, .string (str nm), .string (str to), .string (str b), .int .i64 steps, .int .i64 part]] w' (Done W.heap.size p F1 su (kOf kind) w')))
        clear hok
      case' inr.inl =>
        have j3 : ¬ ((i : Int) < n1) := by omega
        have j4 : (i : Int) = n1 := by omega
        subst h
        have HDO := Lib.hid (fun (w' : World) (hd : Disk w' W.heap.size p F1 su no st) (hB : W.heap.size ≤ w'.heap.size) => (do3_is ⟨4, [], [], [], 0, 0⟩ w' hd hB (Nat.zero_le _) : Calls Try.prog 6 #[.pointer (some ⟨p, 0, none⟩), .agg #[.int .i64 4, .string ⟨#[]⟩, .string ⟨#[]⟩, .string ⟨#[]⟩, .int .i64 0, .int .i64 0]] w' (Done W.heap.size p F1 su (kOf 4) w')))
      case' inr.inr =>
        have j3 : ¬ ((i : Int) < n1) := by omega
        have j4 : ((n1 : Int) < i) := by omega
        have j5 : (0 : Int) ≤ (i : Int) - n1 - 1 := by omega
        obtain ⟨r, hr⟩ : ∃ r : Nat, i = n1 + 1 + r := ⟨i - n1 - 1, by omega⟩
        have j6 : IntKind.i64.wrap ((i : Int) - n1) = (i : Int) - n1 := IntWalk.i64_in _ (by omega)
        have j7 : IntKind.i64.wrap ((i : Int) - n1 - 1) = (r : Int) := by rw [IntWalk.i64_in _ (by omega)]; omega
        have j8 : (0 : Int) ≤ r := by omega
        have j9 : (r : Int) < n2 := by omega
        have hrl : r < L2.length := by rw [HA.out.2.1]; omega
        obtain ⟨ad, X, rfl, hX, k0, k1, k2, k3, k4, k5⟩ := ((HA.out.2.2.2.1.below (HB.out _ _ HR.out.1)).below HZ.out).six r hrl
        have hok := HA.out.2.2.2.2.2 _ (List.getElem_mem hrl)
        generalize L2[r] = act at k0 k1 k2 k3 k4 k5 hok
        obtain ⟨kind, nm, to, b, steps, part⟩ := act
        dsimp only at k0 k1 k2 k3 k4 k5
        have HDO := Lib.hid (fun (w' : World) (hd : Disk w' W.heap.size p F1 su no st) (hB : W.heap.size ≤ w'.heap.size) => (do3_is ⟨kind, nm, to, b, steps, part⟩ w' hd hB (by have := hok.2.2.2.1; unfold maxLen at this; dsimp only at this ⊢; omega) : Calls Try.prog 6 #[.pointer (some ⟨p, 0, none⟩), .agg #[.int .i64 kind, .string (str nm), .string (str to), .string (str b), .int .i64 steps, .int .i64 part]] w' (Done W.heap.size p F1 su (kOf kind) w')))
        clear hok hr
      all_goals
        go_wp2_with fail
        all_goals
          clear z0 z1 z2 z3 z4 z5 y0 y1 y2 y3 y4 y5
          try clear k0 k1 k2 k3 k4 k5
          first
          | (refine (sure_is _).mono ?_
             rintro e w5 ⟨rfl, hb5⟩
             have HQ := Lib.hid hb5
             clear hb5
             go_wp2_with fail
             go_ret
             exact ⟨rfl, (HB.out _ _ (HR.out.1.trans (Turn.alloc F1 wr _))).trans (HQ.out.mono (HS.out _ _ (HR.out.1.trans (Turn.alloc F1 wr _))))⟩)
          | (refine (HDO.out _ (HR.out.2.below ((Below.refl _ _).alloc (Nat.le_refl _) _)) (HS.out _ _ (HR.out.1.trans (Turn.alloc F1 wr _)))).mono ?_
             rintro e w5 ⟨rfl, F5, su5, no5, st5, ht5, hd5, _⟩
             have HQ := Lib.hid (And.intro ((HR.out.1.trans (Turn.alloc F1 wr _)).trans ht5) hd5)
             clear ht5 hd5
             go_wp2_with fail
             exact ⟨⟨i + 1, F5, su5, no5, st5, by go_num, by omega, HQ.out.1, HQ.out.2⟩, by simp [intOf]; omega⟩)
          | exact ⟨⟨i + 1, F1, su, no, st, by go_num, by omega, HR.out.1.trans (Turn.alloc F1 wr _), HR.out.2.below ((Below.refl _ _).alloc (Nat.le_refl _) _)⟩, by simp [intOf]; omega⟩
    · rcases (show ¬ i < n1 + n2 ∨ (i < n1 + n2 ∧ ¬ i < 80) by omega) with h | ⟨h, h'⟩
      case' inl =>
        have j1 : ¬ ((i : Int) < (n1 : Int) + n2) := by omega
      case' inr =>
        have j1 : (i : Int) < (n1 : Int) + n2 := by omega
        have j2 : ¬ ((i : Int) < 80) := by omega
      all_goals
        have jw : IntKind.i64.wrap ((n1 : Int) + n2) = (n1 : Int) + n2 := IntWalk.i64_in _ (by omega)
        cases all
      all_goals
        go_wp2_with fail
        first
        | (refine (sync_ok wr HR.out.2 (HS.out _ _ HR.out.1)).mono ?_
           rintro e w2 ⟨rfl, F2, ht2, hd2⟩
           have HD2 := Lib.hid (And.intro (HR.out.1.trans ht2) hd2)
           clear ht2 hd2
           go_wp2_with fail)
        | (obtain ⟨w2, hw2⟩ : ∃ w2, wr = w2 := ⟨_, rfl⟩
           subst hw2
           have HD2 := HR)
        refine (names_is _ HD2.out.2).mono ?_
        rintro e w3 ⟨v3, rfl, hb3, ho3⟩
        obtain ⟨A3, c3, rfl, hc3, _, _, hr3, ha3⟩ := owns_form ho3
        first
        | (obtain ⟨F9, su9, st9, hg9⟩ : ∃ (F9 : Nat → Prop) (su9 : List (Bs × Bs)) (st9 : List (Stp Bs)), (Turn F w1 F9 w3 ∧ Disk w3 W.heap.size p F9 su9 no st9 ∧ su9 = no) := ⟨_, _, _, HD2.out.1.trans (Turn.of_below _ hb3), HD2.out.2.below hb3, rfl⟩)
        | (obtain ⟨F9, su9, st9, hg9⟩ : ∃ (F9 : Nat → Prop) (su9 : List (Bs × Bs)) (st9 : List (Stp Bs)), (Turn F w1 F9 w3 ∧ Disk w3 W.heap.size p F9 su9 no st9 ∧ True) := ⟨_, _, _, HD2.out.1.trans (Turn.of_below _ hb3), HD2.out.2.below hb3, trivial⟩)
        have HG := Lib.hid hg9
        clear hg9
        obtain ⟨mn, hmn⟩ : ∃ mn, no.length = mn := ⟨_, rfl⟩
        rw [hmn] at hc3
        rw [hmn]
        have H3 := Lib.hid (And.intro hr3 hmn)
        clear hb3 ho3 hc3 hr3 ha3 hmn
        go_wp2_with fail
        go_loopw [10, 11, 13] (fun vN vB v wr => ∃ j : Nat, v = .int .i64 j ∧ j ≤ mn ∧ Below w3.heap.size w3 wr ∧ wr.ownsRow w3.heap.size 9 1 vN j ((no.take j).map fun t => .string (str t.1)) ∧ wr.ownsRow w3.heap.size 9 1 vB j ((no.take j).map fun t => .string (str t.2)) ∧ (∀ k, vN.ownBlock = some k → vB.ownBlock ≠ some k)) (fun _ _ v _ => mn - (intOf v).toNat)
        case atStart => exact ⟨0, rfl, Nat.zero_le _, Below.refl _ _, World.ownsRow_nil _ _ _ _, World.ownsRow_nil _ _ _ _, fun k h => by cases h⟩
        case round =>
          obtain ⟨j, rfl, hj, hbj, hoN, hoB, hap⟩ := hrel
          have HJ := Lib.hid (And.intro hbj (And.intro hoN (And.intro hoB hap)))
          clear hbj hoN hoB hap
          rcases Nat.lt_or_ge j mn with hlt | hge
          · have q0 : (0 : Int) ≤ j := by omega
            have q1 : (j : Int) < mn := by omega
            have hjl : j < no.length := by rw [H3.out.2]; exact hlt
            obtain ⟨ad, rfl, hcell⟩ := (H3.out.1.below HJ.out.1).at_ (k := j) (by rw [List.length_map]; exact hjl)
            rw [List.getElem_map] at hcell
            obtain ⟨fn, hfn⟩ : ∃ fn, no[j] = fn := ⟨_, rfl⟩
            rw [hfn] at hcell
            have hgot := got_at (disk_rise HG.out.2.1) hjl
            have hnamed := HG.out.2.1.hist.names _ (List.getElem_mem hjl)
            have hhas : hasF fn.1 no = true := hasF_mem.2 ⟨fn, hfn ▸ List.getElem_mem hjl, rfl⟩
            rw [hfn] at hgot hnamed
            have HF := Lib.hid (And.intro hfn (And.intro hgot (And.intro hjl (show readErr no fn.1 = 0 by simp [readErr, hnamed, hhas]))))
            clear hfn hgot hnamed hhas
            go_wp2_with fail
            refine (read_ok fn.1 fn.2 _ (HG.out.2.1.below HJ.out.1) HF.out.2.2.2 HF.out.2.1).mono ?_
            rintro e w5 ⟨A5, c5, rfl, hb5, hr5, ha5⟩
            obtain ⟨ln, hln⟩ : ∃ ln, fn.2.length = ln := ⟨_, rfl⟩
            rw [hln]
            have hN0 := HJ.out.2.1.lt
            have hB0 := HJ.out.2.2.1.lt
            have hcl : ad.block < wr.heap.size := by have := World.block_lt_of_cell? wr (ad.add j) hcell; rwa [block_add] at this
            have hcl3 : ad.block < w3.heap.size := by
              obtain ⟨ad', e, h1⟩ := H3.out.1.at_ (k := j) (by rw [List.length_map]; exact hjl)
              injection e with e
              subst e
              have := World.block_lt_of_cell? w3 _ h1
              rwa [block_add] at this
            have hKS : ∀ W : World, Unt w5 u10 u11 W →
                W.cell? (ad.add j) = some (.string (str fn.1)) ∧ (convert 35 9 (.slice A5 ln c5)).run Try.prog W = .ok (.string (str fn.2)) W := by
              intro W hW'
              have hW := hW'.2
              refine ⟨?_, run_conv_str (P := Try.prog) Try.underlying35 Try.underlying5 Try.underlying9 (w := W) (c := c5) hln (hr5.keep fun q e hq => hW _ hq (fun h => ?_) (fun h => ?_))⟩
              · have h1 := hW ad.block (Nat.lt_of_lt_of_le hcl hb5.size) (fun h => by have := (hN0 _ h).1; omega) (fun h => by have := (hB0 _ h).1; omega)
                have h2 := hb5.block ad.block hcl
                exact (World.cell?_of_block (a := ad.add j) (by rw [block_add]; exact h1.trans h2)).trans hcell
              · have := (hN0 _ h).2
                have := ha5 q e.symm
                omega
              · have := (hB0 _ h).2
                have := ha5 q e.symm
                omega
            have hN1 : w5.drew.ownsRow w3.heap.size 9 1 u10 j ((no.take j).map fun t => .string (str t.1)) := ownsRow_block (w := wr) HJ.out.2.1 (fun k hk => hb5.block k (hN0 k hk).2)
            have hB1 : w5.drew.ownsRow w3.heap.size 9 1 u11 j ((no.take j).map fun t => .string (str t.2)) := ownsRow_block (w := wr) HJ.out.2.2.1 (fun k hk => hb5.block k (hB0 k hk).2)
            have hU0 : Unt w5 u10 u11 w5.drew := ⟨Nat.le_refl _, fun _ _ _ _ => rfl⟩
            have hk5 := hKS w5.drew hU0
            have U0 := Lib.hid hU0
            clear hU0
            have HKS := Lib.hid hKS
            have HX := Lib.hid (And.intro hb5 (And.intro hN1 hB1))
            have HNE := Lib.hid (show u10.ownBlock ≠ some w5.heap.size ∧ u10.ownBlock ≠ some (w5.heap.size + 1) ∧ u11.ownBlock ≠ some w5.heap.size ∧ u11.ownBlock ≠ some (w5.heap.size + 1) from ⟨fun h => by have := (hN0 _ h).2; have := hb5.size; omega, fun h => by have := (hN0 _ h).2; have := hb5.size; omega, fun h => by have := (hB0 _ h).2; have := hb5.size; omega, fun h => by have := (hB0 _ h).2; have := hb5.size; omega⟩)
            have HML := Lib.hid (show j + 1 ≤ maxLen ∧ (j + 1) * 16 ≤ 140737488355328 ∧ ∀ W : World, w5.heap.size ≤ W.heap.size → w3.heap.size ≤ W.heap.size from by
              have h1 := HG.out.2.1.hist.le.2
              have h2 := H3.out.2
              exact ⟨by unfold maxLen; omega, by omega, fun W hW => Nat.le_trans (Nat.le_trans HJ.out.1.size hb5.size) hW⟩)
            have HAP := Lib.hid HJ.out.2.2.2
            have HAP2 := Lib.hid (show ∀ i, u11.ownBlock = some i → u10.ownBlock ≠ some i from fun i h1 h2 => HJ.out.2.2.2 i h2 h1)
            clear hb5 hr5 hln ha5 hKS hN1 hB1 hcl hcl3 hN0 hB0
            go_wp2_with fail
            go_region_held3 (fun W => W.cell? (ad.add j) = some (.string (str fn.1)) ∧ (convert 35 9 (.slice A5 ln c5)).run Try.prog W = .ok (.string (str fn.2)) W)
              (first
                | exact hk5
                | exact HKS.out _ HUN.out
                | exact HKS.out _ HUB.out
                | exact HKS.out _ (HUN.out.alloc _)
                | exact HKS.out _ (HUB.out.alloc _)
                | exact HKS.out _ (U0.out.alloc _)
                | exact HKS.out _ ((U0.out.alloc _).alloc _))
              (first
                | (refine step_app (by rfl) (.tmp 104) (.tmp 109) _ (by rfl) elemS w3.heap.size u10 j ((no.take j).map fun t => .string (str t.1)) (by rfl) (by first | exact HNB.out | exact HNB.out.alloc _ | exact HX.out.2.1.alloc _ | exact (HX.out.2.1.alloc _).alloc _) (some ⟨_, 0, none⟩) 1 1 [.string (str fn.1)] (by rfl) rfl
                      (by first | exact HRB.out | exact rd_new _ _ | exact (rd_new _ _).alloc _ | exact rd_new2 _ _ _) (by simp [Value.oneCell']) HML.out.1 HML.out.2.1 (HML.out.2.2 _ (by first | exact HUB.out.1 | exact (HUB.out.alloc _).1 | exact (U0.out.alloc _).1 | exact ((U0.out.alloc _).alloc _).1)) ?_
                   intro vN wN hoN hgN haN
                   have HUN := Lib.hid (show Unt w5 u10 u11 wN by first | exact HUB.out.grown hgN (.inl rfl) | exact (HUB.out.alloc _).grown hgN (.inl rfl) | exact (U0.out.alloc _).grown hgN (.inl rfl) | exact ((U0.out.alloc _).alloc _).grown hgN (.inl rfl))
                   try have HBN := Lib.hid (show wN.ownsRow w3.heap.size 9 1 u11 j ((no.take j).map fun t => .string (str t.2)) by first | exact own_kept (HX.out.2.2.alloc _) hgN HAP2.out | exact own_kept ((HX.out.2.2.alloc _).alloc _) hgN HAP2.out)
                   first
                   | have HRN := Lib.hid (show Rd wN (some ⟨w5.heap.size + 1, 0, none⟩) [.string (str fn.2)] from Rd.grown (Rd.drew (rd_new2 _ _ _)) hgN (fun q e => by injection e with e; subst e; exact HNE.out.2.1.symm))
                   | have HRN := Lib.hid (show Rd wN (some ⟨w5.heap.size, 0, none⟩) [.string (str fn.2)] from Rd.grown (Rd.drew ((rd_new _ _).alloc _)) hgN (fun q e => by injection e with e; subst e; exact HNE.out.1.symm))
                   | skip
                   have hlN : ∀ k, vN.ownBlock = some k → u10.ownBlock = some k ∨ w5.heap.size ≤ k := by
                     intro k hk
                     rcases haN with h | h
                     · exact .inl (h ▸ hk)
                     · right
                       rw [h] at hk
                       injection hk with hk
                       rw [← hk]
                       first | exact HUB.out.1 | exact (HUB.out.alloc _).1 | exact (U0.out.alloc _).1 | exact ((U0.out.alloc _).alloc _).1
                   have HN := Lib.hid (And.intro hoN (And.intro hgN hlN))
                   clear hoN hgN haN hlN)
                | (refine step_app (by rfl) (.tmp 111) (.tmp 114) _ (by rfl) elemS w3.heap.size u11 j ((no.take j).map fun t => .string (str t.2)) (by rfl) (by first | exact HBN.out | exact HBN.out.alloc _ | exact HX.out.2.2.alloc _ | exact (HX.out.2.2.alloc _).alloc _) (some ⟨_, 0, none⟩) 1 1 [.string (str fn.2)] (by rfl) rfl
                      (by first | exact HRN.out | exact rd_new _ _ | exact (rd_new _ _).alloc _ | exact rd_new2 _ _ _) (by simp [Value.oneCell']) HML.out.1 HML.out.2.1 (HML.out.2.2 _ (by first | exact HUN.out.1 | exact (HUN.out.alloc _).1 | exact (U0.out.alloc _).1 | exact ((U0.out.alloc _).alloc _).1)) ?_
                   intro vB wB hoB hgB haB
                   have HUB := Lib.hid (show Unt w5 u10 u11 wB by first | exact HUN.out.grown hgB (.inr rfl) | exact (HUN.out.alloc _).grown hgB (.inr rfl) | exact (U0.out.alloc _).grown hgB (.inr rfl) | exact ((U0.out.alloc _).alloc _).grown hgB (.inr rfl))
                   try have HNB := Lib.hid (show wB.ownsRow w3.heap.size 9 1 u10 j ((no.take j).map fun t => .string (str t.1)) by first | exact own_kept (HX.out.2.1.alloc _) hgB HAP.out | exact own_kept ((HX.out.2.1.alloc _).alloc _) hgB HAP.out)
                   first
                   | have HRB := Lib.hid (show Rd wB (some ⟨w5.heap.size + 1, 0, none⟩) [.string (str fn.1)] from Rd.grown (Rd.drew (rd_new2 _ _ _)) hgB (fun q e => by injection e with e; subst e; exact HNE.out.2.2.2.symm))
                   | have HRB := Lib.hid (show Rd wB (some ⟨w5.heap.size, 0, none⟩) [.string (str fn.1)] from Rd.grown (Rd.drew ((rd_new _ _).alloc _)) hgB (fun q e => by injection e with e; subst e; exact HNE.out.2.2.1.symm))
                   | skip
                   have hlB : ∀ k, vB.ownBlock = some k → u11.ownBlock = some k ∨ wN.heap.size ≤ k := by
                     intro k hk
                     rcases haB with h | h
                     · exact .inl (h ▸ hk)
                     · right
                       rw [h] at hk
                       injection hk with hk
                       rw [← hk]
                       first | exact Nat.le_refl _ | (rw [World.size_alloc]; exact Nat.le_succ _)
                   have HBB := Lib.hid (And.intro hoB (And.intro hgB hlB))
                   clear hoB hgB haB hlB))
            all_goals
              have e1 : no.take (j + 1) = no.take j ++ [fn] := by rw [List.take_succ_eq_append_getElem HF.out.2.2.1, HF.out.1]
              have HF2 := Lib.hid (And.intro (rows_next (x := .string (str fn.1)) (vB := vB) HJ.out.1 HX.out.1 HJ.out.2.1 HJ.out.2.2.1 HJ.out.2.2.2 HN.out.1 (by first | exact fun k hk => rfl | exact fun k hk => Below.heap_alloc _ _ k hk) (by first | exact Nat.le_refl _ | (rw [World.size_alloc]; exact Nat.le_succ _)) HBB.out.2.1 HN.out.2.2 HBB.out.2.2 HUB.out ⟨HBB.out.2.1.os.trans HN.out.2.1.os, HBB.out.2.1.tape.trans HN.out.2.1.tape, HBB.out.2.1.output.trans HN.out.2.1.output⟩) e1)
              have hm64 : (mn : Int) ≤ 64 := by have h1 := HG.out.2.1.hist.le.2; have h2 := H3.out.2; omega
              clear e1
              go_wp2_with fail
              refine ⟨⟨j + 1, by go_num, hlt, HF2.out.1.2.2, ?_, ?_, HF2.out.1.2.1⟩, by simp [intOf]; omega⟩
              · rw [HF2.out.2, List.map_append]; exact HF2.out.1.1
              · rw [HF2.out.2, List.map_append]; exact HBB.out.1
          · obtain hjm : j = mn := by omega
            subst hjm
            have htk : no.take j = no := List.take_of_length_le (Nat.le_of_eq H3.out.2)
            rw [htk] at HJ
            clear htk
            obtain ⟨A4, c4, rfl, _, _, hl4, hr4, ha4⟩ := owns_form HJ.out.2.1
            obtain ⟨A5, c5, rfl, _, _, hl5, hr5, ha5⟩ := owns_form HJ.out.2.2.1
            have HJ2 := Lib.hid (And.intro HJ.out.1 (And.intro (And.intro hr4 ha4) (And.intro hr5 ha5)))
            clear hr4 ha4 hr5 ha5 hl4 hl5 HJ hge
            go_wp2_with fail
            refine (pending_is _ (HG.out.2.1.below HJ2.out.1)).mono ?_
            rintro e w4 ⟨rfl, rfl⟩
            obtain ⟨sn, hsn⟩ : ∃ sn, st9.length = sn := ⟨_, rfl⟩
            rw [hsn]
            have HSN := Lib.hid hsn
            clear hsn
            go_wp2_with fail
            have HT := Lib.hid (fun (wk : World) (Fk : Nat → Prop) (ht6 : Turn F9 wr Fk wk) => (show Turn F w1 Fk wk ∧ Rd wk A4 (no.map fun t => .string (str t.1)) ∧ Rd wk A5 (no.map fun t => .string (str t.2)) from
              ⟨(HG.out.1.trans (Turn.of_below _ HJ2.out.1)).trans ht6, HJ2.out.2.1.1.turn ht6 (fun a e h => by have := (HG.out.2.1.lt _ h).2; have := (HJ2.out.2.1.2 a e).1; omega), HJ2.out.2.2.1.turn ht6 (fun a e h => by have := (HG.out.2.1.lt _ h).2; have := (HJ2.out.2.2.2 a e).1; omega)⟩))
            have HD9 := Lib.hid (HG.out.2.1.below HJ2.out.1)
            first
            | (refine (crash_nilI sn 0 wr HD9.out (HS.out _ _ (HT.out _ _ (Turn.refl _ _)).1) (Nat.le_of_eq HSN.out.symm)).mono ?_
               rintro e w6 ⟨rfl, F6, ht6, hd6⟩
               rw [show crashF su9 st9 sn 0 = no by rw [← HSN.out]; exact crashF_all HG.out.2.1.hist 0] at hd6
               have HC := Lib.hid (And.intro (HT.out _ _ ht6) hd6)
               clear ht6 hd6
               go_wp2_with fail)
            | (go_loopw [17] (fun v wk => ∃ (i : Nat) (F' : Nat → Prop) (no' : List (Bs × Bs)) (st' : List (Stp Bs)), v = .int .i64 i ∧ i ≤ 30 ∧ Turn F9 wr F' wk ∧ Disk wk W.heap.size p F' su9 no' st') (fun v _ => 30 - (intOf v).toNat)
               case' atStart => exact ⟨0, F9, _, _, rfl, Nat.zero_le _, Turn.refl _ _, HD9.out⟩
               case' round =>
                 obtain ⟨i, F', no', st', rfl, hi3, ht3, hd3⟩ := hrel
                 have HL := Lib.hid (And.intro ht3 hd3)
                 clear ht3 hd3
                 by_cases hgo3 : i < n2 ∧ i < 30
                 · have r0 : (0 : Int) ≤ i := by omega
                   have r1 : (i : Int) < n2 := by omega
                   have r2 : (i : Int) < 30 := by omega
                   have hrl : i < L2.length := by rw [HA.out.2.1]; exact hgo3.1
                   obtain ⟨ad, X, rfl, hX, k0, k1, k2, k3, k4, k5⟩ := (HA.out.2.2.2.1.below (HB.out _ _ (HT.out _ _ HL.out.1).1)).six i hrl
                   have hok := HA.out.2.2.2.2.2 _ (List.getElem_mem hrl)
                   generalize L2[i] = act at k0 k1 k2 k3 k4 k5 hok
                   obtain ⟨kind, nm, to, b, steps, part⟩ := act
                   dsimp only at k0 k1 k2 k3 k4 k5
                   have ht4 : (IntKind.u64.wrap kind).tmod 6 = (kOf kind : Int) := by rw [Int.tmod_eq_emod_of_nonneg (u64_nonneg kind), kOf_eq kind]
                   have hk6 := kOf_lt kind
                   have HDO := Lib.hid (fun (w' : World) (hd : Disk w' W.heap.size p F' su9 no' st') (hB : W.heap.size ≤ w'.heap.size) => (do3_is ⟨kind, nm, to, b, steps, part⟩ w' hd hB (by have := hok.2.2.2.1; unfold maxLen at this; dsimp only at this ⊢; omega) : Calls Try.prog 6 #[.pointer (some ⟨p, 0, none⟩), .agg #[.int .i64 kind, .string (str nm), .string (str to), .string (str b), .int .i64 steps, .int .i64 part]] w' (Done W.heap.size p F' su9 (kOf kind) w')))
                   clear hok hgo3
                   generalize kOf kind = k at ht4 hk6 HDO
                   rcases Nat.lt_or_ge k 4 with hk4 | hk4
                   · have r3 : (k : Int) < 4 := by omega
                     go_wp2_with fail
                     all_goals
                       clear k0 k1 k2 k3 k4 k5
                       first
                       | (refine (HDO.out _ HL.out.2 (HS.out _ _ (HT.out _ _ HL.out.1).1)).mono ?_
                          rintro e w5 ⟨rfl, F5, su5, no5, st5, ht5, hd5, hsu⟩
                          rw [hsu (by omega)] at hd5
                          have HQ := Lib.hid (And.intro (HL.out.1.trans ht5) hd5)
                          clear ht5 hd5 hsu
                          go_wp2_with fail
                          exact ⟨⟨i + 1, F5, no5, st5, by go_num, by omega, HQ.out.1, HQ.out.2⟩, by simp [intOf]; omega⟩)
                       | exact ⟨⟨i + 1, F', no', st', by go_num, by omega, HL.out.1, HL.out.2⟩, by simp [intOf]; omega⟩
                   · have r3 : ¬ ((k : Int) < 4) := by omega
                     go_wp2_with fail
                     exact ⟨⟨i + 1, F', no', st', by go_num, by omega, HL.out.1, HL.out.2⟩, by simp [intOf]; omega⟩
                 rcases (show ¬ i < n2 ∨ (i < n2 ∧ ¬ i < 30) by omega) with h3 | ⟨h3, h3'⟩
                 case' inl =>
                   have r1 : ¬ ((i : Int) < n2) := by omega
                 case' inr =>
                   have r1 : (i : Int) < n2 := by omega
                   have r2 : ¬ ((i : Int) < 30) := by omega
                 all_goals
                   go_wp2_with fail
                   refine (crash_nilI 0 0 _ HL.out.2 (HS.out _ _ (HT.out _ _ HL.out.1).1) (Nat.zero_le _)).mono ?_
                   rintro e w6 ⟨rfl, F6, ht6, hd6⟩
                   rw [crashF_none, HG.out.2.2] at hd6
                   have HC := Lib.hid (And.intro (HT.out _ _ (HL.out.1.trans ht6)) hd6)
                   clear ht6 hd6
                   go_wp2_with fail)
            all_goals
              refine (pending_is _ HC.out.2).mono ?_
              rintro e w4 ⟨rfl, rfl⟩
              go_wp2_with fail
              refine (names_is _ HC.out.2).mono ?_
              rintro e w7 ⟨v7, rfl, hb7, ho7⟩
              obtain ⟨A7, c7, rfl, _, _, _, hr7, ha7⟩ := owns_form ho7
              rw [H3.out.2]
              have H7 := Lib.hid (And.intro (HC.out.1.1.trans (Turn.of_below _ hb7)) (And.intro (HC.out.2.below hb7) (And.intro hr7 (And.intro (HC.out.1.2.1.below hb7) (HC.out.1.2.2.below hb7)))))
              clear hb7 ho7 hr7 ha7
              go_wp2_with fail
              go_loopw [20] (fun v wr => ∃ i : Nat, v = .int .i64 i ∧ i ≤ j ∧ Below w7.heap.size w7 wr) (fun v _ => j - (intOf v).toNat)
              case atStart => exact ⟨0, rfl, Nat.zero_le _, Below.refl _ _⟩
              case round =>
                obtain ⟨i, rfl, hi9, hbi⟩ := hrel
                have HI := Lib.hid hbi
                clear hbi
                rcases Nat.lt_or_ge i j with hlt | hge
                · have q0 : (0 : Int) ≤ i := by omega
                  have q1 : (i : Int) < j := by omega
                  have hil : i < no.length := by rw [H3.out.2]; exact hlt
                  have hml : ∀ f : Bs × Bs → Value, i < (no.map f).length := fun f => by rw [List.length_map]; exact hil
                  obtain ⟨ad7, rfl, k7⟩ := (H7.out.2.2.1.below HI.out).at_ (k := i) (hml _)
                  obtain ⟨ad4, rfl, k4⟩ := (H7.out.2.2.2.1.below HI.out).at_ (k := i) (hml _)
                  obtain ⟨ad5, rfl, k5⟩ := (H7.out.2.2.2.2.below HI.out).at_ (k := i) (hml _)
                  rw [List.getElem_map] at k7 k4 k5
                  obtain ⟨fn, hfn⟩ : ∃ fn, no[i] = fn := ⟨_, rfl⟩
                  rw [hfn] at k7 k4 k5
                  have hgot := got_at (disk_rise H7.out.2.1) hil
                  have hnamed := H7.out.2.1.hist.names _ (List.getElem_mem hil)
                  have hhas : hasF fn.1 no = true := hasF_mem.2 ⟨fn, hfn ▸ List.getElem_mem hil, rfl⟩
                  rw [hfn] at hgot hnamed
                  have HF := Lib.hid (And.intro hgot (show readErr no fn.1 = 0 by simp [readErr, hnamed, hhas]))
                  clear hfn hgot hnamed hhas hml
                  go_wp2_with fail
                  refine (read_ok fn.1 fn.2 _ (H7.out.2.1.below HI.out) HF.out.2 HF.out.1).mono ?_
                  rintro e w8 ⟨A8, c8, rfl, hb8, hr8, _⟩
                  obtain ⟨ln, hln⟩ : ∃ ln, fn.2.length = ln := ⟨_, rfl⟩
                  rw [hln]
                  have hcv : ∀ n, (convert 35 9 (.slice A8 ln c8)).run Try.prog (w8.drewN n) = .ok (.string (str fn.2)) (w8.drewN n) := fun n => run_conv_str (P := Try.prog) Try.underlying35 Try.underlying5 Try.underlying9 (w := w8.drewN n) (c := c8) hln (hr8.keep fun q e hq => rfl)
                  have m7 := (hb8.cell (World.block_lt_of_cell? wr _ k7)).trans k7
                  have m4 := (hb8.cell (World.block_lt_of_cell? wr _ k4)).trans k4
                  have m5 := (hb8.cell (World.block_lt_of_cell? wr _ k5)).trans k5
                  have H8 := Lib.hid hb8
                  clear hb8 hr8 hln k7 k4 k5
                  go_wp2_with fail
                  go_quiet (fail)
                  have hj64 : (j : Int) ≤ 64 := by have h1 := HG.out.2.1.hist.le.2; have h2 := H3.out.2; omega
                  go_wp2_with fail
                  refine ⟨⟨i + 1, by go_num, hlt, HI.out.trans ((H8.out.trans (c := w8.drewN nq) ⟨rfl, rfl, rfl, Nat.le_refl _, fun _ _ => rfl⟩).mono HI.out.size)⟩, by simp [intOf]; omega⟩
                · have q1 : ¬ ((i : Int) < j) := by omega
                  go_wp2_with fail
                  refine (sure_is _).mono ?_
                  rintro e w9 ⟨rfl, hb9⟩
                  have HQ := Lib.hid hb9
                  clear hb9
                  go_wp2_with fail
                  go_ret
                  exact ⟨rfl, (HB.out _ _ H7.out.1).trans ((HI.out.trans (HQ.out.mono HI.out.size)).mono (HS.out _ _ H7.out.1))⟩
end Go.Proofs.Ytljagggankmnkaa

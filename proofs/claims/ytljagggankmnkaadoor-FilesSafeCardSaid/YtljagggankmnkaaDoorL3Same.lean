/- Layer 3's law package: same. -/
import Derived.Test.YtljagggankmnkaaDoorRef3B
import Derived.Deep.QuietTactic
import Derived.BigQuiet
namespace Go.Proofs.YtljagggankmnkaaDoor
open Go.RowKit Go.Maps

theorem got_at' {l : List (Bs × Bs)} (h : (l.map (·.1)).Pairwise (fun x y => x < y)) {i : Nat} (hi : i < l.length) : got l[i].1 l = some l[i].2 := by
  induction l generalizing i with
  | nil => cases hi
  | cons p l ih =>
    rw [List.map_cons, List.pairwise_cons] at h
    cases i with
    | zero => simp [got]
    | succ i =>
      have hi' : i < l.length := by simpa using hi
      have hm : l[i].1 ∈ l.map (·.1) := List.mem_map.2 ⟨_, List.getElem_mem hi', rfl⟩
      have hne : p.1 ≠ l[i].1 := fun e => by have := h.1 _ hm; rw [e] at this; exact absurd this (List.lt_irrefl _)
      have := ih h.2 hi'
      simp only [got, List.getElem_cons_succ] at this ⊢
      rw [List.find?_cons_of_neg (by simpa using hne)]
      exact this
theorem RdF.two' {w : World} {ad X : Addr} {L : List (Bs × Bs)} {i : Nat} (h : RdF w (some ad) L) (hi : i < L.length) (hX : ad.add (i * 2) = X) : w.cell? X = some (.string (str L[i].1)) ∧ w.cell? { block := X.block, off := X.off + 1 } = some (.string (str L[i].2)) := by
  obtain ⟨ad', X', e, e', h0, h1⟩ := h.two i hi
  injection e with e
  subst e
  subst e'
  subst hX
  exact ⟨h0, h1⟩
set_option maxHeartbeats 2000000 in
set_option maxRecDepth 100000 in
theorem same_is {B p : Nat} {F : Nat → Prop} {su no : List (Bs × Bs)} {st : List (Stp Bs)} (A : Option Addr) (n c : Nat) (w : World) (hd : Disk w B p F su no st) (hn : no.length = n) (hr : RdF w A no) :
    Calls Tryd.prog 10 #[.pointer (some ⟨p, 0, none⟩), .slice A n c] w fun e w' => e = .returned (.bool true) ∧ Below w.heap.size w w' := by
  have HD := Lib.hid (And.intro hd (And.intro hn hr))
  clear hd hn hr
  go_enter Tryd.func10, Tryd.ntmps10
  go_wp2_with fail
  refine (names_is _ HD.out.1).mono ?_
  rintro e w1 ⟨v1, rfl, hb1, ho1⟩
  obtain ⟨A1, c1, rfl, _, _, _, hr1, _⟩ := owns_form ho1
  rw [HD.out.2.1]
  have H1 := Lib.hid (And.intro hb1 (And.intro (HD.out.1.below hb1) (And.intro hr1 (HD.out.2.2.below hb1))))
  clear hb1 ho1 hr1
  go_wp2_with fail
  go_loopw [6] (fun v wr => ∃ i : Nat, v = .int .i64 i ∧ i ≤ n ∧ Below w1.heap.size w1 wr) (fun v _ => n - (intOf v).toNat)
  case atStart => exact ⟨0, rfl, Nat.zero_le _, Below.refl _ _⟩
  case round =>
    obtain ⟨i, rfl, hi9, hbi⟩ := hrel
    have HI := Lib.hid hbi
    clear hbi
    rcases Nat.lt_or_ge i n with hlt | hge
    · have q0 : (0 : Int) ≤ i := by omega
      have q1 : (i : Int) < n := by omega
      have hil : i < no.length := by rw [HD.out.2.1]; exact hlt
      obtain ⟨ad1, rfl, k1⟩ := (H1.out.2.2.1.below HI.out).at_ (k := i) (by rw [List.length_map]; exact hil)
      obtain ⟨ad, X, rfl, hX, k2, k3⟩ := (H1.out.2.2.2.below HI.out).two i hil
      rw [List.getElem_map] at k1
      obtain ⟨fn, hfn⟩ : ∃ fn, no[i] = fn := ⟨_, rfl⟩
      rw [hfn] at k1 k2 k3
      have hgot := got_at' (disk_rise H1.out.2.1) hil
      have hnamed := H1.out.2.1.hist.names _ (List.getElem_mem hil)
      have hhas : hasF fn.1 no = true := hasF_mem.2 ⟨fn, hfn ▸ List.getElem_mem hil, rfl⟩
      rw [hfn] at hgot hnamed
      have hj64 : (n : Int) ≤ 64 := by have h1 := H1.out.2.1.hist.le.2; have h2 := HD.out.2.1; omega
      have HF := Lib.hid (And.intro hgot (show readErr no fn.1 = 0 by simp [readErr, hnamed, hhas]))
      clear hfn hgot hnamed hhas
      go_wp2_with fail
      refine (read_ok fn.1 fn.2 _ (H1.out.2.1.below HI.out) HF.out.2 HF.out.1).mono ?_
      rintro e w8 ⟨A8, c8, rfl, hb8, hr8, _⟩
      obtain ⟨ln, hln⟩ : ∃ ln, fn.2.length = ln := ⟨_, rfl⟩
      rw [hln]
      have hcv : ∀ n, (convert 36 9 (.slice A8 ln c8)).run Tryd.prog (w8.drewN n) = .ok (.string (str fn.2)) (w8.drewN n) := fun n => run_conv_str (P := Tryd.prog) Tryd.underlying36 Tryd.underlying5 Tryd.underlying9 (w := w8.drewN n) (c := c8) hln (hr8.keep fun q e hq => rfl)
      have m1 := (hb8.cell (World.block_lt_of_cell? wr _ k1)).trans k1
      have m2 := (hb8.cell (World.block_lt_of_cell? wr _ k2)).trans k2
      have m3 := (hb8.cell (World.block_lt_of_cell? wr _ k3)).trans k3
      have H8 := Lib.hid hb8
      clear hb8 hr8 hln k1 k2 k3
      go_wp2_with fail
      go_quiet (fail)
      go_wp2_with fail
      refine ⟨⟨i + 1, by go_num, hlt, HI.out.trans ((H8.out.trans (c := w8.drewN nq) ⟨rfl, rfl, rfl, Nat.le_refl _, fun _ _ => rfl⟩).mono HI.out.size)⟩, by simp [intOf]; omega⟩
    · have q1 : ¬ ((i : Int) < n) := by omega
      go_wp2_with fail
      go_ret
      exact ⟨rfl, H1.out.1.trans (HI.out.mono H1.out.1.size)⟩
end Go.Proofs.YtljagggankmnkaaDoor

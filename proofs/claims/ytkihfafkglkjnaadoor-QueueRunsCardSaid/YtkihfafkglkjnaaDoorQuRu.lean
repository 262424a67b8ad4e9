/- Law QueueRuns, walked. -/
import Derived.Test.YtkihfafkglkjnaaDoorQuNu
import Derived.Test.YtkihfafkglkjnaaDoorQuLw
import Derived.Test.YtkihfafkglkjnaaDoorQuRm
import Derived.Deep.CutBlock
import Derived.Deep.RegionHeld3
namespace Go.Proofs.YtkihfafkglkjnaaDoor
open Go.RowKit

theorem u64_geR (k : Int) : 0 ≤ IntKind.u64.wrap k := by
  simp only [IntKind.wrap, IntKind.bits, IntKind.signed]
  simp
  omega
theorem mod_uR (n : Int) (d : Nat) (hd : 0 < d) : ∃ r : Nat, r < d ∧ (IntKind.u64.wrap n).tmod (d : Int) = (r : Int) := by
  have h := u64_geR n
  have h1 := Int.emod_nonneg (IntKind.u64.wrap n) (show (d : Int) ≠ 0 by omega)
  have h2 := Int.emod_lt_of_pos (IntKind.u64.wrap n) (show (0 : Int) < d by omega)
  exact ⟨(IntKind.u64.wrap n % d).toNat, by omega, by rw [Int.tmod_eq_emod_of_nonneg h]; omega⟩
/-- An act: what, at, kind, id. -/
abbrev Ac := Int × Int × Int × Int
def acC (a : Ac) : List Value := [.int .i64 a.1, .int .i64 a.2.1, .int .i64 a.2.2.1, .int .i64 a.2.2.2]
theorem rd_four {w : World} {A : Option Addr} {L : List Ac} (h : Rd w A (L.flatMap acC)) (i : Nat) (hi : i < L.length) :
    ∃ ad X, A = some ad ∧ ad.add (i * 4) = X ∧ w.cell? X = some (.int .i64 L[i].1) ∧ w.cell? { block := X.block, off := X.off + 1 } = some (.int .i64 L[i].2.1) ∧ w.cell? { block := X.block, off := X.off + 2 } = some (.int .i64 L[i].2.2.1) ∧ w.cell? { block := X.block, off := X.off + 3 } = some (.int .i64 L[i].2.2.2) := by
  obtain ⟨ad, e, hc⟩ := h (by rw [flat_len acC 4 (fun _ => rfl)]; omega)
  have hj : ∀ j u, j < 4 → (acC L[i])[j]? = some u → w.cell? (ad.add (i * 4 + j)) = some u := fun j u hj hu => hc _ u (by rw [flat_get acC 4 (fun _ => rfl) L i hi j hj]; exact hu)
  have h1 := hj 1 _ (by omega) rfl
  have h2 := hj 2 _ (by omega) rfl
  have h3 := hj 3 _ (by omega) rfl
  rw [← add_add'] at h1 h2 h3
  exact ⟨ad, _, e, rfl, hj 0 _ (by omega) rfl, h1, h2, h3⟩
/-- An act of one's own, in a block. -/
def C4 (w : World) (b : Nat) (p : Ac) : Prop := w.heap[b]? = some (.cells #[.int .i64 p.1, .int .i64 p.2.1, .int .i64 p.2.2.1, .int .i64 p.2.2.2] 31 (0, 0))
theorem C4.lt {w : World} {b : Nat} {p : Ac} (h : C4 w b p) : b < w.heap.size := blk9_lt h
theorem C4.cells {w : World} {b : Nat} {p : Ac} (h : C4 w b p) : w.cell? ⟨b, 0, none⟩ = some (.int .i64 p.1) ∧ w.cell? ⟨b, 1, none⟩ = some (.int .i64 p.2.1) ∧ w.cell? ⟨b, 2, none⟩ = some (.int .i64 p.2.2.1) ∧ w.cell? ⟨b, 3, none⟩ = some (.int .i64 p.2.2.2) := ⟨cell9_blk h 0 rfl, cell9_blk h 1 rfl, cell9_blk h 2 rfl, cell9_blk h 3 rfl⟩
theorem C4.bl {w w' : World} {b : Nat} {p : Ac} (h : C4 w b p) (hb : Below w.heap.size w w') : C4 w' b p := (hb.block b h.lt).trans h
theorem C4.tu {F F' : Nat → Prop} {w w' : World} {b : Nat} {p : Ac} (h : C4 w b p) (ht : TuF F F' w w') (hF : ¬ F b) : C4 w' b p := (ht.block b h.lt hF).trans h
variable {Is : World → Value → (Nat → Prop) → Int → List Ev → Prop}
/-- The queue, the list, the act: what a round keeps. -/
structure RuQ (Is : World → Value → (Nat → Prop) → Int → List Ev → Prop) (w wx : World) (q : Value) (m : Int) (ab : Nat) (p : Ac) (F : Nat → Prop) (xv : Value) (L : List Ev) : Prop where
  q : Is wx q F m L
  x : RowP F wx xv L
  low : ∀ k, F k → w.heap.size ≤ k
  hb : Below w.heap.size w wx
  act : C4 wx ab p
  nab : ¬ F ab
theorem RuQ.bl (hP : PgP Is) {w wx wy : World} {q : Value} {m : Int} {ab : Nat} {p : Ac} {F : Nat → Prop} {xv : Value} {L : List Ev} (h : RuQ Is w wx q m ab p F xv L) (hb : Below wx.heap.size wx wy) : RuQ Is w wy q m ab p F xv L :=
  ⟨hP.below h.q hb, h.x.bl hb, h.low, h.hb.trans (hb.mono h.hb.size), h.act.bl hb, h.nab⟩
/-- The queue steps; the list's row is another one (read already). -/
theorem RuQ.tu (hP : PgP Is) {w wx wy : World} {q : Value} {m : Int} {ab : Nat} {p : Ac} {F F' : Nat → Prop} {xv yv : Value} {L M : List Ev} (h : RuQ Is w wx q m ab p F xv L) (ht : TuF F F' wx wy) (hI : Is wy q F' m M) (hy : RowP F wx yv M) : RuQ Is w wy q m ab p F' yv M :=
  ⟨hI, (hy.tu ht (fun _ h => h)).mono (fun k hk => ht.news k hk), ht.low h.hb.size h.low, ht.below h.hb h.hb.size h.low, h.act.tu ht h.nab, fun hf => (ht.news _ hf).elim h.nab (fun h2 => absurd h.act.lt (Nat.not_lt.2 h2))⟩
/-- The list's row is another one. -/
theorem RuQ.row (hP : PgP Is) {w wx wy : World} {q : Value} {m : Int} {ab : Nat} {p : Ac} {F : Nat → Prop} {xv yv : Value} {L : List Ev} (h : RuQ Is w wx q m ab p F xv L) (hb : Below wx.heap.size wx wy) (hy : RowP F wy yv L) : RuQ Is w wy q m ab p F yv L :=
  ⟨hP.below h.q hb, hy, h.low, h.hb.trans (hb.mono h.hb.size), h.act.bl hb, h.nab⟩
set_option maxRecDepth 100000 in
set_option maxHeartbeats 8000000 in
theorem runs_walk (hP : PgQ Is) (n : Int) (A : Option Addr) (c : Nat) (xs : List Ac) (w : World) (hE : ErrT w) (_ : -9223372036854775808 ≤ n ∧ n ≤ 9223372036854775807) (hl : Rd w A (xs.flatMap acC)) (hc : xs.length ≤ c) (hm : c ≤ maxLen) (hx64 : ∀ p ∈ xs, In64 p.2.2.1 ∧ In64 p.2.2.2) :
    Calls Tryd.prog 3 #[.int .i64 n, .slice A xs.length c] w fun e w' => e = .returned (.bool true) ∧ Below w.heap.size w w' := by
  unfold maxLen at hm
  obtain ⟨len, hlen⟩ : ∃ y, xs.length = y := ⟨_, rfl⟩
  rw [hlen] at hc ⊢
  obtain ⟨r, hr, t1'⟩ := mod_uR n 20 (by omega)
  have t1 : (IntKind.u64.wrap n).tmod 20 = (r : Int) := t1'
  obtain ⟨m, hmr⟩ : ∃ m : Nat, (1 : Int) + r = m := ⟨1 + r, by omega⟩
  have m1 : (1 : Int) ≤ m := by omega
  have m2 : (m : Int) ≤ 20 := by omega
  have r0 : (0 : Int) ≤ r := by omega
  have rb : (r : Int) < 20 := by omega
  have HP := Lib.hid hP
  have HN := Lib.hid (fun W => hP.new m W m1 (by omega))
  have HNu := Lib.hid (fun k W (hb : Below w.heap.size w W) => num15_any k W (hE.below hb))
  have HSu := Lib.hid (fun W => sure15_any hP.toPgP W)
  have HL := Lib.hid (And.intro hl hlen)
  have HX64 := Lib.hid hx64
  clear hP hE hl hlen t1' hx64
  go_enter Tryd.func3, Tryd.ntmps3
  go_wp2_with fail
  with_reducible refine (HN.out _).mono ?_
  rintro x w1 ⟨v, F1, rfl, hI1, hF1, hb1⟩
  obtain ⟨b, rfl⟩ := HP.out.ptr hI1
  have H1 := Lib.hid (And.intro hI1 (And.intro hF1 hb1))
  clear hI1 hF1 hb1
  go_wp2_with fail
  go_loopw [8, 9] (fun xv iv wr => ∃ (i : Nat) (F : Nat → Prop) (L : List Ev) (o : Value), o = xv ∧ iv = .int .i64 i ∧ i ≤ len ∧ i ≤ 120 ∧ RowP F wr o L ∧ Is wr (.pointer (some ⟨b, 0, none⟩)) F m L ∧ (∀ k, F k → w.heap.size ≤ k) ∧ Below w.heap.size w wr) (fun _ iv _ => len - (intOf iv).toNat)
  case atStart => exact ⟨0, F1, [], _, rfl, rfl, Nat.zero_le _, by omega, RowP.nil _ _, H1.out⟩
  case round =>
    obtain ⟨i, F, L, o, rfl, rfl, hi, hi2, hx, hI, hF, hb⟩ := hrel
    have HI := Lib.hid (And.intro hx (And.intro hI (And.intro hF hb)))
    clear hx hI hF hb
    have i0 : (0 : Int) ≤ i := by omega
    by_cases hin : i < len ∧ i < 120
    · obtain ⟨hin1, hin2⟩ := hin
      have q1 : (i : Int) < len := by omega
      have q2 : (i : Int) < 120 := by omega
      obtain ⟨ad, X, rfl, hX, k0, k1, k2, k3⟩ := rd_four (HL.out.1.below HI.out.2.2.2) i (by rw [HL.out.2]; exact hin1)
      obtain ⟨⟨x0, x1, x2, x3⟩, hp⟩ : ∃ p, xs[i]'(by rw [HL.out.2]; exact hin1) = p := ⟨_, rfl⟩
      rw [hp] at k0 k1 k2 k3
      dsimp only at k0 k1 k2 k3
      have HXB := Lib.hid (HX64.out (x0, x1, x2, x3) (by rw [← hp]; exact List.getElem_mem _) : In64 x2 ∧ In64 x3)
      obtain ⟨t, ht, s1'⟩ := mod_uR x0 7 (by omega)
      have s1 : (IntKind.u64.wrap x0).tmod 7 = (t : Int) := s1'
      have t0 : (0 : Int) ≤ t := by omega
      have tb : (t : Int) < 7 := by omega
      have hR : RuQ Is w (wr.alloc (.cells #[.int .i64 x0, .int .i64 x1, .int .i64 x2, .int .i64 x3] 31)) (.pointer (some ⟨b, 0, none⟩)) m wr.heap.size (x0, x1, x2, x3) F o L := by
        have hb0 : Below wr.heap.size wr (wr.alloc (.cells #[.int .i64 x0, .int .i64 x1, .int .i64 x2, .int .i64 x3] 31)) := (Below.refl _ _).alloc (Nat.le_refl _) _
        exact ⟨HP.out.below HI.out.2.1 hb0, HI.out.1.bl hb0, HI.out.2.2.1, HI.out.2.2.2.trans (hb0.mono HI.out.2.2.2.size), heap_alloc_new wr _, fun h => absurd (HP.out.fp HI.out.2.1 _ h) (Nat.lt_irrefl _)⟩
      have HR := Lib.hid hR
      have hml := (HP.out.len HI.out.2.1).1
      clear hp s1' hR
      go_upto_block 2 with fail
      obtain ⟨W0, hW0⟩ : ∃ W, W = wr.alloc (.cells #[.int .i64 x0, .int .i64 x1, .int .i64 x2, .int .i64 x3] 31) := ⟨_, rfl⟩
      obtain ⟨ab, hab⟩ : ∃ y, y = wr.heap.size := ⟨_, rfl⟩
      rw [← hW0, ← hab] at HR ⊢
      clear k0 k1 k2 k3 hW0 hab hX
      go_cut [8, 11, 12, 13, 14, 15, 16] from 52 to 142 (fun xv _ _ _ _ _ _ wx => ∃ (G : Nat → Prop) (M : List Ev) (o : Value), o = xv ∧ RuQ Is w wx (.pointer (some ⟨b, 0, none⟩)) m ab (x0, x1, x2, x3) G o M)
      case first =>
        obtain ⟨y0, y1, y2, y3⟩ := HR.out.act.cells
        dsimp only at y0 y1 y2 y3
        have hlt := HR.out.hb.size
        have hLL := (HP.out.len HR.out.q).1
        have hl5 : L.length ≤ 100000 := by omega
        have HFP := Lib.hid (HP.out.fp HR.out.q)
        have h3 : (t : Int) < 4 ∨ ((t : Int) = 4) ∨ (¬ (t : Int) < 4 ∧ ¬ (t : Int) = 4) := by omega
        clear hml hLL hlt
        rcases h3 with t4 | t4 | ⟨t4, t5⟩
        · have HSr := Lib.hid (refSet_any o L m (x1, x2, x3) F W0 HFP.out HR.out.x hl5)
          have HSq := Lib.hid (fun W (h : Is W (.pointer (some ⟨b, 0, none⟩)) F m L) => HP.out.set _ F m L (x1, x2, x3) W HXB.out.1 HXB.out.2 h)
          unfold evV at HSr HSq
          dsimp only at HSr HSq
          obtain ⟨M, hM⟩ : ∃ M, (stE L m (x1, x2, x3)).1 = M := ⟨_, rfl⟩
          obtain ⟨k, hk⟩ : ∃ k, (stE L m (x1, x2, x3)).2 = k := ⟨_, rfl⟩
          rw [hM, hk] at HSr HSq
          clear hM hk
          go_wp2_with fail
          with_reducible refine HSr.out.mono ?_
          rintro x w2 ⟨u, rfl, hu, hb2⟩
          have H2 := Lib.hid (And.intro (HR.out.bl HP.out.toPgP hb2) hu)
          clear hb2 hu y0 y1 y2 y3
          obtain ⟨y0, y1, y2, y3⟩ := H2.out.1.act.cells
          dsimp only at y0 y1 y2 y3
          go_wp2_with fail
          with_reducible refine (HSq.out _ H2.out.1.q).mono ?_
          rintro x w3 ⟨rfl, F3, hI3, ht3⟩
          have H3 := Lib.hid (H2.out.1.tu HP.out.toPgP ht3 hI3 H2.out.2)
          clear ht3 hI3 y0 y1 y2 y3
          go_wp2_with fail
          with_reducible refine (HNu.out k _ H3.out.hb).mono ?_
          rintro x w4 ⟨rfl, hb4⟩
          have H4 := Lib.hid (H3.out.bl HP.out.toPgP hb4)
          clear hb4
          go_wp2_with fail
          go_meet
          case rel => exact ⟨F3, M, u, rfl, H4.out⟩
        · obtain ⟨f, hf⟩ : ∃ f, fdE x2 x3 L 0 = f := ⟨_, rfl⟩
          have HFr := Lib.hid (refFd_any o L x2 x3 W0 HR.out.x.row)
          have HDq := Lib.hid (fun W (h : Is W (.pointer (some ⟨b, 0, none⟩)) F m L) => HP.out.drop _ F m L x2 x3 W HXB.out.1 HXB.out.2 h)
          unfold drE at HDq
          rw [hf] at HFr HDq
          by_cases f0 : 0 ≤ f
          · obtain ⟨j, rfl⟩ : ∃ j : Nat, f = j := ⟨f.toNat, by omega⟩
            have HWi := Lib.hid (fun W (h : RowE W o L) => refWio_any o L j W h (fdE_lt hf) (by omega))
            rw [if_pos f0, Int.toNat_natCast] at HDq
            dsimp only at HDq
            clear hf
            go_wp2_with fail
            with_reducible refine HFr.out.mono ?_
            rintro x w2 ⟨rfl, rfl⟩
            go_wp2_with fail
            with_reducible refine (HDq.out _ HR.out.q).mono ?_
            rintro x w3 ⟨rfl, F3, hI3, ht3⟩
            have hx3 := (HR.out.x.tu ht3 (fun _ h => h)).mono (F' := F3) (fun k hk => ht3.news k hk)
            have hb3 := ht3.below HR.out.hb HR.out.hb.size HR.out.low
            have hl3 := ht3.low HR.out.hb.size HR.out.low
            have ha3 := HR.out.act.tu ht3 HR.out.nab
            have hn3 : ¬ F3 ab := fun hf => (ht3.news _ hf).elim HR.out.nab (fun h2 => absurd HR.out.act.lt (Nat.not_lt.2 h2))
            have H3 := Lib.hid (And.intro hI3 (And.intro hx3 (And.intro hl3 (And.intro hb3 (And.intro ha3 hn3)))))
            clear ht3 hI3 hx3 hb3 hl3 ha3 hn3 y0 y1 y2 y3
            go_wp2_with fail
            with_reducible refine (HWi.out _ H3.out.2.1.row).mono ?_
            rintro x w4 ⟨u, rfl, hu, hb4⟩
            have H4 : Hid (RuQ Is w w4 (.pointer (some ⟨b, 0, none⟩)) m ab (x0, x1, x2, x3) F3 u (wioE L j)) := ⟨HP.out.below H3.out.1 hb4, hu.mono (fun k hk => HP.out.fp H3.out.1 k hk), H3.out.2.2.1, H3.out.2.2.2.1.trans (hb4.mono H3.out.2.2.2.1.size), H3.out.2.2.2.2.1.bl hb4, H3.out.2.2.2.2.2⟩
            clear hb4 hu
            go_wp2_with fail
            go_meet
            case rel => exact ⟨F3, _, u, rfl, H4.out⟩
          · rw [if_neg f0] at HDq
            dsimp only at HDq
            clear hf
            go_wp2_with fail
            with_reducible refine HFr.out.mono ?_
            rintro x w2 ⟨rfl, rfl⟩
            go_wp2_with fail
            with_reducible refine (HDq.out _ HR.out.q).mono ?_
            rintro x w3 ⟨rfl, F3, hI3, ht3⟩
            have H3 := Lib.hid (HR.out.tu HP.out.toPgP ht3 hI3 HR.out.x)
            clear ht3 hI3 y0 y1 y2 y3
            go_wp2_with fail
            go_meet
            case rel => exact ⟨F3, L, o, rfl, H3.out⟩
        · have HPq := Lib.hid (fun W (h : Is W (.pointer (some ⟨b, 0, none⟩)) F m L) => HP.out.pop _ F m L W h)
          obtain ⟨A0, c0, rfl, hx0⟩ := HR.out.x.form
          cases L with
          | nil =>
            unfold evV at HPq
            dsimp only [List.headD_nil, List.isEmpty_nil, Bool.not_true, List.tail_nil, List.length_nil] at HPq HR hx0 ⊢
            go_wp2_with fail
            with_reducible refine (HPq.out _ HR.out.q).mono ?_
            rintro x w3 ⟨rfl, F3, hI3, ht3⟩
            have ha3 : Below w3.heap.size w3 (w3.alloc (.cells #[.int .i64 0, .int .i64 0, .int .i64 0] 38)) := (Below.refl _ _).alloc (Nat.le_refl _) _
            have H3 := Lib.hid ((HR.out.tu HP.out.toPgP ht3 hI3 HR.out.x).bl HP.out.toPgP ha3)
            obtain ⟨k0, k1, k2⟩ := evN_cells w3 0 0 0 38
            clear ht3 hI3 y0 y1 y2 y3 ha3 hx0
            go_wp2_with fail
            go_quiet (fail)
            go_wp2_with fail
            go_meet
            case rel => exact ⟨F3, [], _, rfl, H3.out.bl HP.out.toPgP (below_dq _ _)⟩
          | cons p R =>
            obtain ⟨p1, p2, p3⟩ := p
            have HWi := Lib.hid (fun W v (h : RowE W v ((p1, p2, p3) :: R)) => refWio_any v ((p1, p2, p3) :: R) 0 W h (by simp) (by omega))
            have ew : wioE ((p1, p2, p3) :: R) 0 = R := by unfold wioE; simp
            rw [ew, show ((0 : Nat) : Int) = 0 from rfl] at HWi
            obtain ⟨len2, hlen2⟩ : ∃ y, ((p1, p2, p3) :: R).length = y := ⟨_, rfl⟩
            rw [hlen2] at HR hx0 hl5 ⊢
            have hl0 : 0 < len2 := by rw [← hlen2]; simp
            have hl1 : (0 : Int) < len2 := by omega
            unfold evV at HPq
            dsimp only [List.headD_cons, List.isEmpty_cons, Bool.not_false, List.tail_cons] at HPq
            clear ew hlen2
            go_wp2_with fail
            with_reducible refine (HPq.out _ HR.out.q).mono ?_
            rintro x w3 ⟨rfl, F3, hI3, ht3⟩
            have ha3 : Below w3.heap.size w3 (w3.alloc (.cells #[.int .i64 p1, .int .i64 p2, .int .i64 p3] 38)) := (Below.refl _ _).alloc (Nat.le_refl _) _
            have hx3 := ((HR.out.x.tu ht3 (fun _ h => h)).mono (F' := F3) (fun k hk => ht3.news k hk)).bl ha3
            have hb3 := ht3.below HR.out.hb HR.out.hb.size HR.out.low
            have hb4 := hb3.trans (ha3.mono hb3.size)
            have hl3 := ht3.low HR.out.hb.size HR.out.low
            have ha4 := (HR.out.act.tu ht3 HR.out.nab).bl ha3
            have hn3 : ¬ F3 ab := fun hf => (ht3.news _ hf).elim HR.out.nab (fun h2 => absurd HR.out.act.lt (Nat.not_lt.2 h2))
            have H3 := Lib.hid (And.intro (HP.out.below hI3 ha3) (And.intro hx3 (And.intro hl3 (And.intro hb4 (And.intro ha4 hn3)))))
            obtain ⟨k0, k1, k2⟩ := evN_cells w3 p1 p2 p3 38
            obtain ⟨ad0, X0, rfl, hX0, z0, z1, z2⟩ := hx3.row.parts.2.2.2.2 0 hl0 _ rfl
            rw [Nat.zero_mul] at hX0
            dsimp only at z0 z1 z2
            clear ht3 hI3 y0 y1 y2 y3 ha3 hx0 hx3 hb3 hb4 hl3 ha4 hn3
            go_wp2_with fail
            go_quiet (fail)
            go_wp2_with fail
            have hq := below_dq (B := (w3.alloc (.cells #[.int .i64 p1, .int .i64 p2, .int .i64 p3] 38)).heap.size) (w3.alloc (.cells #[.int .i64 p1, .int .i64 p2, .int .i64 p3] 38)) nq
            have H4 := Lib.hid (And.intro (HP.out.below H3.out.1 hq) (And.intro (H3.out.2.1.bl hq) (And.intro (H3.out.2.2.2.1.trans (hq.mono H3.out.2.2.2.1.size)) (H3.out.2.2.2.2.1.bl hq))))
            clear hq k0 k1 k2 z0 z1 z2
            with_reducible refine (HWi.out _ _ H4.out.2.1.row).mono ?_
            rintro x w5 ⟨u, rfl, hu, hb5⟩
            have H5 : Hid (RuQ Is w w5 (.pointer (some ⟨b, 0, none⟩)) m ab (x0, x1, x2, x3) F3 u R) := ⟨HP.out.below H4.out.1 hb5, hu.mono (fun k hk => HP.out.fp H4.out.1 k hk), H3.out.2.2.1, H4.out.2.2.1.trans (hb5.mono H4.out.2.2.1.size), H4.out.2.2.2.bl hb5, H3.out.2.2.2.2.2⟩
            clear hb5 hu
            go_wp2_with fail
            go_meet
            case rel => exact ⟨F3, R, u, rfl, H5.out⟩
      case rest =>
        obtain ⟨G, M, o2, rfl, hru⟩ := hcut
        obtain ⟨A0, c0, rfl, hx0⟩ := hru.x.form
        obtain ⟨y0, y1, y2, y3⟩ := hru.act.cells
        dsimp only at y0 y1 y2 y3
        obtain ⟨a, ha⟩ : ∃ a, fdE x2 x3 M 0 = a := ⟨_, rfl⟩
        have hlm := (HP.out.len hru.q).1
        have HFt := Lib.hid (fun W (h : Is W (.pointer (some ⟨b, 0, none⟩)) G m M) => HP.out.first _ G m M W h)
        have HFq := Lib.hid (fun W (h : Is W (.pointer (some ⟨b, 0, none⟩)) G m M) => HP.out.find _ G m M x2 x3 W HXB.out.1 HXB.out.2 h)
        have HFr := Lib.hid (fun W (v : Value) (h : RowE W v M) => refFd_any v M x2 x3 W h)
        have HLn := Lib.hid (fun W (h : Is W (.pointer (some ⟨b, 0, none⟩)) G m M) => HP.out.leng _ G m M W h)
        have HLi := Lib.hid (fun W (h : Is W (.pointer (some ⟨b, 0, none⟩)) G m M) => HP.out.list _ G m M W h)
        have HSm := Lib.hid (fun W (v u : Value) (h : RowE W v M) (h2 : RowE W u M) => same15_any v u M W h h2)
        rw [ha] at HFq HFr
        unfold evV at HFt
        have hru' := hru
        obtain ⟨lm, hlm2⟩ : ∃ y, M.length = y := ⟨_, rfl⟩
        rw [hlm2] at hru hx0 HLn hlm ⊢
        have HC := Lib.hid (And.intro hru (And.intro ha hlm2))
        clear hru hru' hml
        have hway : (M = [] ∧ ¬ 0 ≤ a) ∨ (M ≠ [] ∧ ¬ 0 ≤ a) ∨ (M ≠ [] ∧ 0 ≤ a) := by
          by_cases h1 : M = []
          · refine .inl ⟨h1, ?_⟩
            rw [h1] at ha
            unfold fdE at ha
            omega
          · by_cases h2 : 0 ≤ a
            · exact .inr (.inr ⟨h1, h2⟩)
            · exact .inr (.inl ⟨h1, h2⟩)
        rcases hway with ⟨h1, h2⟩ | ⟨h1, h2⟩ | ⟨h1, h2⟩
        · subst h1
          obtain rfl : lm = 0 := by rw [← hlm2]; rfl
          dsimp only [List.headD_nil, List.isEmpty_nil, Bool.not_true] at HFt
          rw [decide_eq_false h2] at HFq
          clear ha hlm2
          go_wp2_with fail
          with_reducible refine (HFt.out _ HC.out.1.q).mono ?_
          rintro x w2 ⟨rfl, hb2⟩
          have ha2 : Below w2.heap.size w2 (w2.alloc (.cells #[.int .i64 0, .int .i64 0, .int .i64 0] 38)) := (Below.refl _ _).alloc (Nat.le_refl _) _
          have H2 := Lib.hid ((HC.out.1.bl HP.out.toPgP hb2).bl HP.out.toPgP ha2)
          obtain ⟨e0, e1, e2⟩ := evN_cells w2 0 0 0 38
          have HE := Lib.hid (And.intro e0 (And.intro e1 e2))
          clear hb2 ha2 y0 y1 y2 y3 e0 e1 e2
          obtain ⟨y0, y1, y2, y3⟩ := H2.out.act.cells
          dsimp only at y0 y1 y2 y3
          go_wp2_with fail
          with_reducible refine (HFq.out _ H2.out.q).mono ?_
          rintro x w3 ⟨g, rfl, hg, hb3⟩
          have H3 := Lib.hid (H2.out.bl HP.out.toPgP hb3)
          have HE3 := Lib.hid (And.intro (cell9_below HE.out.1 hb3) (And.intro (cell9_below HE.out.2.1 hb3) (cell9_below HE.out.2.2 hb3)))
          
          clear hb3 hg y0 y1 y2 y3
          obtain ⟨y0, y1, y2, y3⟩ := H3.out.act.cells
          dsimp only at y0 y1 y2 y3
          go_wp2_with fail
          with_reducible refine (HFr.out _ _ H3.out.x.row).mono ?_
          rintro x w4 ⟨rfl, rfl⟩
          go_wp2_with fail
          clear y0 y1 y2 y3
          have hk : decide (0 ≤ a) = false := decide_eq_false (by omega)
          have hbd : Below w4.heap.size w4 w4.drew := ⟨rfl, rfl, rfl, Nat.le_refl _, fun _ _ => rfl⟩
          have HBD := Lib.hid hbd
          have HD := Lib.hid (fun W (h : Below w4.heap.size w4 W) => H3.out.bl HP.out.toPgP h)
          clear hbd
          have HX := Lib.hid (fun W (h : Below w4.heap.size w4 W) => And.intro (cell9_below HE3.out.1 h) (And.intro (cell9_below HE3.out.2.1 h) (cell9_below HE3.out.2.2 h)))
          refine wp_region_noPanic ?_
          refine wp_region_held_drew (S := fun W => Below w4.heap.size w4 W) (by kernel_rfl) HBD.out (fun hHeld => ?_)
          refine' wpAnyH_take (i := 0) (oi := { dst := some 163, op := Go.Op.move (Go.Operand.tmp 18), type := 4, pos := "law.go:87", after := #[], guard := none }) (v := _) rfl (by kernel_rfl) (by kernel_rfl) (by kernel_rfl) (fun _ _ _ h => h) (Or.inl ⟨by rfl, ?_⟩) (by assumption) ?_
          rotate_left
          · (intro W hSw; go_simp; try with_reducible rfl)
          try simp only [Act.put, List.setIfInBounds_toArray, List.set_cons_zero, List.set_cons_succ]
          refine' wpAnyH_take (i := 1) (oi := { dst := some 164, op := Go.Op.move (Go.Operand.tmp 8), type := 29, pos := "law.go:87", after := #[], guard := none }) (v := _) rfl (by kernel_rfl) (by kernel_rfl) (by kernel_rfl) (fun _ _ _ h => h) (Or.inl ⟨by rfl, ?_⟩) (by assumption) ?_
          rotate_left
          · (intro W hSw; go_simp; try with_reducible rfl)
          try simp only [Act.put, List.setIfInBounds_toArray, List.set_cons_zero, List.set_cons_succ]
          refine' wpAnyH_take (i := 2) (oi := { dst := some 165, op := Go.Op.call { callee := Go.Callee.builtin Go.Builtin.len, args := #[Go.Operand.tmp 164], argTypes := #[29] }, type := 3, pos := "law.go:87", after := #[{ on := 1, ground := Go.Ground.data }], guard := none }) (v := _) rfl (by kernel_rfl) (by kernel_rfl) (by kernel_rfl) (fun _ _ _ h => h) (Or.inl ⟨by rfl, ?_⟩) (by assumption) ?_
          rotate_left
          · (intro W hSw; go_simp; try with_reducible rfl)
          try simp only [Act.put, List.setIfInBounds_toArray, List.set_cons_zero, List.set_cons_succ]
          refine' wpAnyH_take (i := 3) (oi := { dst := some 166, op := Go.Op.binOp Go.BinOp.gtr 3 (Go.Operand.tmp 165) (Go.Operand.const (Go.Value.int Go.IntKind.i64 0)) 3, type := 4, pos := "law.go:87", after := #[{ on := 2, ground := Go.Ground.data }], guard := none }) (v := _) rfl (by kernel_rfl) (by kernel_rfl) (by kernel_rfl) (fun _ _ _ h => h) (Or.inl ⟨by rfl, ?_⟩) (by assumption) ?_
          rotate_left
          · (intro W hSw; go_simp; try with_reducible rfl)
          try simp only [Act.put, List.setIfInBounds_toArray, List.set_cons_zero, List.set_cons_succ]
          refine' wpAnyH_take (i := 4) (oi := { dst := some 167, op := Go.Op.binOp Go.BinOp.neq 4 (Go.Operand.tmp 163) (Go.Operand.tmp 166) 4, type := 4, pos := "law.go:87", after := #[{ on := 0, ground := Go.Ground.data }, { on := 3, ground := Go.Ground.data }], guard := none }) (v := _) rfl (by kernel_rfl) (by kernel_rfl) (by kernel_rfl) (fun _ _ _ h => h) (Or.inl ⟨by rfl, ?_⟩) (by assumption) ?_
          rotate_left
          · (intro W hSw; go_simp; try with_reducible rfl)
          try simp only [Act.put, List.setIfInBounds_toArray, List.set_cons_zero, List.set_cons_succ]
          refine' wpAnyH_take (i := 5) (oi := { dst := some 168, op := Go.Op.move (Go.Operand.tmp 167), type := 4, pos := "law.go:87", after := #[{ on := 4, ground := Go.Ground.data }], guard := none }) (v := _) rfl (by kernel_rfl) (by kernel_rfl) (by kernel_rfl) (fun _ _ _ h => h) (Or.inl ⟨by rfl, ?_⟩) (by assumption) ?_
          rotate_left
          · (intro W hSw; go_simp; try with_reducible rfl)
          try simp only [Act.put, List.setIfInBounds_toArray, List.set_cons_zero, List.set_cons_succ]
          refine' wpAnyH_take (i := 6) (oi := { dst := some 169, op := Go.Op.move (Go.Operand.tmp 18), type := 4, pos := "law.go:87", after := #[{ on := 5, ground := Go.Ground.guard }], guard := some (5, false) }) (v := _) rfl (by kernel_rfl) (by kernel_rfl) (by kernel_rfl) (fun _ _ _ h => h) (Or.inl ⟨by rfl, ?_⟩) (by assumption) ?_
          rotate_left
          · (intro W hSw; go_simp; try with_reducible rfl)
          try simp only [Act.put, List.setIfInBounds_toArray, List.set_cons_zero, List.set_cons_succ]
          refine' wpAnyH_take (i := 7) (oi := { dst := some 170, op := Go.Op.move (Go.Operand.tmp 169), type := 4, pos := "law.go:87", after := #[{ on := 6, ground := Go.Ground.data }, { on := 5, ground := Go.Ground.chain }, { on := 5, ground := Go.Ground.guard }], guard := some (5, false) }) (v := _) rfl (by kernel_rfl) (by kernel_rfl) (by kernel_rfl) (fun _ _ _ h => h) (Or.inl ⟨by rfl, ?_⟩) (by assumption) ?_
          rotate_left
          · (intro W hSw; go_simp; try with_reducible rfl)
          try simp only [Act.put, List.setIfInBounds_toArray, List.set_cons_zero, List.set_cons_succ]
          refine wpAnyH_take (i := 8) (oi := { dst := some 171, op := Go.Op.load 38 (Go.Operand.tmp 17), type := 38, pos := "law.go:87", after := #[{ on := 7, ground := Go.Ground.guard }], guard := some (7, true) }) (v := undef) rfl (by kernel_rfl) (by kernel_rfl) (by kernel_rfl) (fun _ _ _ h => h) (Or.inr ⟨by rfl, rfl⟩) (by assumption) ?_
          try simp only [Act.put, List.setIfInBounds_toArray, List.set_cons_zero, List.set_cons_succ]
          refine wpAnyH_take (i := 9) (oi := { dst := some 172, op := Go.Op.move (Go.Operand.tmp 8), type := 29, pos := "law.go:87", after := #[{ on := 7, ground := Go.Ground.guard }], guard := some (7, true) }) (v := undef) rfl (by kernel_rfl) (by kernel_rfl) (by kernel_rfl) (fun _ _ _ h => h) (Or.inr ⟨by rfl, rfl⟩) (by assumption) ?_
          try simp only [Act.put, List.setIfInBounds_toArray, List.set_cons_zero, List.set_cons_succ]
          refine wpAnyH_take (i := 10) (oi := { dst := some 173, op := Go.Op.indexAddr 29 (Go.Operand.tmp 172) (Go.Operand.const (Go.Value.int Go.IntKind.i64 0)), type := 0, pos := "law.go:87", after := #[{ on := 9, ground := Go.Ground.data }, { on := 7, ground := Go.Ground.guard }], guard := some (7, true) }) (v := undef) rfl (by kernel_rfl) (by kernel_rfl) (by kernel_rfl) (fun _ _ _ h => h) (Or.inr ⟨by rfl, rfl⟩) (by assumption) ?_
          try simp only [Act.put, List.setIfInBounds_toArray, List.set_cons_zero, List.set_cons_succ]
          refine wpAnyH_take (i := 11) (oi := { dst := some 174, op := Go.Op.load 35 (Go.Operand.tmp 173), type := 35, pos := "law.go:87", after := #[{ on := 10, ground := Go.Ground.data }, { on := 7, ground := Go.Ground.guard }], guard := some (7, true) }) (v := undef) rfl (by kernel_rfl) (by kernel_rfl) (by kernel_rfl) (fun _ _ _ h => h) (Or.inr ⟨by rfl, rfl⟩) (by assumption) ?_
          try simp only [Act.put, List.setIfInBounds_toArray, List.set_cons_zero, List.set_cons_succ]
          refine wpAnyH_take (i := 12) (oi := { dst := some 175, op := Go.Op.binOp Go.BinOp.neq 38 (Go.Operand.tmp 171) (Go.Operand.tmp 174) 38, type := 4, pos := "law.go:87", after := #[{ on := 8, ground := Go.Ground.data }, { on := 11, ground := Go.Ground.data }, { on := 7, ground := Go.Ground.guard }], guard := some (7, true) }) (v := undef) rfl (by kernel_rfl) (by kernel_rfl) (by kernel_rfl) (fun _ _ _ h => h) (Or.inr ⟨by rfl, rfl⟩) (by assumption) ?_
          try simp only [Act.put, List.setIfInBounds_toArray, List.set_cons_zero, List.set_cons_succ]
          refine' wpAnyH_take (i := 13) (oi := { dst := some 176, op := Go.Op.pick (Go.Operand.tmp 170) (Go.Operand.tmp 175) (Go.Operand.const (Go.Value.bool false)), type := 4, pos := "law.go:87", after := #[{ on := 7, ground := Go.Ground.data }, { on := 12, ground := Go.Ground.data }, { on := 5, ground := Go.Ground.guard }], guard := some (5, false) }) (v := _) rfl (by kernel_rfl) (by kernel_rfl) (by kernel_rfl) (fun _ _ _ h => h) (Or.inl ⟨by rfl, ?_⟩) (by assumption) ?_
          rotate_left
          · (intro W hSw; go_simp; try with_reducible rfl)
          try simp only [Act.put, List.setIfInBounds_toArray, List.set_cons_zero, List.set_cons_succ]
          refine' wpAnyH_take (i := 14) (oi := { dst := some 177, op := Go.Op.pick (Go.Operand.tmp 168) (Go.Operand.const (Go.Value.bool true)) (Go.Operand.tmp 176), type := 4, pos := "law.go:87", after := #[{ on := 5, ground := Go.Ground.data }, { on := 13, ground := Go.Ground.data }], guard := none }) (v := _) rfl (by kernel_rfl) (by kernel_rfl) (by kernel_rfl) (fun _ _ _ h => h) (Or.inl ⟨by rfl, ?_⟩) (by assumption) ?_
          rotate_left
          · (intro W hSw; go_simp; try with_reducible rfl)
          try simp only [Act.put, List.setIfInBounds_toArray, List.set_cons_zero, List.set_cons_succ]
          refine' wpAnyH_take (i := 15) (oi := { dst := some 178, op := Go.Op.move (Go.Operand.tmp 177), type := 4, pos := "law.go:87", after := #[{ on := 14, ground := Go.Ground.data }, { on := 7, ground := Go.Ground.chain }], guard := none }) (v := _) rfl (by kernel_rfl) (by kernel_rfl) (by kernel_rfl) (fun _ _ _ h => h) (Or.inl ⟨by rfl, ?_⟩) (by assumption) ?_
          rotate_left
          · (intro W hSw; go_simp; try with_reducible rfl)
          try simp only [Act.put, List.setIfInBounds_toArray, List.set_cons_zero, List.set_cons_succ]
          refine' wpAnyH_take (i := 16) (oi := { dst := some 179, op := Go.Op.move (Go.Operand.tmp 20), type := 4, pos := "law.go:87", after := #[{ on := 15, ground := Go.Ground.guard }], guard := some (15, false) }) (v := _) rfl (by kernel_rfl) (by kernel_rfl) (by kernel_rfl) (fun _ _ _ h => h) (Or.inl ⟨by rfl, ?_⟩) (by assumption) ?_
          rotate_left
          · (intro W hSw; go_simp; try with_reducible rfl)
          try simp only [Act.put, List.setIfInBounds_toArray, List.set_cons_zero, List.set_cons_succ]
          refine' wpAnyH_take (i := 17) (oi := { dst := some 180, op := Go.Op.move (Go.Operand.tmp 21), type := 3, pos := "law.go:87", after := #[{ on := 15, ground := Go.Ground.guard }], guard := some (15, false) }) (v := _) rfl (by kernel_rfl) (by kernel_rfl) (by kernel_rfl) (fun _ _ _ h => h) (Or.inl ⟨by rfl, ?_⟩) (by assumption) ?_
          rotate_left
          · (intro W hSw; go_simp; try with_reducible rfl)
          try simp only [Act.put, List.setIfInBounds_toArray, List.set_cons_zero, List.set_cons_succ]
          refine' wpAnyH_take (i := 18) (oi := { dst := some 181, op := Go.Op.binOp Go.BinOp.geq 3 (Go.Operand.tmp 180) (Go.Operand.const (Go.Value.int Go.IntKind.i64 0)) 3, type := 4, pos := "law.go:87", after := #[{ on := 17, ground := Go.Ground.data }, { on := 15, ground := Go.Ground.guard }], guard := some (15, false) }) (v := _) rfl (by kernel_rfl) (by kernel_rfl) (by kernel_rfl) (fun _ _ _ h => h) (Or.inl ⟨by rfl, ?_⟩) (by assumption) ?_
          rotate_left
          · (intro W hSw; go_simp; try with_reducible rfl)
          try simp only [Act.put, List.setIfInBounds_toArray, List.set_cons_zero, List.set_cons_succ]
          refine' wpAnyH_take (i := 19) (oi := { dst := some 182, op := Go.Op.binOp Go.BinOp.neq 4 (Go.Operand.tmp 179) (Go.Operand.tmp 181) 4, type := 4, pos := "law.go:87", after := #[{ on := 16, ground := Go.Ground.data }, { on := 18, ground := Go.Ground.data }, { on := 15, ground := Go.Ground.guard }], guard := some (15, false) }) (v := _) rfl (by kernel_rfl) (by kernel_rfl) (by kernel_rfl) (fun _ _ _ h => h) (Or.inl ⟨by rfl, ?_⟩) (by assumption) ?_
          rotate_left
          · (intro W hSw; go_simp; try with_reducible rfl)
          try simp only [Act.put, List.setIfInBounds_toArray, List.set_cons_zero, List.set_cons_succ]
          refine' wpAnyH_take (i := 20) (oi := { dst := some 183, op := Go.Op.pick (Go.Operand.tmp 178) (Go.Operand.const (Go.Value.bool true)) (Go.Operand.tmp 182), type := 4, pos := "law.go:87", after := #[{ on := 15, ground := Go.Ground.data }, { on := 19, ground := Go.Ground.data }], guard := none }) (v := _) rfl (by kernel_rfl) (by kernel_rfl) (by kernel_rfl) (fun _ _ _ h => h) (Or.inl ⟨by rfl, ?_⟩) (by assumption) ?_
          rotate_left
          · (intro W hSw; go_simp; try with_reducible rfl)
          try simp only [Act.put, List.setIfInBounds_toArray, List.set_cons_zero, List.set_cons_succ]
          refine' wpAnyH_take (i := 21) (oi := { dst := some 184, op := Go.Op.move (Go.Operand.tmp 183), type := 4, pos := "law.go:87", after := #[{ on := 20, ground := Go.Ground.data }, { on := 15, ground := Go.Ground.chain }], guard := none }) (v := _) rfl (by kernel_rfl) (by kernel_rfl) (by kernel_rfl) (fun _ _ _ h => h) (Or.inl ⟨by rfl, ?_⟩) (by assumption) ?_
          rotate_left
          · (intro W hSw; go_simp; try with_reducible rfl)
          try simp only [Act.put, List.setIfInBounds_toArray, List.set_cons_zero, List.set_cons_succ]
          refine' wpAnyH_take (i := 22) (oi := { dst := some 185, op := Go.Op.move (Go.Operand.tmp 20), type := 4, pos := "law.go:87", after := #[{ on := 21, ground := Go.Ground.guard }], guard := some (21, false) }) (v := _) rfl (by kernel_rfl) (by kernel_rfl) (by kernel_rfl) (fun _ _ _ h => h) (Or.inl ⟨by rfl, ?_⟩) (by assumption) ?_
          rotate_left
          · (intro W hSw; go_simp; try with_reducible rfl)
          try simp only [Act.put, List.setIfInBounds_toArray, List.set_cons_zero, List.set_cons_succ]
          refine' wpAnyH_take (i := 23) (oi := { dst := some 186, op := Go.Op.move (Go.Operand.tmp 185), type := 4, pos := "law.go:87", after := #[{ on := 22, ground := Go.Ground.data }, { on := 21, ground := Go.Ground.chain }, { on := 21, ground := Go.Ground.guard }], guard := some (21, false) }) (v := _) rfl (by kernel_rfl) (by kernel_rfl) (by kernel_rfl) (fun _ _ _ h => h) (Or.inl ⟨by rfl, ?_⟩) (by assumption) ?_
          rotate_left
          · (intro W hSw; go_simp; try with_reducible rfl)
          try simp only [Act.put, List.setIfInBounds_toArray, List.set_cons_zero, List.set_cons_succ]
          refine wpAnyH_take (i := 24) (oi := { dst := some 187, op := Go.Op.move (Go.Operand.tmp 19), type := 3, pos := "law.go:87", after := #[{ on := 23, ground := Go.Ground.guard }], guard := some (23, true) }) (v := undef) rfl (by kernel_rfl) (by kernel_rfl) (by kernel_rfl) (fun _ _ _ h => h) (Or.inr ⟨by rfl, rfl⟩) (by assumption) ?_
          try simp only [Act.put, List.setIfInBounds_toArray, List.set_cons_zero, List.set_cons_succ]
          refine wpAnyH_take (i := 25) (oi := { dst := some 188, op := Go.Op.move (Go.Operand.tmp 8), type := 29, pos := "law.go:87", after := #[{ on := 23, ground := Go.Ground.guard }], guard := some (23, true) }) (v := undef) rfl (by kernel_rfl) (by kernel_rfl) (by kernel_rfl) (fun _ _ _ h => h) (Or.inr ⟨by rfl, rfl⟩) (by assumption) ?_
          try simp only [Act.put, List.setIfInBounds_toArray, List.set_cons_zero, List.set_cons_succ]
          refine wpAnyH_take (i := 26) (oi := { dst := some 189, op := Go.Op.move (Go.Operand.tmp 21), type := 3, pos := "law.go:87", after := #[{ on := 23, ground := Go.Ground.guard }], guard := some (23, true) }) (v := undef) rfl (by kernel_rfl) (by kernel_rfl) (by kernel_rfl) (fun _ _ _ h => h) (Or.inr ⟨by rfl, rfl⟩) (by assumption) ?_
          try simp only [Act.put, List.setIfInBounds_toArray, List.set_cons_zero, List.set_cons_succ]
          refine wpAnyH_take (i := 27) (oi := { dst := some 190, op := Go.Op.indexAddr 29 (Go.Operand.tmp 188) (Go.Operand.tmp 189), type := 0, pos := "law.go:87", after := #[{ on := 25, ground := Go.Ground.data }, { on := 26, ground := Go.Ground.data }, { on := 23, ground := Go.Ground.guard }], guard := some (23, true) }) (v := undef) rfl (by kernel_rfl) (by kernel_rfl) (by kernel_rfl) (fun _ _ _ h => h) (Or.inr ⟨by rfl, rfl⟩) (by assumption) ?_
          try simp only [Act.put, List.setIfInBounds_toArray, List.set_cons_zero, List.set_cons_succ]
          refine wpAnyH_take (i := 28) (oi := { dst := some 191, op := Go.Op.fieldAddr 35 (Go.Operand.tmp 190) 0, type := 0, pos := "law.go:87", after := #[{ on := 27, ground := Go.Ground.data }, { on := 23, ground := Go.Ground.guard }], guard := some (23, true) }) (v := undef) rfl (by kernel_rfl) (by kernel_rfl) (by kernel_rfl) (fun _ _ _ h => h) (Or.inr ⟨by rfl, rfl⟩) (by assumption) ?_
          try simp only [Act.put, List.setIfInBounds_toArray, List.set_cons_zero, List.set_cons_succ]
          refine wpAnyH_take (i := 29) (oi := { dst := some 192, op := Go.Op.load 3 (Go.Operand.tmp 191), type := 3, pos := "law.go:87", after := #[{ on := 28, ground := Go.Ground.data }, { on := 23, ground := Go.Ground.guard }], guard := some (23, true) }) (v := undef) rfl (by kernel_rfl) (by kernel_rfl) (by kernel_rfl) (fun _ _ _ h => h) (Or.inr ⟨by rfl, rfl⟩) (by assumption) ?_
          try simp only [Act.put, List.setIfInBounds_toArray, List.set_cons_zero, List.set_cons_succ]
          refine wpAnyH_take (i := 30) (oi := { dst := some 193, op := Go.Op.binOp Go.BinOp.neq 3 (Go.Operand.tmp 187) (Go.Operand.tmp 192) 3, type := 4, pos := "law.go:87", after := #[{ on := 24, ground := Go.Ground.data }, { on := 29, ground := Go.Ground.data }, { on := 23, ground := Go.Ground.guard }], guard := some (23, true) }) (v := undef) rfl (by kernel_rfl) (by kernel_rfl) (by kernel_rfl) (fun _ _ _ h => h) (Or.inr ⟨by rfl, rfl⟩) (by assumption) ?_
          try simp only [Act.put, List.setIfInBounds_toArray, List.set_cons_zero, List.set_cons_succ]
          refine' wpAnyH_take (i := 31) (oi := { dst := some 194, op := Go.Op.pick (Go.Operand.tmp 186) (Go.Operand.tmp 193) (Go.Operand.const (Go.Value.bool false)), type := 4, pos := "law.go:87", after := #[{ on := 23, ground := Go.Ground.data }, { on := 30, ground := Go.Ground.data }, { on := 21, ground := Go.Ground.guard }], guard := some (21, false) }) (v := _) rfl (by kernel_rfl) (by kernel_rfl) (by kernel_rfl) (fun _ _ _ h => h) (Or.inl ⟨by rfl, ?_⟩) (by assumption) ?_
          rotate_left
          · (intro W hSw; go_simp; try with_reducible rfl)
          try simp only [Act.put, List.setIfInBounds_toArray, List.set_cons_zero, List.set_cons_succ]
          refine' wpAnyH_take (i := 32) (oi := { dst := some 195, op := Go.Op.pick (Go.Operand.tmp 184) (Go.Operand.const (Go.Value.bool true)) (Go.Operand.tmp 194), type := 4, pos := "law.go:87", after := #[{ on := 21, ground := Go.Ground.data }, { on := 31, ground := Go.Ground.data }], guard := none }) (v := _) rfl (by kernel_rfl) (by kernel_rfl) (by kernel_rfl) (fun _ _ _ h => h) (Or.inl ⟨by rfl, ?_⟩) (by assumption) ?_
          rotate_left
          · (intro W hSw; go_simp; try with_reducible rfl)
          try simp only [Act.put, List.setIfInBounds_toArray, List.set_cons_zero, List.set_cons_succ]
          refine' wpAnyH_take (i := 33) (oi := { dst := some 196, op := Go.Op.move (Go.Operand.tmp 195), type := 4, pos := "law.go:87", after := #[{ on := 32, ground := Go.Ground.data }, { on := 23, ground := Go.Ground.chain }], guard := none }) (v := _) rfl (by kernel_rfl) (by kernel_rfl) (by kernel_rfl) (fun _ _ _ h => h) (Or.inl ⟨by rfl, ?_⟩) (by assumption) ?_
          rotate_left
          · (intro W hSw; go_simp; try with_reducible rfl)
          try simp only [Act.put, List.setIfInBounds_toArray, List.set_cons_zero, List.set_cons_succ]
          refine' wpAnyH_take (i := 34) (oi := { dst := some 197, op := Go.Op.move (Go.Operand.tmp 6), type := 24, pos := "law.go:87", after := #[{ on := 33, ground := Go.Ground.guard }], guard := some (33, false) }) (v := _) rfl (by kernel_rfl) (by kernel_rfl) (by kernel_rfl) (fun _ _ _ h => h) (Or.inl ⟨by rfl, ?_⟩) (by assumption) ?_
          rotate_left
          · (intro W hSw; go_simp; try with_reducible rfl)
          try simp only [Act.put, List.setIfInBounds_toArray, List.set_cons_zero, List.set_cons_succ]
          refine' wpAnyH_take (i := 36) (oi := { dst := some 199, op := Go.Op.move (Go.Operand.tmp 8), type := 29, pos := "law.go:87", after := #[{ on := 33, ground := Go.Ground.guard }], guard := some (33, false) }) (v := _) rfl (by kernel_rfl) (by kernel_rfl) (by kernel_rfl) (fun _ _ _ h => h) (Or.inl ⟨by rfl, ?_⟩) (by assumption) ?_
          rotate_left
          · (intro W hSw; go_simp; try with_reducible rfl)
          try simp only [Act.put, List.setIfInBounds_toArray, List.set_cons_zero, List.set_cons_succ]
          refine' wpAnyH_take (i := 37) (oi := { dst := some 200, op := Go.Op.call { callee := Go.Callee.builtin Go.Builtin.len, args := #[Go.Operand.tmp 199], argTypes := #[29] }, type := 3, pos := "law.go:87", after := #[{ on := 36, ground := Go.Ground.data }, { on := 33, ground := Go.Ground.guard }], guard := some (33, false) }) (v := _) rfl (by kernel_rfl) (by kernel_rfl) (by kernel_rfl) (fun _ _ _ h => h) (Or.inl ⟨by rfl, ?_⟩) (by assumption) ?_
          rotate_left
          · (intro W hSw; go_simp; try with_reducible rfl)
          try simp only [Act.put, List.setIfInBounds_toArray, List.set_cons_zero, List.set_cons_succ]
          refine wpAnyH_ready (rs := [35]) (by kernel_rfl) (by simp) ?_
          refine AllReadyH.cons (o := { dst := some 198, op := Go.Op.call { callee := Go.Callee.value (Go.Operand.func 16), args := #[Go.Operand.tmp 197], argTypes := #[24] }, type := 3, pos := "law.go:87", after := #[{ on := 34, ground := Go.Ground.data }, { on := 33, ground := Go.Ground.chain }, { on := 33, ground := Go.Ground.guard }], guard := some (33, false) }) rfl (fun K hK => ?_) AllReadyH.nil
          go_simp
          with_reducible refine (HLn.out _ (HD.out _ HBD.out).q).mono ?_
          rintro x w5 ⟨rfl, hb5⟩
          clear hHeld
          try go_wp2_with fail
          refine hK.out _ _ (HBD.out.trans hb5) (fun hHeld => ?_)
          clear hK K
          have HB5 := Lib.hid hHeld
          clear hb5
          try simp only [Act.put, List.setIfInBounds_toArray, List.set_cons_zero, List.set_cons_succ]
          refine' wpAnyH_take (i := 38) (oi := { dst := some 201, op := Go.Op.binOp Go.BinOp.neq 3 (Go.Operand.tmp 198) (Go.Operand.tmp 200) 3, type := 4, pos := "law.go:87", after := #[{ on := 35, ground := Go.Ground.data }, { on := 37, ground := Go.Ground.data }, { on := 33, ground := Go.Ground.guard }], guard := some (33, false) }) (v := _) rfl (by kernel_rfl) (by kernel_rfl) (by kernel_rfl) (fun _ _ _ h => h) (Or.inl ⟨by rfl, ?_⟩) (by assumption) ?_
          rotate_left
          · (intro W hSw; go_simp; try with_reducible rfl)
          try simp only [Act.put, List.setIfInBounds_toArray, List.set_cons_zero, List.set_cons_succ]
          refine' wpAnyH_take (i := 39) (oi := { dst := some 202, op := Go.Op.pick (Go.Operand.tmp 196) (Go.Operand.const (Go.Value.bool true)) (Go.Operand.tmp 201), type := 4, pos := "law.go:87", after := #[{ on := 33, ground := Go.Ground.data }, { on := 38, ground := Go.Ground.data }], guard := none }) (v := _) rfl (by kernel_rfl) (by kernel_rfl) (by kernel_rfl) (fun _ _ _ h => h) (Or.inl ⟨by rfl, ?_⟩) (by assumption) ?_
          rotate_left
          · (intro W hSw; go_simp; try with_reducible rfl)
          try simp only [Act.put, List.setIfInBounds_toArray, List.set_cons_zero, List.set_cons_succ]
          refine' wpAnyH_take (i := 40) (oi := { dst := some 203, op := Go.Op.move (Go.Operand.tmp 202), type := 4, pos := "law.go:87", after := #[{ on := 39, ground := Go.Ground.data }, { on := 35, ground := Go.Ground.chain }], guard := none }) (v := _) rfl (by kernel_rfl) (by kernel_rfl) (by kernel_rfl) (fun _ _ _ h => h) (Or.inl ⟨by rfl, ?_⟩) (by assumption) ?_
          rotate_left
          · (intro W hSw; go_simp; try with_reducible rfl)
          try simp only [Act.put, List.setIfInBounds_toArray, List.set_cons_zero, List.set_cons_succ]
          refine' wpAnyH_take (i := 41) (oi := { dst := some 204, op := Go.Op.move (Go.Operand.tmp 6), type := 24, pos := "law.go:87", after := #[{ on := 40, ground := Go.Ground.guard }], guard := some (40, false) }) (v := _) rfl (by kernel_rfl) (by kernel_rfl) (by kernel_rfl) (fun _ _ _ h => h) (Or.inl ⟨by rfl, ?_⟩) (by assumption) ?_
          rotate_left
          · (intro W hSw; go_simp; try with_reducible rfl)
          try simp only [Act.put, List.setIfInBounds_toArray, List.set_cons_zero, List.set_cons_succ]
          refine' wpAnyH_take (i := 43) (oi := { dst := some 206, op := Go.Op.move (Go.Operand.tmp 8), type := 29, pos := "law.go:87", after := #[{ on := 40, ground := Go.Ground.guard }], guard := some (40, false) }) (v := _) rfl (by kernel_rfl) (by kernel_rfl) (by kernel_rfl) (fun _ _ _ h => h) (Or.inl ⟨by rfl, ?_⟩) (by assumption) ?_
          rotate_left
          · (intro W hSw; go_simp; try with_reducible rfl)
          try simp only [Act.put, List.setIfInBounds_toArray, List.set_cons_zero, List.set_cons_succ]
          refine wpAnyH_ready (rs := [42]) (by kernel_rfl) (by simp) ?_
          refine AllReadyH.cons (o := { dst := some 205, op := Go.Op.call { callee := Go.Callee.value (Go.Operand.func 18), args := #[Go.Operand.tmp 204], argTypes := #[24] }, type := 48, pos := "law.go:87", after := #[{ on := 41, ground := Go.Ground.data }, { on := 40, ground := Go.Ground.chain }, { on := 40, ground := Go.Ground.guard }], guard := some (40, false) }) rfl (fun K hK => ?_) AllReadyH.nil
          go_simp
          with_reducible refine (HLi.out _ (HD.out _ HB5.out).q).mono ?_
          rintro x w6 ⟨u6, rfl, hu6, hb6⟩
          clear hHeld
          try go_wp2_with fail
          refine hK.out _ _ (HB5.out.trans (hb6.mono HB5.out.size)) (fun hHeld => ?_)
          clear hK K
          have HB6 := Lib.hid hHeld
          have HU6 := Lib.hid hu6
          clear hb6 hu6
          try simp only [Act.put, List.setIfInBounds_toArray, List.set_cons_zero, List.set_cons_succ]
          refine wpAnyH_ready (rs := [44]) (by kernel_rfl) (by simp) ?_
          refine AllReadyH.cons (o := { dst := some 207, op := Go.Op.call { callee := Go.Callee.value (Go.Operand.func 17), args := #[Go.Operand.tmp 205, Go.Operand.tmp 206], argTypes := #[48, 29] }, type := 4, pos := "law.go:87", after := #[{ on := 42, ground := Go.Ground.data }, { on := 43, ground := Go.Ground.data }, { on := 42, ground := Go.Ground.chain }, { on := 40, ground := Go.Ground.guard }], guard := some (40, false) }) rfl (fun K hK => ?_) AllReadyH.nil
          go_simp
          with_reducible refine (HSm.out _ _ _ HU6.out.row (HD.out _ HB6.out).x.row).mono ?_
          rintro x w7 ⟨rfl, hb7⟩
          clear hHeld
          try go_wp2_with fail
          refine hK.out _ _ (HB6.out.trans (hb7.mono HB6.out.size)) (fun hHeld => ?_)
          clear hK K
          have HB7 := Lib.hid hHeld
          clear hb7
          try simp only [Act.put, List.setIfInBounds_toArray, List.set_cons_zero, List.set_cons_succ]
          refine' wpAnyH_take (i := 45) (oi := { dst := some 208, op := Go.Op.unOp Go.UnOp.not 4 (Go.Operand.tmp 207), type := 4, pos := "law.go:87", after := #[{ on := 44, ground := Go.Ground.data }, { on := 40, ground := Go.Ground.guard }], guard := some (40, false) }) (v := _) rfl (by kernel_rfl) (by kernel_rfl) (by kernel_rfl) (fun _ _ _ h => h) (Or.inl ⟨by rfl, ?_⟩) (by assumption) ?_
          rotate_left
          · (intro W hSw; go_simp; try with_reducible rfl)
          try simp only [Act.put, List.setIfInBounds_toArray, List.set_cons_zero, List.set_cons_succ]
          refine' wpAnyH_take (i := 46) (oi := { dst := some 209, op := Go.Op.pick (Go.Operand.tmp 203) (Go.Operand.const (Go.Value.bool true)) (Go.Operand.tmp 208), type := 4, pos := "law.go:87", after := #[{ on := 40, ground := Go.Ground.data }, { on := 45, ground := Go.Ground.data }], guard := none }) (v := _) rfl (by kernel_rfl) (by kernel_rfl) (by kernel_rfl) (fun _ _ _ h => h) (Or.inl ⟨by rfl, ?_⟩) (by assumption) ?_
          rotate_left
          · (intro W hSw; go_simp; try with_reducible rfl)
          try simp only [Act.put, List.setIfInBounds_toArray, List.set_cons_zero, List.set_cons_succ]
          refine wpAnyH_done (by kernel_rfl) ?_ _
          refine NoPanic.normal ?_
          go_wp2_with fail
          have H7 := Lib.hid (HD.out _ HB7.out)
          exact ⟨⟨i + 1, G, _, _, rfl, by go_num, hin1, hin2, H7.out.x, H7.out.q, H7.out.low, H7.out.hb⟩, by simp [intOf]; omega⟩
        · obtain ⟨⟨p1, p2, p3⟩, R, rfl⟩ := List.exists_cons_of_ne_nil h1
          have hl0 : 0 < lm := by rw [← hlm2]; simp
          have hl1 : (0 : Int) < lm := by omega
          dsimp only [List.headD_cons, List.isEmpty_cons, Bool.not_false] at HFt
          rw [decide_eq_false h2] at HFq
          clear ha hlm2 h1
          go_wp2_with fail
          with_reducible refine (HFt.out _ HC.out.1.q).mono ?_
          rintro x w2 ⟨rfl, hb2⟩
          have ha2 : Below w2.heap.size w2 (w2.alloc (.cells #[.int .i64 p1, .int .i64 p2, .int .i64 p3] 38)) := (Below.refl _ _).alloc (Nat.le_refl _) _
          have H2 := Lib.hid ((HC.out.1.bl HP.out.toPgP hb2).bl HP.out.toPgP ha2)
          obtain ⟨e0, e1, e2⟩ := evN_cells w2 p1 p2 p3 38
          have HE := Lib.hid (And.intro e0 (And.intro e1 e2))
          clear hb2 ha2 y0 y1 y2 y3 e0 e1 e2
          obtain ⟨y0, y1, y2, y3⟩ := H2.out.act.cells
          dsimp only at y0 y1 y2 y3
          go_wp2_with fail
          with_reducible refine (HFq.out _ H2.out.q).mono ?_
          rintro x w3 ⟨g, rfl, hg, hb3⟩
          have H3 := Lib.hid (H2.out.bl HP.out.toPgP hb3)
          have HE3 := Lib.hid (And.intro (cell9_below HE.out.1 hb3) (And.intro (cell9_below HE.out.2.1 hb3) (cell9_below HE.out.2.2 hb3)))
          
          clear hb3 hg y0 y1 y2 y3
          obtain ⟨y0, y1, y2, y3⟩ := H3.out.act.cells
          dsimp only at y0 y1 y2 y3
          go_wp2_with fail
          with_reducible refine (HFr.out _ _ H3.out.x.row).mono ?_
          rintro x w4 ⟨rfl, rfl⟩
          go_wp2_with fail
          clear y0 y1 y2 y3
          obtain ⟨ad0, X0, rfl, hX0, z0, z1, z2⟩ := H3.out.x.row.parts.2.2.2.2 0 hl0 _ rfl
          rw [Nat.zero_mul] at hX0
          dsimp only at z0 z1 z2
          have HZ := Lib.hid (And.intro z0 (And.intro z1 z2))
          clear z0 z1 z2
          have hk : decide (0 ≤ a) = false := decide_eq_false (by omega)
          have hbd : Below w4.heap.size w4 w4.drew := ⟨rfl, rfl, rfl, Nat.le_refl _, fun _ _ => rfl⟩
          have HBD := Lib.hid hbd
          have HD := Lib.hid (fun W (h : Below w4.heap.size w4 W) => H3.out.bl HP.out.toPgP h)
          clear hbd
          have HX := Lib.hid (fun W (h : Below w4.heap.size w4 W) => And.intro (cell9_below HE3.out.1 h) (And.intro (cell9_below HE3.out.2.1 h) (And.intro (cell9_below HE3.out.2.2 h) (And.intro (cell9_below HZ.out.1 h) (And.intro (cell9_below HZ.out.2.1 h) (cell9_below HZ.out.2.2 h))))))
          refine wp_region_noPanic ?_
          refine wp_region_held_drew (S := fun W => Below w4.heap.size w4 W) (by kernel_rfl) HBD.out (fun hHeld => ?_)
          refine' wpAnyH_take (i := 0) (oi := { dst := some 163, op := Go.Op.move (Go.Operand.tmp 18), type := 4, pos := "law.go:87", after := #[], guard := none }) (v := _) rfl (by kernel_rfl) (by kernel_rfl) (by kernel_rfl) (fun _ _ _ h => h) (Or.inl ⟨by rfl, ?_⟩) (by assumption) ?_
          rotate_left
          · (intro W hSw; go_simp; try with_reducible rfl)
          try simp only [Act.put, List.setIfInBounds_toArray, List.set_cons_zero, List.set_cons_succ]
          refine' wpAnyH_take (i := 1) (oi := { dst := some 164, op := Go.Op.move (Go.Operand.tmp 8), type := 29, pos := "law.go:87", after := #[], guard := none }) (v := _) rfl (by kernel_rfl) (by kernel_rfl) (by kernel_rfl) (fun _ _ _ h => h) (Or.inl ⟨by rfl, ?_⟩) (by assumption) ?_
          rotate_left
          · (intro W hSw; go_simp; try with_reducible rfl)
          try simp only [Act.put, List.setIfInBounds_toArray, List.set_cons_zero, List.set_cons_succ]
          refine' wpAnyH_take (i := 2) (oi := { dst := some 165, op := Go.Op.call { callee := Go.Callee.builtin Go.Builtin.len, args := #[Go.Operand.tmp 164], argTypes := #[29] }, type := 3, pos := "law.go:87", after := #[{ on := 1, ground := Go.Ground.data }], guard := none }) (v := _) rfl (by kernel_rfl) (by kernel_rfl) (by kernel_rfl) (fun _ _ _ h => h) (Or.inl ⟨by rfl, ?_⟩) (by assumption) ?_
          rotate_left
          · (intro W hSw; go_simp; try with_reducible rfl)
          try simp only [Act.put, List.setIfInBounds_toArray, List.set_cons_zero, List.set_cons_succ]
          refine' wpAnyH_take (i := 3) (oi := { dst := some 166, op := Go.Op.binOp Go.BinOp.gtr 3 (Go.Operand.tmp 165) (Go.Operand.const (Go.Value.int Go.IntKind.i64 0)) 3, type := 4, pos := "law.go:87", after := #[{ on := 2, ground := Go.Ground.data }], guard := none }) (v := _) rfl (by kernel_rfl) (by kernel_rfl) (by kernel_rfl) (fun _ _ _ h => h) (Or.inl ⟨by rfl, ?_⟩) (by assumption) ?_
          rotate_left
          · (intro W hSw; go_simp; try with_reducible rfl)
          try simp only [Act.put, List.setIfInBounds_toArray, List.set_cons_zero, List.set_cons_succ]
          refine' wpAnyH_take (i := 4) (oi := { dst := some 167, op := Go.Op.binOp Go.BinOp.neq 4 (Go.Operand.tmp 163) (Go.Operand.tmp 166) 4, type := 4, pos := "law.go:87", after := #[{ on := 0, ground := Go.Ground.data }, { on := 3, ground := Go.Ground.data }], guard := none }) (v := _) rfl (by kernel_rfl) (by kernel_rfl) (by kernel_rfl) (fun _ _ _ h => h) (Or.inl ⟨by rfl, ?_⟩) (by assumption) ?_
          rotate_left
          · (intro W hSw; go_simp; try with_reducible rfl)
          try simp only [Act.put, List.setIfInBounds_toArray, List.set_cons_zero, List.set_cons_succ]
          refine' wpAnyH_take (i := 5) (oi := { dst := some 168, op := Go.Op.move (Go.Operand.tmp 167), type := 4, pos := "law.go:87", after := #[{ on := 4, ground := Go.Ground.data }], guard := none }) (v := _) rfl (by kernel_rfl) (by kernel_rfl) (by kernel_rfl) (fun _ _ _ h => h) (Or.inl ⟨by rfl, ?_⟩) (by assumption) ?_
          rotate_left
          · (intro W hSw; go_simp; try with_reducible rfl)
          try simp only [Act.put, List.setIfInBounds_toArray, List.set_cons_zero, List.set_cons_succ]
          refine' wpAnyH_take (i := 6) (oi := { dst := some 169, op := Go.Op.move (Go.Operand.tmp 18), type := 4, pos := "law.go:87", after := #[{ on := 5, ground := Go.Ground.guard }], guard := some (5, false) }) (v := _) rfl (by kernel_rfl) (by kernel_rfl) (by kernel_rfl) (fun _ _ _ h => h) (Or.inl ⟨by rfl, ?_⟩) (by assumption) ?_
          rotate_left
          · (intro W hSw; go_simp; try with_reducible rfl)
          try simp only [Act.put, List.setIfInBounds_toArray, List.set_cons_zero, List.set_cons_succ]
          refine' wpAnyH_take (i := 7) (oi := { dst := some 170, op := Go.Op.move (Go.Operand.tmp 169), type := 4, pos := "law.go:87", after := #[{ on := 6, ground := Go.Ground.data }, { on := 5, ground := Go.Ground.chain }, { on := 5, ground := Go.Ground.guard }], guard := some (5, false) }) (v := _) rfl (by kernel_rfl) (by kernel_rfl) (by kernel_rfl) (fun _ _ _ h => h) (Or.inl ⟨by rfl, ?_⟩) (by assumption) ?_
          rotate_left
          · (intro W hSw; go_simp; try with_reducible rfl)
          try simp only [Act.put, List.setIfInBounds_toArray, List.set_cons_zero, List.set_cons_succ]
          refine' wpAnyH_take (i := 8) (oi := { dst := some 171, op := Go.Op.load 38 (Go.Operand.tmp 17), type := 38, pos := "law.go:87", after := #[{ on := 7, ground := Go.Ground.guard }], guard := some (7, true) }) (v := _) rfl (by kernel_rfl) (by kernel_rfl) (by kernel_rfl) (fun _ _ _ h => h) (Or.inl ⟨by rfl, ?_⟩) (by assumption) ?_
          rotate_left
          · (intro W hSw; obtain ⟨f0, f1, f2, f3, f4, f5⟩ := HX.out W hSw; go_simp; try with_reducible rfl)
          try simp only [Act.put, List.setIfInBounds_toArray, List.set_cons_zero, List.set_cons_succ]
          refine' wpAnyH_take (i := 9) (oi := { dst := some 172, op := Go.Op.move (Go.Operand.tmp 8), type := 29, pos := "law.go:87", after := #[{ on := 7, ground := Go.Ground.guard }], guard := some (7, true) }) (v := _) rfl (by kernel_rfl) (by kernel_rfl) (by kernel_rfl) (fun _ _ _ h => h) (Or.inl ⟨by rfl, ?_⟩) (by assumption) ?_
          rotate_left
          · (intro W hSw; go_simp; try with_reducible rfl)
          try simp only [Act.put, List.setIfInBounds_toArray, List.set_cons_zero, List.set_cons_succ]
          refine' wpAnyH_take (i := 10) (oi := { dst := some 173, op := Go.Op.indexAddr 29 (Go.Operand.tmp 172) (Go.Operand.const (Go.Value.int Go.IntKind.i64 0)), type := 0, pos := "law.go:87", after := #[{ on := 9, ground := Go.Ground.data }, { on := 7, ground := Go.Ground.guard }], guard := some (7, true) }) (v := _) rfl (by kernel_rfl) (by kernel_rfl) (by kernel_rfl) (fun _ _ _ h => h) (Or.inl ⟨by rfl, ?_⟩) (by assumption) ?_
          rotate_left
          · (intro W hSw; go_simp; try with_reducible rfl)
          try simp only [Act.put, List.setIfInBounds_toArray, List.set_cons_zero, List.set_cons_succ]
          refine' wpAnyH_take (i := 11) (oi := { dst := some 174, op := Go.Op.load 35 (Go.Operand.tmp 173), type := 35, pos := "law.go:87", after := #[{ on := 10, ground := Go.Ground.data }, { on := 7, ground := Go.Ground.guard }], guard := some (7, true) }) (v := _) rfl (by kernel_rfl) (by kernel_rfl) (by kernel_rfl) (fun _ _ _ h => h) (Or.inl ⟨by rfl, ?_⟩) (by assumption) ?_
          rotate_left
          · (intro W hSw; obtain ⟨f0, f1, f2, f3, f4, f5⟩ := HX.out W hSw; go_simp; try with_reducible rfl)
          try simp only [Act.put, List.setIfInBounds_toArray, List.set_cons_zero, List.set_cons_succ]
          refine' wpAnyH_take (i := 12) (oi := { dst := some 175, op := Go.Op.binOp Go.BinOp.neq 38 (Go.Operand.tmp 171) (Go.Operand.tmp 174) 38, type := 4, pos := "law.go:87", after := #[{ on := 8, ground := Go.Ground.data }, { on := 11, ground := Go.Ground.data }, { on := 7, ground := Go.Ground.guard }], guard := some (7, true) }) (v := _) rfl (by kernel_rfl) (by kernel_rfl) (by kernel_rfl) (fun _ _ _ h => h) (Or.inl ⟨by rfl, ?_⟩) (by assumption) ?_
          rotate_left
          · (intro W hSw; go_simp; try with_reducible rfl)
          try simp only [Act.put, List.setIfInBounds_toArray, List.set_cons_zero, List.set_cons_succ]
          refine' wpAnyH_take (i := 13) (oi := { dst := some 176, op := Go.Op.pick (Go.Operand.tmp 170) (Go.Operand.tmp 175) (Go.Operand.const (Go.Value.bool false)), type := 4, pos := "law.go:87", after := #[{ on := 7, ground := Go.Ground.data }, { on := 12, ground := Go.Ground.data }, { on := 5, ground := Go.Ground.guard }], guard := some (5, false) }) (v := _) rfl (by kernel_rfl) (by kernel_rfl) (by kernel_rfl) (fun _ _ _ h => h) (Or.inl ⟨by rfl, ?_⟩) (by assumption) ?_
          rotate_left
          · (intro W hSw; go_simp; try with_reducible rfl)
          try simp only [Act.put, List.setIfInBounds_toArray, List.set_cons_zero, List.set_cons_succ]
          refine' wpAnyH_take (i := 14) (oi := { dst := some 177, op := Go.Op.pick (Go.Operand.tmp 168) (Go.Operand.const (Go.Value.bool true)) (Go.Operand.tmp 176), type := 4, pos := "law.go:87", after := #[{ on := 5, ground := Go.Ground.data }, { on := 13, ground := Go.Ground.data }], guard := none }) (v := _) rfl (by kernel_rfl) (by kernel_rfl) (by kernel_rfl) (fun _ _ _ h => h) (Or.inl ⟨by rfl, ?_⟩) (by assumption) ?_
          rotate_left
          · (intro W hSw; go_simp; try with_reducible rfl)
          try simp only [Act.put, List.setIfInBounds_toArray, List.set_cons_zero, List.set_cons_succ]
          refine' wpAnyH_take (i := 15) (oi := { dst := some 178, op := Go.Op.move (Go.Operand.tmp 177), type := 4, pos := "law.go:87", after := #[{ on := 14, ground := Go.Ground.data }, { on := 7, ground := Go.Ground.chain }], guard := none }) (v := _) rfl (by kernel_rfl) (by kernel_rfl) (by kernel_rfl) (fun _ _ _ h => h) (Or.inl ⟨by rfl, ?_⟩) (by assumption) ?_
          rotate_left
          · (intro W hSw; go_simp; try with_reducible rfl)
          try simp only [Act.put, List.setIfInBounds_toArray, List.set_cons_zero, List.set_cons_succ]
          refine' wpAnyH_take (i := 16) (oi := { dst := some 179, op := Go.Op.move (Go.Operand.tmp 20), type := 4, pos := "law.go:87", after := #[{ on := 15, ground := Go.Ground.guard }], guard := some (15, false) }) (v := _) rfl (by kernel_rfl) (by kernel_rfl) (by kernel_rfl) (fun _ _ _ h => h) (Or.inl ⟨by rfl, ?_⟩) (by assumption) ?_
          rotate_left
          · (intro W hSw; go_simp; try with_reducible rfl)
          try simp only [Act.put, List.setIfInBounds_toArray, List.set_cons_zero, List.set_cons_succ]
          refine' wpAnyH_take (i := 17) (oi := { dst := some 180, op := Go.Op.move (Go.Operand.tmp 21), type := 3, pos := "law.go:87", after := #[{ on := 15, ground := Go.Ground.guard }], guard := some (15, false) }) (v := _) rfl (by kernel_rfl) (by kernel_rfl) (by kernel_rfl) (fun _ _ _ h => h) (Or.inl ⟨by rfl, ?_⟩) (by assumption) ?_
          rotate_left
          · (intro W hSw; go_simp; try with_reducible rfl)
          try simp only [Act.put, List.setIfInBounds_toArray, List.set_cons_zero, List.set_cons_succ]
          refine' wpAnyH_take (i := 18) (oi := { dst := some 181, op := Go.Op.binOp Go.BinOp.geq 3 (Go.Operand.tmp 180) (Go.Operand.const (Go.Value.int Go.IntKind.i64 0)) 3, type := 4, pos := "law.go:87", after := #[{ on := 17, ground := Go.Ground.data }, { on := 15, ground := Go.Ground.guard }], guard := some (15, false) }) (v := _) rfl (by kernel_rfl) (by kernel_rfl) (by kernel_rfl) (fun _ _ _ h => h) (Or.inl ⟨by rfl, ?_⟩) (by assumption) ?_
          rotate_left
          · (intro W hSw; go_simp; try with_reducible rfl)
          try simp only [Act.put, List.setIfInBounds_toArray, List.set_cons_zero, List.set_cons_succ]
          refine' wpAnyH_take (i := 19) (oi := { dst := some 182, op := Go.Op.binOp Go.BinOp.neq 4 (Go.Operand.tmp 179) (Go.Operand.tmp 181) 4, type := 4, pos := "law.go:87", after := #[{ on := 16, ground := Go.Ground.data }, { on := 18, ground := Go.Ground.data }, { on := 15, ground := Go.Ground.guard }], guard := some (15, false) }) (v := _) rfl (by kernel_rfl) (by kernel_rfl) (by kernel_rfl) (fun _ _ _ h => h) (Or.inl ⟨by rfl, ?_⟩) (by assumption) ?_
          rotate_left
          · (intro W hSw; go_simp; try with_reducible rfl)
          try simp only [Act.put, List.setIfInBounds_toArray, List.set_cons_zero, List.set_cons_succ]
          refine' wpAnyH_take (i := 20) (oi := { dst := some 183, op := Go.Op.pick (Go.Operand.tmp 178) (Go.Operand.const (Go.Value.bool true)) (Go.Operand.tmp 182), type := 4, pos := "law.go:87", after := #[{ on := 15, ground := Go.Ground.data }, { on := 19, ground := Go.Ground.data }], guard := none }) (v := _) rfl (by kernel_rfl) (by kernel_rfl) (by kernel_rfl) (fun _ _ _ h => h) (Or.inl ⟨by rfl, ?_⟩) (by assumption) ?_
          rotate_left
          · (intro W hSw; go_simp; try with_reducible rfl)
          try simp only [Act.put, List.setIfInBounds_toArray, List.set_cons_zero, List.set_cons_succ]
          refine' wpAnyH_take (i := 21) (oi := { dst := some 184, op := Go.Op.move (Go.Operand.tmp 183), type := 4, pos := "law.go:87", after := #[{ on := 20, ground := Go.Ground.data }, { on := 15, ground := Go.Ground.chain }], guard := none }) (v := _) rfl (by kernel_rfl) (by kernel_rfl) (by kernel_rfl) (fun _ _ _ h => h) (Or.inl ⟨by rfl, ?_⟩) (by assumption) ?_
          rotate_left
          · (intro W hSw; go_simp; try with_reducible rfl)
          try simp only [Act.put, List.setIfInBounds_toArray, List.set_cons_zero, List.set_cons_succ]
          refine' wpAnyH_take (i := 22) (oi := { dst := some 185, op := Go.Op.move (Go.Operand.tmp 20), type := 4, pos := "law.go:87", after := #[{ on := 21, ground := Go.Ground.guard }], guard := some (21, false) }) (v := _) rfl (by kernel_rfl) (by kernel_rfl) (by kernel_rfl) (fun _ _ _ h => h) (Or.inl ⟨by rfl, ?_⟩) (by assumption) ?_
          rotate_left
          · (intro W hSw; go_simp; try with_reducible rfl)
          try simp only [Act.put, List.setIfInBounds_toArray, List.set_cons_zero, List.set_cons_succ]
          refine' wpAnyH_take (i := 23) (oi := { dst := some 186, op := Go.Op.move (Go.Operand.tmp 185), type := 4, pos := "law.go:87", after := #[{ on := 22, ground := Go.Ground.data }, { on := 21, ground := Go.Ground.chain }, { on := 21, ground := Go.Ground.guard }], guard := some (21, false) }) (v := _) rfl (by kernel_rfl) (by kernel_rfl) (by kernel_rfl) (fun _ _ _ h => h) (Or.inl ⟨by rfl, ?_⟩) (by assumption) ?_
          rotate_left
          · (intro W hSw; go_simp; try with_reducible rfl)
          try simp only [Act.put, List.setIfInBounds_toArray, List.set_cons_zero, List.set_cons_succ]
          refine wpAnyH_take (i := 24) (oi := { dst := some 187, op := Go.Op.move (Go.Operand.tmp 19), type := 3, pos := "law.go:87", after := #[{ on := 23, ground := Go.Ground.guard }], guard := some (23, true) }) (v := undef) rfl (by kernel_rfl) (by kernel_rfl) (by kernel_rfl) (fun _ _ _ h => h) (Or.inr ⟨by rfl, rfl⟩) (by assumption) ?_
          try simp only [Act.put, List.setIfInBounds_toArray, List.set_cons_zero, List.set_cons_succ]
          refine wpAnyH_take (i := 25) (oi := { dst := some 188, op := Go.Op.move (Go.Operand.tmp 8), type := 29, pos := "law.go:87", after := #[{ on := 23, ground := Go.Ground.guard }], guard := some (23, true) }) (v := undef) rfl (by kernel_rfl) (by kernel_rfl) (by kernel_rfl) (fun _ _ _ h => h) (Or.inr ⟨by rfl, rfl⟩) (by assumption) ?_
          try simp only [Act.put, List.setIfInBounds_toArray, List.set_cons_zero, List.set_cons_succ]
          refine wpAnyH_take (i := 26) (oi := { dst := some 189, op := Go.Op.move (Go.Operand.tmp 21), type := 3, pos := "law.go:87", after := #[{ on := 23, ground := Go.Ground.guard }], guard := some (23, true) }) (v := undef) rfl (by kernel_rfl) (by kernel_rfl) (by kernel_rfl) (fun _ _ _ h => h) (Or.inr ⟨by rfl, rfl⟩) (by assumption) ?_
          try simp only [Act.put, List.setIfInBounds_toArray, List.set_cons_zero, List.set_cons_succ]
          refine wpAnyH_take (i := 27) (oi := { dst := some 190, op := Go.Op.indexAddr 29 (Go.Operand.tmp 188) (Go.Operand.tmp 189), type := 0, pos := "law.go:87", after := #[{ on := 25, ground := Go.Ground.data }, { on := 26, ground := Go.Ground.data }, { on := 23, ground := Go.Ground.guard }], guard := some (23, true) }) (v := undef) rfl (by kernel_rfl) (by kernel_rfl) (by kernel_rfl) (fun _ _ _ h => h) (Or.inr ⟨by rfl, rfl⟩) (by assumption) ?_
          try simp only [Act.put, List.setIfInBounds_toArray, List.set_cons_zero, List.set_cons_succ]
          refine wpAnyH_take (i := 28) (oi := { dst := some 191, op := Go.Op.fieldAddr 35 (Go.Operand.tmp 190) 0, type := 0, pos := "law.go:87", after := #[{ on := 27, ground := Go.Ground.data }, { on := 23, ground := Go.Ground.guard }], guard := some (23, true) }) (v := undef) rfl (by kernel_rfl) (by kernel_rfl) (by kernel_rfl) (fun _ _ _ h => h) (Or.inr ⟨by rfl, rfl⟩) (by assumption) ?_
          try simp only [Act.put, List.setIfInBounds_toArray, List.set_cons_zero, List.set_cons_succ]
          refine wpAnyH_take (i := 29) (oi := { dst := some 192, op := Go.Op.load 3 (Go.Operand.tmp 191), type := 3, pos := "law.go:87", after := #[{ on := 28, ground := Go.Ground.data }, { on := 23, ground := Go.Ground.guard }], guard := some (23, true) }) (v := undef) rfl (by kernel_rfl) (by kernel_rfl) (by kernel_rfl) (fun _ _ _ h => h) (Or.inr ⟨by rfl, rfl⟩) (by assumption) ?_
          try simp only [Act.put, List.setIfInBounds_toArray, List.set_cons_zero, List.set_cons_succ]
          refine wpAnyH_take (i := 30) (oi := { dst := some 193, op := Go.Op.binOp Go.BinOp.neq 3 (Go.Operand.tmp 187) (Go.Operand.tmp 192) 3, type := 4, pos := "law.go:87", after := #[{ on := 24, ground := Go.Ground.data }, { on := 29, ground := Go.Ground.data }, { on := 23, ground := Go.Ground.guard }], guard := some (23, true) }) (v := undef) rfl (by kernel_rfl) (by kernel_rfl) (by kernel_rfl) (fun _ _ _ h => h) (Or.inr ⟨by rfl, rfl⟩) (by assumption) ?_
          try simp only [Act.put, List.setIfInBounds_toArray, List.set_cons_zero, List.set_cons_succ]
          refine' wpAnyH_take (i := 31) (oi := { dst := some 194, op := Go.Op.pick (Go.Operand.tmp 186) (Go.Operand.tmp 193) (Go.Operand.const (Go.Value.bool false)), type := 4, pos := "law.go:87", after := #[{ on := 23, ground := Go.Ground.data }, { on := 30, ground := Go.Ground.data }, { on := 21, ground := Go.Ground.guard }], guard := some (21, false) }) (v := _) rfl (by kernel_rfl) (by kernel_rfl) (by kernel_rfl) (fun _ _ _ h => h) (Or.inl ⟨by rfl, ?_⟩) (by assumption) ?_
          rotate_left
          · (intro W hSw; go_simp; try with_reducible rfl)
          try simp only [Act.put, List.setIfInBounds_toArray, List.set_cons_zero, List.set_cons_succ]
          refine' wpAnyH_take (i := 32) (oi := { dst := some 195, op := Go.Op.pick (Go.Operand.tmp 184) (Go.Operand.const (Go.Value.bool true)) (Go.Operand.tmp 194), type := 4, pos := "law.go:87", after := #[{ on := 21, ground := Go.Ground.data }, { on := 31, ground := Go.Ground.data }], guard := none }) (v := _) rfl (by kernel_rfl) (by kernel_rfl) (by kernel_rfl) (fun _ _ _ h => h) (Or.inl ⟨by rfl, ?_⟩) (by assumption) ?_
          rotate_left
          · (intro W hSw; go_simp; try with_reducible rfl)
          try simp only [Act.put, List.setIfInBounds_toArray, List.set_cons_zero, List.set_cons_succ]
          refine' wpAnyH_take (i := 33) (oi := { dst := some 196, op := Go.Op.move (Go.Operand.tmp 195), type := 4, pos := "law.go:87", after := #[{ on := 32, ground := Go.Ground.data }, { on := 23, ground := Go.Ground.chain }], guard := none }) (v := _) rfl (by kernel_rfl) (by kernel_rfl) (by kernel_rfl) (fun _ _ _ h => h) (Or.inl ⟨by rfl, ?_⟩) (by assumption) ?_
          rotate_left
          · (intro W hSw; go_simp; try with_reducible rfl)
          try simp only [Act.put, List.setIfInBounds_toArray, List.set_cons_zero, List.set_cons_succ]
          refine' wpAnyH_take (i := 34) (oi := { dst := some 197, op := Go.Op.move (Go.Operand.tmp 6), type := 24, pos := "law.go:87", after := #[{ on := 33, ground := Go.Ground.guard }], guard := some (33, false) }) (v := _) rfl (by kernel_rfl) (by kernel_rfl) (by kernel_rfl) (fun _ _ _ h => h) (Or.inl ⟨by rfl, ?_⟩) (by assumption) ?_
          rotate_left
          · (intro W hSw; go_simp; try with_reducible rfl)
          try simp only [Act.put, List.setIfInBounds_toArray, List.set_cons_zero, List.set_cons_succ]
          refine' wpAnyH_take (i := 36) (oi := { dst := some 199, op := Go.Op.move (Go.Operand.tmp 8), type := 29, pos := "law.go:87", after := #[{ on := 33, ground := Go.Ground.guard }], guard := some (33, false) }) (v := _) rfl (by kernel_rfl) (by kernel_rfl) (by kernel_rfl) (fun _ _ _ h => h) (Or.inl ⟨by rfl, ?_⟩) (by assumption) ?_
          rotate_left
          · (intro W hSw; go_simp; try with_reducible rfl)
          try simp only [Act.put, List.setIfInBounds_toArray, List.set_cons_zero, List.set_cons_succ]
          refine' wpAnyH_take (i := 37) (oi := { dst := some 200, op := Go.Op.call { callee := Go.Callee.builtin Go.Builtin.len, args := #[Go.Operand.tmp 199], argTypes := #[29] }, type := 3, pos := "law.go:87", after := #[{ on := 36, ground := Go.Ground.data }, { on := 33, ground := Go.Ground.guard }], guard := some (33, false) }) (v := _) rfl (by kernel_rfl) (by kernel_rfl) (by kernel_rfl) (fun _ _ _ h => h) (Or.inl ⟨by rfl, ?_⟩) (by assumption) ?_
          rotate_left
          · (intro W hSw; go_simp; try with_reducible rfl)
          try simp only [Act.put, List.setIfInBounds_toArray, List.set_cons_zero, List.set_cons_succ]
          refine wpAnyH_ready (rs := [35]) (by kernel_rfl) (by simp) ?_
          refine AllReadyH.cons (o := { dst := some 198, op := Go.Op.call { callee := Go.Callee.value (Go.Operand.func 16), args := #[Go.Operand.tmp 197], argTypes := #[24] }, type := 3, pos := "law.go:87", after := #[{ on := 34, ground := Go.Ground.data }, { on := 33, ground := Go.Ground.chain }, { on := 33, ground := Go.Ground.guard }], guard := some (33, false) }) rfl (fun K hK => ?_) AllReadyH.nil
          go_simp
          with_reducible refine (HLn.out _ (HD.out _ HBD.out).q).mono ?_
          rintro x w5 ⟨rfl, hb5⟩
          clear hHeld
          try go_wp2_with fail
          refine hK.out _ _ (HBD.out.trans hb5) (fun hHeld => ?_)
          clear hK K
          have HB5 := Lib.hid hHeld
          clear hb5
          try simp only [Act.put, List.setIfInBounds_toArray, List.set_cons_zero, List.set_cons_succ]
          refine' wpAnyH_take (i := 38) (oi := { dst := some 201, op := Go.Op.binOp Go.BinOp.neq 3 (Go.Operand.tmp 198) (Go.Operand.tmp 200) 3, type := 4, pos := "law.go:87", after := #[{ on := 35, ground := Go.Ground.data }, { on := 37, ground := Go.Ground.data }, { on := 33, ground := Go.Ground.guard }], guard := some (33, false) }) (v := _) rfl (by kernel_rfl) (by kernel_rfl) (by kernel_rfl) (fun _ _ _ h => h) (Or.inl ⟨by rfl, ?_⟩) (by assumption) ?_
          rotate_left
          · (intro W hSw; go_simp; try with_reducible rfl)
          try simp only [Act.put, List.setIfInBounds_toArray, List.set_cons_zero, List.set_cons_succ]
          refine' wpAnyH_take (i := 39) (oi := { dst := some 202, op := Go.Op.pick (Go.Operand.tmp 196) (Go.Operand.const (Go.Value.bool true)) (Go.Operand.tmp 201), type := 4, pos := "law.go:87", after := #[{ on := 33, ground := Go.Ground.data }, { on := 38, ground := Go.Ground.data }], guard := none }) (v := _) rfl (by kernel_rfl) (by kernel_rfl) (by kernel_rfl) (fun _ _ _ h => h) (Or.inl ⟨by rfl, ?_⟩) (by assumption) ?_
          rotate_left
          · (intro W hSw; go_simp; try with_reducible rfl)
          try simp only [Act.put, List.setIfInBounds_toArray, List.set_cons_zero, List.set_cons_succ]
          refine' wpAnyH_take (i := 40) (oi := { dst := some 203, op := Go.Op.move (Go.Operand.tmp 202), type := 4, pos := "law.go:87", after := #[{ on := 39, ground := Go.Ground.data }, { on := 35, ground := Go.Ground.chain }], guard := none }) (v := _) rfl (by kernel_rfl) (by kernel_rfl) (by kernel_rfl) (fun _ _ _ h => h) (Or.inl ⟨by rfl, ?_⟩) (by assumption) ?_
          rotate_left
          · (intro W hSw; go_simp; try with_reducible rfl)
          try simp only [Act.put, List.setIfInBounds_toArray, List.set_cons_zero, List.set_cons_succ]
          refine' wpAnyH_take (i := 41) (oi := { dst := some 204, op := Go.Op.move (Go.Operand.tmp 6), type := 24, pos := "law.go:87", after := #[{ on := 40, ground := Go.Ground.guard }], guard := some (40, false) }) (v := _) rfl (by kernel_rfl) (by kernel_rfl) (by kernel_rfl) (fun _ _ _ h => h) (Or.inl ⟨by rfl, ?_⟩) (by assumption) ?_
          rotate_left
          · (intro W hSw; go_simp; try with_reducible rfl)
          try simp only [Act.put, List.setIfInBounds_toArray, List.set_cons_zero, List.set_cons_succ]
          refine' wpAnyH_take (i := 43) (oi := { dst := some 206, op := Go.Op.move (Go.Operand.tmp 8), type := 29, pos := "law.go:87", after := #[{ on := 40, ground := Go.Ground.guard }], guard := some (40, false) }) (v := _) rfl (by kernel_rfl) (by kernel_rfl) (by kernel_rfl) (fun _ _ _ h => h) (Or.inl ⟨by rfl, ?_⟩) (by assumption) ?_
          rotate_left
          · (intro W hSw; go_simp; try with_reducible rfl)
          try simp only [Act.put, List.setIfInBounds_toArray, List.set_cons_zero, List.set_cons_succ]
          refine wpAnyH_ready (rs := [42]) (by kernel_rfl) (by simp) ?_
          refine AllReadyH.cons (o := { dst := some 205, op := Go.Op.call { callee := Go.Callee.value (Go.Operand.func 18), args := #[Go.Operand.tmp 204], argTypes := #[24] }, type := 48, pos := "law.go:87", after := #[{ on := 41, ground := Go.Ground.data }, { on := 40, ground := Go.Ground.chain }, { on := 40, ground := Go.Ground.guard }], guard := some (40, false) }) rfl (fun K hK => ?_) AllReadyH.nil
          go_simp
          with_reducible refine (HLi.out _ (HD.out _ HB5.out).q).mono ?_
          rintro x w6 ⟨u6, rfl, hu6, hb6⟩
          clear hHeld
          try go_wp2_with fail
          refine hK.out _ _ (HB5.out.trans (hb6.mono HB5.out.size)) (fun hHeld => ?_)
          clear hK K
          have HB6 := Lib.hid hHeld
          have HU6 := Lib.hid hu6
          clear hb6 hu6
          try simp only [Act.put, List.setIfInBounds_toArray, List.set_cons_zero, List.set_cons_succ]
          refine wpAnyH_ready (rs := [44]) (by kernel_rfl) (by simp) ?_
          refine AllReadyH.cons (o := { dst := some 207, op := Go.Op.call { callee := Go.Callee.value (Go.Operand.func 17), args := #[Go.Operand.tmp 205, Go.Operand.tmp 206], argTypes := #[48, 29] }, type := 4, pos := "law.go:87", after := #[{ on := 42, ground := Go.Ground.data }, { on := 43, ground := Go.Ground.data }, { on := 42, ground := Go.Ground.chain }, { on := 40, ground := Go.Ground.guard }], guard := some (40, false) }) rfl (fun K hK => ?_) AllReadyH.nil
          go_simp
          with_reducible refine (HSm.out _ _ _ HU6.out.row (HD.out _ HB6.out).x.row).mono ?_
          rintro x w7 ⟨rfl, hb7⟩
          clear hHeld
          try go_wp2_with fail
          refine hK.out _ _ (HB6.out.trans (hb7.mono HB6.out.size)) (fun hHeld => ?_)
          clear hK K
          have HB7 := Lib.hid hHeld
          clear hb7
          try simp only [Act.put, List.setIfInBounds_toArray, List.set_cons_zero, List.set_cons_succ]
          refine' wpAnyH_take (i := 45) (oi := { dst := some 208, op := Go.Op.unOp Go.UnOp.not 4 (Go.Operand.tmp 207), type := 4, pos := "law.go:87", after := #[{ on := 44, ground := Go.Ground.data }, { on := 40, ground := Go.Ground.guard }], guard := some (40, false) }) (v := _) rfl (by kernel_rfl) (by kernel_rfl) (by kernel_rfl) (fun _ _ _ h => h) (Or.inl ⟨by rfl, ?_⟩) (by assumption) ?_
          rotate_left
          · (intro W hSw; go_simp; try with_reducible rfl)
          try simp only [Act.put, List.setIfInBounds_toArray, List.set_cons_zero, List.set_cons_succ]
          refine' wpAnyH_take (i := 46) (oi := { dst := some 209, op := Go.Op.pick (Go.Operand.tmp 203) (Go.Operand.const (Go.Value.bool true)) (Go.Operand.tmp 208), type := 4, pos := "law.go:87", after := #[{ on := 40, ground := Go.Ground.data }, { on := 45, ground := Go.Ground.data }], guard := none }) (v := _) rfl (by kernel_rfl) (by kernel_rfl) (by kernel_rfl) (fun _ _ _ h => h) (Or.inl ⟨by rfl, ?_⟩) (by assumption) ?_
          rotate_left
          · (intro W hSw; go_simp; try with_reducible rfl)
          try simp only [Act.put, List.setIfInBounds_toArray, List.set_cons_zero, List.set_cons_succ]
          refine wpAnyH_done (by kernel_rfl) ?_ _
          refine NoPanic.normal ?_
          go_wp2_with fail
          have H7 := Lib.hid (HD.out _ HB7.out)
          exact ⟨⟨i + 1, G, _, _, rfl, by go_num, hin1, hin2, H7.out.x, H7.out.q, H7.out.low, H7.out.hb⟩, by simp [intOf]; omega⟩
        · obtain ⟨⟨p1, p2, p3⟩, R, rfl⟩ := List.exists_cons_of_ne_nil h1
          have hl0 : 0 < lm := by rw [← hlm2]; simp
          have hl1 : (0 : Int) < lm := by omega
          dsimp only [List.headD_cons, List.isEmpty_cons, Bool.not_false] at HFt
          obtain ⟨j, rfl⟩ : ∃ j : Nat, a = j := ⟨a.toNat, by omega⟩
          have hjl : j < lm := by rw [← hlm2]; exact fdE_lt ha
          obtain ⟨⟨r1, r2, r3⟩, hrj, _⟩ := fdE_at ha
          have hjl1 : (j : Int) < lm := by omega
          rw [decide_eq_true h2] at HFq
          have HA := Lib.hid (And.intro ha hrj)
          clear hrj
          clear ha hlm2 h1
          go_wp2_with fail
          with_reducible refine (HFt.out _ HC.out.1.q).mono ?_
          rintro x w2 ⟨rfl, hb2⟩
          have ha2 : Below w2.heap.size w2 (w2.alloc (.cells #[.int .i64 p1, .int .i64 p2, .int .i64 p3] 38)) := (Below.refl _ _).alloc (Nat.le_refl _) _
          have H2 := Lib.hid ((HC.out.1.bl HP.out.toPgP hb2).bl HP.out.toPgP ha2)
          obtain ⟨e0, e1, e2⟩ := evN_cells w2 p1 p2 p3 38
          have HE := Lib.hid (And.intro e0 (And.intro e1 e2))
          clear hb2 ha2 y0 y1 y2 y3 e0 e1 e2
          obtain ⟨y0, y1, y2, y3⟩ := H2.out.act.cells
          dsimp only at y0 y1 y2 y3
          go_wp2_with fail
          with_reducible refine (HFq.out _ H2.out.q).mono ?_
          rintro x w3 ⟨g, rfl, hg, hb3⟩
          have H3 := Lib.hid (H2.out.bl HP.out.toPgP hb3)
          have HE3 := Lib.hid (And.intro (cell9_below HE.out.1 hb3) (And.intro (cell9_below HE.out.2.1 hb3) (cell9_below HE.out.2.2 hb3)))
          obtain rfl : g = r1 := hg j _ rfl HA.out.2
          clear hb3 hg y0 y1 y2 y3
          obtain ⟨y0, y1, y2, y3⟩ := H3.out.act.cells
          dsimp only at y0 y1 y2 y3
          go_wp2_with fail
          with_reducible refine (HFr.out _ _ H3.out.x.row).mono ?_
          rintro x w4 ⟨rfl, rfl⟩
          go_wp2_with fail
          clear y0 y1 y2 y3
          obtain ⟨ad0, X0, rfl, hX0, z0, z1, z2⟩ := H3.out.x.row.parts.2.2.2.2 0 hl0 _ rfl
          rw [Nat.zero_mul] at hX0
          dsimp only at z0 z1 z2
          obtain ⟨ad1, X1, e1, hX1, z3, _, _⟩ := H3.out.x.row.parts.2.2.2.2 j hjl _ HA.out.2
          obtain rfl : ad0 = ad1 := Option.some.inj e1
          dsimp only at z3
          have HZ := Lib.hid (And.intro z0 (And.intro z1 (And.intro z2 z3)))
          clear z0 z1 z2 z3 e1
          have hbd : Below w4.heap.size w4 w4.drew := ⟨rfl, rfl, rfl, Nat.le_refl _, fun _ _ => rfl⟩
          have HBD := Lib.hid hbd
          have HD := Lib.hid (fun W (h : Below w4.heap.size w4 W) => H3.out.bl HP.out.toPgP h)
          clear hbd
          have HX := Lib.hid (fun W (h : Below w4.heap.size w4 W) => And.intro (cell9_below HE3.out.1 h) (And.intro (cell9_below HE3.out.2.1 h) (And.intro (cell9_below HE3.out.2.2 h) (And.intro (cell9_below HZ.out.1 h) (And.intro (cell9_below HZ.out.2.1 h) (And.intro (cell9_below HZ.out.2.2.1 h) (cell9_below HZ.out.2.2.2 h)))))))
          refine wp_region_noPanic ?_
          refine wp_region_held_drew (S := fun W => Below w4.heap.size w4 W) (by kernel_rfl) HBD.out (fun hHeld => ?_)
          refine' wpAnyH_take (i := 0) (oi := { dst := some 163, op := Go.Op.move (Go.Operand.tmp 18), type := 4, pos := "law.go:87", after := #[], guard := none }) (v := _) rfl (by kernel_rfl) (by kernel_rfl) (by kernel_rfl) (fun _ _ _ h => h) (Or.inl ⟨by rfl, ?_⟩) (by assumption) ?_
          rotate_left
          · (intro W hSw; go_simp; try with_reducible rfl)
          try simp only [Act.put, List.setIfInBounds_toArray, List.set_cons_zero, List.set_cons_succ]
          refine' wpAnyH_take (i := 1) (oi := { dst := some 164, op := Go.Op.move (Go.Operand.tmp 8), type := 29, pos := "law.go:87", after := #[], guard := none }) (v := _) rfl (by kernel_rfl) (by kernel_rfl) (by kernel_rfl) (fun _ _ _ h => h) (Or.inl ⟨by rfl, ?_⟩) (by assumption) ?_
          rotate_left
          · (intro W hSw; go_simp; try with_reducible rfl)
          try simp only [Act.put, List.setIfInBounds_toArray, List.set_cons_zero, List.set_cons_succ]
          refine' wpAnyH_take (i := 2) (oi := { dst := some 165, op := Go.Op.call { callee := Go.Callee.builtin Go.Builtin.len, args := #[Go.Operand.tmp 164], argTypes := #[29] }, type := 3, pos := "law.go:87", after := #[{ on := 1, ground := Go.Ground.data }], guard := none }) (v := _) rfl (by kernel_rfl) (by kernel_rfl) (by kernel_rfl) (fun _ _ _ h => h) (Or.inl ⟨by rfl, ?_⟩) (by assumption) ?_
          rotate_left
          · (intro W hSw; go_simp; try with_reducible rfl)
          try simp only [Act.put, List.setIfInBounds_toArray, List.set_cons_zero, List.set_cons_succ]
          refine' wpAnyH_take (i := 3) (oi := { dst := some 166, op := Go.Op.binOp Go.BinOp.gtr 3 (Go.Operand.tmp 165) (Go.Operand.const (Go.Value.int Go.IntKind.i64 0)) 3, type := 4, pos := "law.go:87", after := #[{ on := 2, ground := Go.Ground.data }], guard := none }) (v := _) rfl (by kernel_rfl) (by kernel_rfl) (by kernel_rfl) (fun _ _ _ h => h) (Or.inl ⟨by rfl, ?_⟩) (by assumption) ?_
          rotate_left
          · (intro W hSw; go_simp; try with_reducible rfl)
          try simp only [Act.put, List.setIfInBounds_toArray, List.set_cons_zero, List.set_cons_succ]
          refine' wpAnyH_take (i := 4) (oi := { dst := some 167, op := Go.Op.binOp Go.BinOp.neq 4 (Go.Operand.tmp 163) (Go.Operand.tmp 166) 4, type := 4, pos := "law.go:87", after := #[{ on := 0, ground := Go.Ground.data }, { on := 3, ground := Go.Ground.data }], guard := none }) (v := _) rfl (by kernel_rfl) (by kernel_rfl) (by kernel_rfl) (fun _ _ _ h => h) (Or.inl ⟨by rfl, ?_⟩) (by assumption) ?_
          rotate_left
          · (intro W hSw; go_simp; try with_reducible rfl)
          try simp only [Act.put, List.setIfInBounds_toArray, List.set_cons_zero, List.set_cons_succ]
          refine' wpAnyH_take (i := 5) (oi := { dst := some 168, op := Go.Op.move (Go.Operand.tmp 167), type := 4, pos := "law.go:87", after := #[{ on := 4, ground := Go.Ground.data }], guard := none }) (v := _) rfl (by kernel_rfl) (by kernel_rfl) (by kernel_rfl) (fun _ _ _ h => h) (Or.inl ⟨by rfl, ?_⟩) (by assumption) ?_
          rotate_left
          · (intro W hSw; go_simp; try with_reducible rfl)
          try simp only [Act.put, List.setIfInBounds_toArray, List.set_cons_zero, List.set_cons_succ]
          refine' wpAnyH_take (i := 6) (oi := { dst := some 169, op := Go.Op.move (Go.Operand.tmp 18), type := 4, pos := "law.go:87", after := #[{ on := 5, ground := Go.Ground.guard }], guard := some (5, false) }) (v := _) rfl (by kernel_rfl) (by kernel_rfl) (by kernel_rfl) (fun _ _ _ h => h) (Or.inl ⟨by rfl, ?_⟩) (by assumption) ?_
          rotate_left
          · (intro W hSw; go_simp; try with_reducible rfl)
          try simp only [Act.put, List.setIfInBounds_toArray, List.set_cons_zero, List.set_cons_succ]
          refine' wpAnyH_take (i := 7) (oi := { dst := some 170, op := Go.Op.move (Go.Operand.tmp 169), type := 4, pos := "law.go:87", after := #[{ on := 6, ground := Go.Ground.data }, { on := 5, ground := Go.Ground.chain }, { on := 5, ground := Go.Ground.guard }], guard := some (5, false) }) (v := _) rfl (by kernel_rfl) (by kernel_rfl) (by kernel_rfl) (fun _ _ _ h => h) (Or.inl ⟨by rfl, ?_⟩) (by assumption) ?_
          rotate_left
          · (intro W hSw; go_simp; try with_reducible rfl)
          try simp only [Act.put, List.setIfInBounds_toArray, List.set_cons_zero, List.set_cons_succ]
          refine' wpAnyH_take (i := 8) (oi := { dst := some 171, op := Go.Op.load 38 (Go.Operand.tmp 17), type := 38, pos := "law.go:87", after := #[{ on := 7, ground := Go.Ground.guard }], guard := some (7, true) }) (v := _) rfl (by kernel_rfl) (by kernel_rfl) (by kernel_rfl) (fun _ _ _ h => h) (Or.inl ⟨by rfl, ?_⟩) (by assumption) ?_
          rotate_left
          · (intro W hSw; obtain ⟨f0, f1, f2, f3, f4, f5, f6⟩ := HX.out W hSw; go_simp; try with_reducible rfl)
          try simp only [Act.put, List.setIfInBounds_toArray, List.set_cons_zero, List.set_cons_succ]
          refine' wpAnyH_take (i := 9) (oi := { dst := some 172, op := Go.Op.move (Go.Operand.tmp 8), type := 29, pos := "law.go:87", after := #[{ on := 7, ground := Go.Ground.guard }], guard := some (7, true) }) (v := _) rfl (by kernel_rfl) (by kernel_rfl) (by kernel_rfl) (fun _ _ _ h => h) (Or.inl ⟨by rfl, ?_⟩) (by assumption) ?_
          rotate_left
          · (intro W hSw; go_simp; try with_reducible rfl)
          try simp only [Act.put, List.setIfInBounds_toArray, List.set_cons_zero, List.set_cons_succ]
          refine' wpAnyH_take (i := 10) (oi := { dst := some 173, op := Go.Op.indexAddr 29 (Go.Operand.tmp 172) (Go.Operand.const (Go.Value.int Go.IntKind.i64 0)), type := 0, pos := "law.go:87", after := #[{ on := 9, ground := Go.Ground.data }, { on := 7, ground := Go.Ground.guard }], guard := some (7, true) }) (v := _) rfl (by kernel_rfl) (by kernel_rfl) (by kernel_rfl) (fun _ _ _ h => h) (Or.inl ⟨by rfl, ?_⟩) (by assumption) ?_
          rotate_left
          · (intro W hSw; go_simp; try with_reducible rfl)
          try simp only [Act.put, List.setIfInBounds_toArray, List.set_cons_zero, List.set_cons_succ]
          refine' wpAnyH_take (i := 11) (oi := { dst := some 174, op := Go.Op.load 35 (Go.Operand.tmp 173), type := 35, pos := "law.go:87", after := #[{ on := 10, ground := Go.Ground.data }, { on := 7, ground := Go.Ground.guard }], guard := some (7, true) }) (v := _) rfl (by kernel_rfl) (by kernel_rfl) (by kernel_rfl) (fun _ _ _ h => h) (Or.inl ⟨by rfl, ?_⟩) (by assumption) ?_
          rotate_left
          · (intro W hSw; obtain ⟨f0, f1, f2, f3, f4, f5, f6⟩ := HX.out W hSw; go_simp; try with_reducible rfl)
          try simp only [Act.put, List.setIfInBounds_toArray, List.set_cons_zero, List.set_cons_succ]
          refine' wpAnyH_take (i := 12) (oi := { dst := some 175, op := Go.Op.binOp Go.BinOp.neq 38 (Go.Operand.tmp 171) (Go.Operand.tmp 174) 38, type := 4, pos := "law.go:87", after := #[{ on := 8, ground := Go.Ground.data }, { on := 11, ground := Go.Ground.data }, { on := 7, ground := Go.Ground.guard }], guard := some (7, true) }) (v := _) rfl (by kernel_rfl) (by kernel_rfl) (by kernel_rfl) (fun _ _ _ h => h) (Or.inl ⟨by rfl, ?_⟩) (by assumption) ?_
          rotate_left
          · (intro W hSw; go_simp; try with_reducible rfl)
          try simp only [Act.put, List.setIfInBounds_toArray, List.set_cons_zero, List.set_cons_succ]
          refine' wpAnyH_take (i := 13) (oi := { dst := some 176, op := Go.Op.pick (Go.Operand.tmp 170) (Go.Operand.tmp 175) (Go.Operand.const (Go.Value.bool false)), type := 4, pos := "law.go:87", after := #[{ on := 7, ground := Go.Ground.data }, { on := 12, ground := Go.Ground.data }, { on := 5, ground := Go.Ground.guard }], guard := some (5, false) }) (v := _) rfl (by kernel_rfl) (by kernel_rfl) (by kernel_rfl) (fun _ _ _ h => h) (Or.inl ⟨by rfl, ?_⟩) (by assumption) ?_
          rotate_left
          · (intro W hSw; go_simp; try with_reducible rfl)
          try simp only [Act.put, List.setIfInBounds_toArray, List.set_cons_zero, List.set_cons_succ]
          refine' wpAnyH_take (i := 14) (oi := { dst := some 177, op := Go.Op.pick (Go.Operand.tmp 168) (Go.Operand.const (Go.Value.bool true)) (Go.Operand.tmp 176), type := 4, pos := "law.go:87", after := #[{ on := 5, ground := Go.Ground.data }, { on := 13, ground := Go.Ground.data }], guard := none }) (v := _) rfl (by kernel_rfl) (by kernel_rfl) (by kernel_rfl) (fun _ _ _ h => h) (Or.inl ⟨by rfl, ?_⟩) (by assumption) ?_
          rotate_left
          · (intro W hSw; go_simp; try with_reducible rfl)
          try simp only [Act.put, List.setIfInBounds_toArray, List.set_cons_zero, List.set_cons_succ]
          refine' wpAnyH_take (i := 15) (oi := { dst := some 178, op := Go.Op.move (Go.Operand.tmp 177), type := 4, pos := "law.go:87", after := #[{ on := 14, ground := Go.Ground.data }, { on := 7, ground := Go.Ground.chain }], guard := none }) (v := _) rfl (by kernel_rfl) (by kernel_rfl) (by kernel_rfl) (fun _ _ _ h => h) (Or.inl ⟨by rfl, ?_⟩) (by assumption) ?_
          rotate_left
          · (intro W hSw; go_simp; try with_reducible rfl)
          try simp only [Act.put, List.setIfInBounds_toArray, List.set_cons_zero, List.set_cons_succ]
          refine' wpAnyH_take (i := 16) (oi := { dst := some 179, op := Go.Op.move (Go.Operand.tmp 20), type := 4, pos := "law.go:87", after := #[{ on := 15, ground := Go.Ground.guard }], guard := some (15, false) }) (v := _) rfl (by kernel_rfl) (by kernel_rfl) (by kernel_rfl) (fun _ _ _ h => h) (Or.inl ⟨by rfl, ?_⟩) (by assumption) ?_
          rotate_left
          · (intro W hSw; go_simp; try with_reducible rfl)
          try simp only [Act.put, List.setIfInBounds_toArray, List.set_cons_zero, List.set_cons_succ]
          refine' wpAnyH_take (i := 17) (oi := { dst := some 180, op := Go.Op.move (Go.Operand.tmp 21), type := 3, pos := "law.go:87", after := #[{ on := 15, ground := Go.Ground.guard }], guard := some (15, false) }) (v := _) rfl (by kernel_rfl) (by kernel_rfl) (by kernel_rfl) (fun _ _ _ h => h) (Or.inl ⟨by rfl, ?_⟩) (by assumption) ?_
          rotate_left
          · (intro W hSw; go_simp; try with_reducible rfl)
          try simp only [Act.put, List.setIfInBounds_toArray, List.set_cons_zero, List.set_cons_succ]
          refine' wpAnyH_take (i := 18) (oi := { dst := some 181, op := Go.Op.binOp Go.BinOp.geq 3 (Go.Operand.tmp 180) (Go.Operand.const (Go.Value.int Go.IntKind.i64 0)) 3, type := 4, pos := "law.go:87", after := #[{ on := 17, ground := Go.Ground.data }, { on := 15, ground := Go.Ground.guard }], guard := some (15, false) }) (v := _) rfl (by kernel_rfl) (by kernel_rfl) (by kernel_rfl) (fun _ _ _ h => h) (Or.inl ⟨by rfl, ?_⟩) (by assumption) ?_
          rotate_left
          · (intro W hSw; go_simp; try with_reducible rfl)
          try simp only [Act.put, List.setIfInBounds_toArray, List.set_cons_zero, List.set_cons_succ]
          refine' wpAnyH_take (i := 19) (oi := { dst := some 182, op := Go.Op.binOp Go.BinOp.neq 4 (Go.Operand.tmp 179) (Go.Operand.tmp 181) 4, type := 4, pos := "law.go:87", after := #[{ on := 16, ground := Go.Ground.data }, { on := 18, ground := Go.Ground.data }, { on := 15, ground := Go.Ground.guard }], guard := some (15, false) }) (v := _) rfl (by kernel_rfl) (by kernel_rfl) (by kernel_rfl) (fun _ _ _ h => h) (Or.inl ⟨by rfl, ?_⟩) (by assumption) ?_
          rotate_left
          · (intro W hSw; go_simp; try with_reducible rfl)
          try simp only [Act.put, List.setIfInBounds_toArray, List.set_cons_zero, List.set_cons_succ]
          refine' wpAnyH_take (i := 20) (oi := { dst := some 183, op := Go.Op.pick (Go.Operand.tmp 178) (Go.Operand.const (Go.Value.bool true)) (Go.Operand.tmp 182), type := 4, pos := "law.go:87", after := #[{ on := 15, ground := Go.Ground.data }, { on := 19, ground := Go.Ground.data }], guard := none }) (v := _) rfl (by kernel_rfl) (by kernel_rfl) (by kernel_rfl) (fun _ _ _ h => h) (Or.inl ⟨by rfl, ?_⟩) (by assumption) ?_
          rotate_left
          · (intro W hSw; go_simp; try with_reducible rfl)
          try simp only [Act.put, List.setIfInBounds_toArray, List.set_cons_zero, List.set_cons_succ]
          refine' wpAnyH_take (i := 21) (oi := { dst := some 184, op := Go.Op.move (Go.Operand.tmp 183), type := 4, pos := "law.go:87", after := #[{ on := 20, ground := Go.Ground.data }, { on := 15, ground := Go.Ground.chain }], guard := none }) (v := _) rfl (by kernel_rfl) (by kernel_rfl) (by kernel_rfl) (fun _ _ _ h => h) (Or.inl ⟨by rfl, ?_⟩) (by assumption) ?_
          rotate_left
          · (intro W hSw; go_simp; try with_reducible rfl)
          try simp only [Act.put, List.setIfInBounds_toArray, List.set_cons_zero, List.set_cons_succ]
          refine' wpAnyH_take (i := 22) (oi := { dst := some 185, op := Go.Op.move (Go.Operand.tmp 20), type := 4, pos := "law.go:87", after := #[{ on := 21, ground := Go.Ground.guard }], guard := some (21, false) }) (v := _) rfl (by kernel_rfl) (by kernel_rfl) (by kernel_rfl) (fun _ _ _ h => h) (Or.inl ⟨by rfl, ?_⟩) (by assumption) ?_
          rotate_left
          · (intro W hSw; go_simp; try with_reducible rfl)
          try simp only [Act.put, List.setIfInBounds_toArray, List.set_cons_zero, List.set_cons_succ]
          refine' wpAnyH_take (i := 23) (oi := { dst := some 186, op := Go.Op.move (Go.Operand.tmp 185), type := 4, pos := "law.go:87", after := #[{ on := 22, ground := Go.Ground.data }, { on := 21, ground := Go.Ground.chain }, { on := 21, ground := Go.Ground.guard }], guard := some (21, false) }) (v := _) rfl (by kernel_rfl) (by kernel_rfl) (by kernel_rfl) (fun _ _ _ h => h) (Or.inl ⟨by rfl, ?_⟩) (by assumption) ?_
          rotate_left
          · (intro W hSw; go_simp; try with_reducible rfl)
          try simp only [Act.put, List.setIfInBounds_toArray, List.set_cons_zero, List.set_cons_succ]
          refine' wpAnyH_take (i := 24) (oi := { dst := some 187, op := Go.Op.move (Go.Operand.tmp 19), type := 3, pos := "law.go:87", after := #[{ on := 23, ground := Go.Ground.guard }], guard := some (23, true) }) (v := _) rfl (by kernel_rfl) (by kernel_rfl) (by kernel_rfl) (fun _ _ _ h => h) (Or.inl ⟨by rfl, ?_⟩) (by assumption) ?_
          rotate_left
          · (intro W hSw; go_simp; try with_reducible rfl)
          try simp only [Act.put, List.setIfInBounds_toArray, List.set_cons_zero, List.set_cons_succ]
          refine' wpAnyH_take (i := 25) (oi := { dst := some 188, op := Go.Op.move (Go.Operand.tmp 8), type := 29, pos := "law.go:87", after := #[{ on := 23, ground := Go.Ground.guard }], guard := some (23, true) }) (v := _) rfl (by kernel_rfl) (by kernel_rfl) (by kernel_rfl) (fun _ _ _ h => h) (Or.inl ⟨by rfl, ?_⟩) (by assumption) ?_
          rotate_left
          · (intro W hSw; go_simp; try with_reducible rfl)
          try simp only [Act.put, List.setIfInBounds_toArray, List.set_cons_zero, List.set_cons_succ]
          refine' wpAnyH_take (i := 26) (oi := { dst := some 189, op := Go.Op.move (Go.Operand.tmp 21), type := 3, pos := "law.go:87", after := #[{ on := 23, ground := Go.Ground.guard }], guard := some (23, true) }) (v := _) rfl (by kernel_rfl) (by kernel_rfl) (by kernel_rfl) (fun _ _ _ h => h) (Or.inl ⟨by rfl, ?_⟩) (by assumption) ?_
          rotate_left
          · (intro W hSw; go_simp; try with_reducible rfl)
          try simp only [Act.put, List.setIfInBounds_toArray, List.set_cons_zero, List.set_cons_succ]
          refine' wpAnyH_take (i := 27) (oi := { dst := some 190, op := Go.Op.indexAddr 29 (Go.Operand.tmp 188) (Go.Operand.tmp 189), type := 0, pos := "law.go:87", after := #[{ on := 25, ground := Go.Ground.data }, { on := 26, ground := Go.Ground.data }, { on := 23, ground := Go.Ground.guard }], guard := some (23, true) }) (v := _) rfl (by kernel_rfl) (by kernel_rfl) (by kernel_rfl) (fun _ _ _ h => h) (Or.inl ⟨by rfl, ?_⟩) (by assumption) ?_
          rotate_left
          · (intro W hSw; go_simp; try with_reducible rfl)
          try simp only [Act.put, List.setIfInBounds_toArray, List.set_cons_zero, List.set_cons_succ]
          refine' wpAnyH_take (i := 28) (oi := { dst := some 191, op := Go.Op.fieldAddr 35 (Go.Operand.tmp 190) 0, type := 0, pos := "law.go:87", after := #[{ on := 27, ground := Go.Ground.data }, { on := 23, ground := Go.Ground.guard }], guard := some (23, true) }) (v := _) rfl (by kernel_rfl) (by kernel_rfl) (by kernel_rfl) (fun _ _ _ h => h) (Or.inl ⟨by rfl, ?_⟩) (by assumption) ?_
          rotate_left
          · (intro W hSw; go_simp; try with_reducible rfl)
          try simp only [Act.put, List.setIfInBounds_toArray, List.set_cons_zero, List.set_cons_succ]
          refine' wpAnyH_take (i := 29) (oi := { dst := some 192, op := Go.Op.load 3 (Go.Operand.tmp 191), type := 3, pos := "law.go:87", after := #[{ on := 28, ground := Go.Ground.data }, { on := 23, ground := Go.Ground.guard }], guard := some (23, true) }) (v := _) rfl (by kernel_rfl) (by kernel_rfl) (by kernel_rfl) (fun _ _ _ h => h) (Or.inl ⟨by rfl, ?_⟩) (by assumption) ?_
          rotate_left
          · (intro W hSw; obtain ⟨f0, f1, f2, f3, f4, f5, f6⟩ := HX.out W hSw; go_simp; try with_reducible rfl)
          try simp only [Act.put, List.setIfInBounds_toArray, List.set_cons_zero, List.set_cons_succ]
          refine' wpAnyH_take (i := 30) (oi := { dst := some 193, op := Go.Op.binOp Go.BinOp.neq 3 (Go.Operand.tmp 187) (Go.Operand.tmp 192) 3, type := 4, pos := "law.go:87", after := #[{ on := 24, ground := Go.Ground.data }, { on := 29, ground := Go.Ground.data }, { on := 23, ground := Go.Ground.guard }], guard := some (23, true) }) (v := _) rfl (by kernel_rfl) (by kernel_rfl) (by kernel_rfl) (fun _ _ _ h => h) (Or.inl ⟨by rfl, ?_⟩) (by assumption) ?_
          rotate_left
          · (intro W hSw; go_simp; try with_reducible rfl)
          try simp only [Act.put, List.setIfInBounds_toArray, List.set_cons_zero, List.set_cons_succ]
          refine' wpAnyH_take (i := 31) (oi := { dst := some 194, op := Go.Op.pick (Go.Operand.tmp 186) (Go.Operand.tmp 193) (Go.Operand.const (Go.Value.bool false)), type := 4, pos := "law.go:87", after := #[{ on := 23, ground := Go.Ground.data }, { on := 30, ground := Go.Ground.data }, { on := 21, ground := Go.Ground.guard }], guard := some (21, false) }) (v := _) rfl (by kernel_rfl) (by kernel_rfl) (by kernel_rfl) (fun _ _ _ h => h) (Or.inl ⟨by rfl, ?_⟩) (by assumption) ?_
          rotate_left
          · (intro W hSw; go_simp; try with_reducible rfl)
          try simp only [Act.put, List.setIfInBounds_toArray, List.set_cons_zero, List.set_cons_succ]
          refine' wpAnyH_take (i := 32) (oi := { dst := some 195, op := Go.Op.pick (Go.Operand.tmp 184) (Go.Operand.const (Go.Value.bool true)) (Go.Operand.tmp 194), type := 4, pos := "law.go:87", after := #[{ on := 21, ground := Go.Ground.data }, { on := 31, ground := Go.Ground.data }], guard := none }) (v := _) rfl (by kernel_rfl) (by kernel_rfl) (by kernel_rfl) (fun _ _ _ h => h) (Or.inl ⟨by rfl, ?_⟩) (by assumption) ?_
          rotate_left
          · (intro W hSw; go_simp; try with_reducible rfl)
          try simp only [Act.put, List.setIfInBounds_toArray, List.set_cons_zero, List.set_cons_succ]
          refine' wpAnyH_take (i := 33) (oi := { dst := some 196, op := Go.Op.move (Go.Operand.tmp 195), type := 4, pos := "law.go:87", after := #[{ on := 32, ground := Go.Ground.data }, { on := 23, ground := Go.Ground.chain }], guard := none }) (v := _) rfl (by kernel_rfl) (by kernel_rfl) (by kernel_rfl) (fun _ _ _ h => h) (Or.inl ⟨by rfl, ?_⟩) (by assumption) ?_
          rotate_left
          · (intro W hSw; go_simp; try with_reducible rfl)
          try simp only [Act.put, List.setIfInBounds_toArray, List.set_cons_zero, List.set_cons_succ]
          refine' wpAnyH_take (i := 34) (oi := { dst := some 197, op := Go.Op.move (Go.Operand.tmp 6), type := 24, pos := "law.go:87", after := #[{ on := 33, ground := Go.Ground.guard }], guard := some (33, false) }) (v := _) rfl (by kernel_rfl) (by kernel_rfl) (by kernel_rfl) (fun _ _ _ h => h) (Or.inl ⟨by rfl, ?_⟩) (by assumption) ?_
          rotate_left
          · (intro W hSw; go_simp; try with_reducible rfl)
          try simp only [Act.put, List.setIfInBounds_toArray, List.set_cons_zero, List.set_cons_succ]
          refine' wpAnyH_take (i := 36) (oi := { dst := some 199, op := Go.Op.move (Go.Operand.tmp 8), type := 29, pos := "law.go:87", after := #[{ on := 33, ground := Go.Ground.guard }], guard := some (33, false) }) (v := _) rfl (by kernel_rfl) (by kernel_rfl) (by kernel_rfl) (fun _ _ _ h => h) (Or.inl ⟨by rfl, ?_⟩) (by assumption) ?_
          rotate_left
          · (intro W hSw; go_simp; try with_reducible rfl)
          try simp only [Act.put, List.setIfInBounds_toArray, List.set_cons_zero, List.set_cons_succ]
          refine' wpAnyH_take (i := 37) (oi := { dst := some 200, op := Go.Op.call { callee := Go.Callee.builtin Go.Builtin.len, args := #[Go.Operand.tmp 199], argTypes := #[29] }, type := 3, pos := "law.go:87", after := #[{ on := 36, ground := Go.Ground.data }, { on := 33, ground := Go.Ground.guard }], guard := some (33, false) }) (v := _) rfl (by kernel_rfl) (by kernel_rfl) (by kernel_rfl) (fun _ _ _ h => h) (Or.inl ⟨by rfl, ?_⟩) (by assumption) ?_
          rotate_left
          · (intro W hSw; go_simp; try with_reducible rfl)
          try simp only [Act.put, List.setIfInBounds_toArray, List.set_cons_zero, List.set_cons_succ]
          refine wpAnyH_ready (rs := [35]) (by kernel_rfl) (by simp) ?_
          refine AllReadyH.cons (o := { dst := some 198, op := Go.Op.call { callee := Go.Callee.value (Go.Operand.func 16), args := #[Go.Operand.tmp 197], argTypes := #[24] }, type := 3, pos := "law.go:87", after := #[{ on := 34, ground := Go.Ground.data }, { on := 33, ground := Go.Ground.chain }, { on := 33, ground := Go.Ground.guard }], guard := some (33, false) }) rfl (fun K hK => ?_) AllReadyH.nil
          go_simp
          with_reducible refine (HLn.out _ (HD.out _ HBD.out).q).mono ?_
          rintro x w5 ⟨rfl, hb5⟩
          clear hHeld
          try go_wp2_with fail
          refine hK.out _ _ (HBD.out.trans hb5) (fun hHeld => ?_)
          clear hK K
          have HB5 := Lib.hid hHeld
          clear hb5
          try simp only [Act.put, List.setIfInBounds_toArray, List.set_cons_zero, List.set_cons_succ]
          refine' wpAnyH_take (i := 38) (oi := { dst := some 201, op := Go.Op.binOp Go.BinOp.neq 3 (Go.Operand.tmp 198) (Go.Operand.tmp 200) 3, type := 4, pos := "law.go:87", after := #[{ on := 35, ground := Go.Ground.data }, { on := 37, ground := Go.Ground.data }, { on := 33, ground := Go.Ground.guard }], guard := some (33, false) }) (v := _) rfl (by kernel_rfl) (by kernel_rfl) (by kernel_rfl) (fun _ _ _ h => h) (Or.inl ⟨by rfl, ?_⟩) (by assumption) ?_
          rotate_left
          · (intro W hSw; go_simp; try with_reducible rfl)
          try simp only [Act.put, List.setIfInBounds_toArray, List.set_cons_zero, List.set_cons_succ]
          refine' wpAnyH_take (i := 39) (oi := { dst := some 202, op := Go.Op.pick (Go.Operand.tmp 196) (Go.Operand.const (Go.Value.bool true)) (Go.Operand.tmp 201), type := 4, pos := "law.go:87", after := #[{ on := 33, ground := Go.Ground.data }, { on := 38, ground := Go.Ground.data }], guard := none }) (v := _) rfl (by kernel_rfl) (by kernel_rfl) (by kernel_rfl) (fun _ _ _ h => h) (Or.inl ⟨by rfl, ?_⟩) (by assumption) ?_
          rotate_left
          · (intro W hSw; go_simp; try with_reducible rfl)
          try simp only [Act.put, List.setIfInBounds_toArray, List.set_cons_zero, List.set_cons_succ]
          refine' wpAnyH_take (i := 40) (oi := { dst := some 203, op := Go.Op.move (Go.Operand.tmp 202), type := 4, pos := "law.go:87", after := #[{ on := 39, ground := Go.Ground.data }, { on := 35, ground := Go.Ground.chain }], guard := none }) (v := _) rfl (by kernel_rfl) (by kernel_rfl) (by kernel_rfl) (fun _ _ _ h => h) (Or.inl ⟨by rfl, ?_⟩) (by assumption) ?_
          rotate_left
          · (intro W hSw; go_simp; try with_reducible rfl)
          try simp only [Act.put, List.setIfInBounds_toArray, List.set_cons_zero, List.set_cons_succ]
          refine' wpAnyH_take (i := 41) (oi := { dst := some 204, op := Go.Op.move (Go.Operand.tmp 6), type := 24, pos := "law.go:87", after := #[{ on := 40, ground := Go.Ground.guard }], guard := some (40, false) }) (v := _) rfl (by kernel_rfl) (by kernel_rfl) (by kernel_rfl) (fun _ _ _ h => h) (Or.inl ⟨by rfl, ?_⟩) (by assumption) ?_
          rotate_left
          · (intro W hSw; go_simp; try with_reducible rfl)
          try simp only [Act.put, List.setIfInBounds_toArray, List.set_cons_zero, List.set_cons_succ]
          refine' wpAnyH_take (i := 43) (oi := { dst := some 206, op := Go.Op.move (Go.Operand.tmp 8), type := 29, pos := "law.go:87", after := #[{ on := 40, ground := Go.Ground.guard }], guard := some (40, false) }) (v := _) rfl (by kernel_rfl) (by kernel_rfl) (by kernel_rfl) (fun _ _ _ h => h) (Or.inl ⟨by rfl, ?_⟩) (by assumption) ?_
          rotate_left
          · (intro W hSw; go_simp; try with_reducible rfl)
          try simp only [Act.put, List.setIfInBounds_toArray, List.set_cons_zero, List.set_cons_succ]
          refine wpAnyH_ready (rs := [42]) (by kernel_rfl) (by simp) ?_
          refine AllReadyH.cons (o := { dst := some 205, op := Go.Op.call { callee := Go.Callee.value (Go.Operand.func 18), args := #[Go.Operand.tmp 204], argTypes := #[24] }, type := 48, pos := "law.go:87", after := #[{ on := 41, ground := Go.Ground.data }, { on := 40, ground := Go.Ground.chain }, { on := 40, ground := Go.Ground.guard }], guard := some (40, false) }) rfl (fun K hK => ?_) AllReadyH.nil
          go_simp
          with_reducible refine (HLi.out _ (HD.out _ HB5.out).q).mono ?_
          rintro x w6 ⟨u6, rfl, hu6, hb6⟩
          clear hHeld
          try go_wp2_with fail
          refine hK.out _ _ (HB5.out.trans (hb6.mono HB5.out.size)) (fun hHeld => ?_)
          clear hK K
          have HB6 := Lib.hid hHeld
          have HU6 := Lib.hid hu6
          clear hb6 hu6
          try simp only [Act.put, List.setIfInBounds_toArray, List.set_cons_zero, List.set_cons_succ]
          refine wpAnyH_ready (rs := [44]) (by kernel_rfl) (by simp) ?_
          refine AllReadyH.cons (o := { dst := some 207, op := Go.Op.call { callee := Go.Callee.value (Go.Operand.func 17), args := #[Go.Operand.tmp 205, Go.Operand.tmp 206], argTypes := #[48, 29] }, type := 4, pos := "law.go:87", after := #[{ on := 42, ground := Go.Ground.data }, { on := 43, ground := Go.Ground.data }, { on := 42, ground := Go.Ground.chain }, { on := 40, ground := Go.Ground.guard }], guard := some (40, false) }) rfl (fun K hK => ?_) AllReadyH.nil
          go_simp
          with_reducible refine (HSm.out _ _ _ HU6.out.row (HD.out _ HB6.out).x.row).mono ?_
          rintro x w7 ⟨rfl, hb7⟩
          clear hHeld
          try go_wp2_with fail
          refine hK.out _ _ (HB6.out.trans (hb7.mono HB6.out.size)) (fun hHeld => ?_)
          clear hK K
          have HB7 := Lib.hid hHeld
          clear hb7
          try simp only [Act.put, List.setIfInBounds_toArray, List.set_cons_zero, List.set_cons_succ]
          refine' wpAnyH_take (i := 45) (oi := { dst := some 208, op := Go.Op.unOp Go.UnOp.not 4 (Go.Operand.tmp 207), type := 4, pos := "law.go:87", after := #[{ on := 44, ground := Go.Ground.data }, { on := 40, ground := Go.Ground.guard }], guard := some (40, false) }) (v := _) rfl (by kernel_rfl) (by kernel_rfl) (by kernel_rfl) (fun _ _ _ h => h) (Or.inl ⟨by rfl, ?_⟩) (by assumption) ?_
          rotate_left
          · (intro W hSw; go_simp; try with_reducible rfl)
          try simp only [Act.put, List.setIfInBounds_toArray, List.set_cons_zero, List.set_cons_succ]
          refine' wpAnyH_take (i := 46) (oi := { dst := some 209, op := Go.Op.pick (Go.Operand.tmp 203) (Go.Operand.const (Go.Value.bool true)) (Go.Operand.tmp 208), type := 4, pos := "law.go:87", after := #[{ on := 40, ground := Go.Ground.data }, { on := 45, ground := Go.Ground.data }], guard := none }) (v := _) rfl (by kernel_rfl) (by kernel_rfl) (by kernel_rfl) (fun _ _ _ h => h) (Or.inl ⟨by rfl, ?_⟩) (by assumption) ?_
          rotate_left
          · (intro W hSw; go_simp; try with_reducible rfl)
          try simp only [Act.put, List.setIfInBounds_toArray, List.set_cons_zero, List.set_cons_succ]
          refine wpAnyH_done (by kernel_rfl) ?_ _
          refine NoPanic.normal ?_
          go_wp2_with fail
          have H7 := Lib.hid (HD.out _ HB7.out)
          exact ⟨⟨i + 1, G, _, _, rfl, by go_num, hin1, hin2, H7.out.x, H7.out.q, H7.out.low, H7.out.hb⟩, by simp [intOf]; omega⟩
    · have hd : ¬ i < len ∨ (i < len ∧ ¬ i < 120) := by omega
      clear hin
      rcases hd with h1 | ⟨h1, h2⟩
      case' inl => have q1 : ¬ (i : Int) < len := by omega
      case' inr =>
        have q1 : (i : Int) < len := by omega
        have q2 : ¬ (i : Int) < 120 := by omega
      all_goals
        go_wp2_with fail
        with_reducible refine (HSu.out _).mono ?_
        rintro x w9 ⟨rfl, hb9⟩
        have H9 := Lib.hid (HI.out.2.2.2.trans (hb9.mono HI.out.2.2.2.size))
        clear hb9
        go_wp2_with fail
        go_ret
        exact ⟨rfl, H9.out⟩
end Go.Proofs.YtkihfafkglkjnaaDoor

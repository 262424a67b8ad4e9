/- Law QueueTurned, walked. -/
import Derived.Test.YtkihfafkglkjnaaQuSu
import Derived.Test.YtkihfafkglkjnaaQuTm
import Derived.Deep.QuietTactic
namespace Go.Proofs.Ytkihfafkglkjnaa
open Go.RowKit

theorem u64_geT (k : Int) : 0 ≤ IntKind.u64.wrap k := by
  simp only [IntKind.wrap, IntKind.bits, IntKind.signed]
  simp
  omega
theorem mod_uT (n : Int) (d : Nat) (hd : 0 < d) : ∃ r : Nat, r < d ∧ (IntKind.u64.wrap n).tmod (d : Int) = (r : Int) := by
  have h := u64_geT n
  have h1 := Int.emod_nonneg (IntKind.u64.wrap n) (show (d : Int) ≠ 0 by omega)
  have h2 := Int.emod_lt_of_pos (IntKind.u64.wrap n) (show (0 : Int) < d by omega)
  exact ⟨(IntKind.u64.wrap n % d).toNat, by omega, by rw [Int.tmod_eq_emod_of_nonneg h]; omega⟩
variable {Is : World → Value → (Nat → Prop) → Int → List Ev → Prop}
/-- Two queues that share nothing, over an elder world. -/
structure TwQ (Is : World → Value → (Nat → Prop) → Int → List Ev → Prop) (B : Nat) (w w' : World) (u v : Value) (F G : Nat → Prop) (n : Int) (L M : List Ev) : Prop where
  a : Is w' u F n L
  b : Is w' v G n M
  dis : ∀ k, F k → ¬ G k
  fa : ∀ k, F k → B ≤ k
  fb : ∀ k, G k → B ≤ k
  hb : Below B w w'
theorem TwQ.ta (hP : PgP Is) {B : Nat} {w V V' : World} {u v : Value} {F G F' : Nat → Prop} {n : Int} {L M L' : List Ev} (h : TwQ Is B w V u v F G n L M) (hB : B ≤ V.heap.size) (ht : TuF F F' V V') (hI : Is V' u F' n L') : TwQ Is B w V' u v F' G n L' M :=
  ⟨hI, hP.kept h.b fun k hk => ht.block k (hP.fp h.b k hk) fun hf => h.dis k hf hk, fun k hk hg => (ht.news k hk).elim (fun hf => h.dis k hf hg) fun h2 => absurd (hP.fp h.b k hg) (Nat.not_lt.2 h2), ht.low hB h.fa, h.fb, ht.below h.hb hB h.fa⟩
theorem TwQ.tb (hP : PgP Is) {B : Nat} {w V V' : World} {u v : Value} {F G G' : Nat → Prop} {n : Int} {L M M' : List Ev} (h : TwQ Is B w V u v F G n L M) (hB : B ≤ V.heap.size) (ht : TuF G G' V V') (hI : Is V' v G' n M') : TwQ Is B w V' u v F G' n L M' :=
  ⟨hP.kept h.a fun k hk => ht.block k (hP.fp h.a k hk) fun hg => h.dis k hk hg, hI, fun k hf hk => (ht.news k hk).elim (fun hg => h.dis k hf hg) fun h2 => absurd (hP.fp h.a k hf) (Nat.not_lt.2 h2), h.fa, ht.low hB h.fb, ht.below h.hb hB h.fb⟩
theorem TwQ.bl (hP : PgP Is) {B : Nat} {w V V' : World} {u v : Value} {F G : Nat → Prop} {n : Int} {L M : List Ev} (h : TwQ Is B w V u v F G n L M) (hB : B ≤ V.heap.size) (hb : Below V.heap.size V V') : TwQ Is B w V' u v F G n L M :=
  ⟨hP.below h.a hb, hP.below h.b hb, h.dis, h.fa, h.fb, h.hb.trans (hb.mono hB)⟩
/-- The row of ints that came in. -/
def RowZ (w : World) (A : Option Addr) (xs : List Int) : Prop := Rd w A (xs.map fun x => Value.int .i64 x)
theorem RowZ.at_ {w : World} {A : Option Addr} {xs : List Int} (h : RowZ w A xs) (i : Nat) (hi : i < xs.length) : ∃ ad, A = some ad ∧ w.cell? (ad.add i) = some (.int .i64 (xs.getD i 0)) := by
  obtain ⟨ad, e, hc⟩ := h (by rw [List.length_map]; omega)
  refine ⟨ad, e, hc i _ ?_⟩
  rw [List.getElem?_map, List.getElem?_eq_getElem hi, List.getD_eq_getElem?_getD, List.getElem?_eq_getElem hi]
  rfl
noncomputable def fZ (xs : List Int) (j : Nat) : Nat := (mod_uT (xs.getD j 0) 50 (by omega)).choose
theorem fZ_spec (xs : List Int) (j : Nat) : fZ xs j < 50 ∧ (IntKind.u64.wrap (xs.getD j 0)).tmod 50 = (fZ xs j : Int) := (mod_uT (xs.getD j 0) 50 (by omega)).choose_spec
theorem PgP.setT (hP : PgP Is) {f : Nat → Nat} {j : Nat} {L M : List Ev} (h : stE L ((100 : Nat) : Int) (evT f j) = (M, 0)) (hj : j < 1000) (v : Value) (F : Nat → Prop) (w : World) (hI : Is w v F 100 L) :
    Calls Try.prog 7 #[v, .agg #[.int .i64 (f j : Nat), .int .i64 ((j % 7 : Nat) : Int), .int .i64 (j : Nat)]] w fun x w' => x = .returned .nilIface ∧ ∃ F', Is w' v F' 100 M ∧ TuF F F' w w' := by
  have h1 := hP.set v F 100 L (evT f j) w (by unfold evT; exact ⟨by dsimp only; omega, by dsimp only; omega⟩) (by unfold evT; exact ⟨by dsimp only; omega, by dsimp only; omega⟩) hI
  have h' : stE L 100 (evT f j) = (M, 0) := h
  rw [h', errE_zero] at h1
  exact h1
theorem evP_cells (w : World) (a b c : Int) (t : TypeId) : (w.alloc (.cells #[.int .i64 a, .int .i64 b, .int .i64 c] t)).cell? ⟨w.heap.size, 0, none⟩ = some (.int .i64 a) ∧ (w.alloc (.cells #[.int .i64 a, .int .i64 b, .int .i64 c] t)).cell? ⟨w.heap.size, 1, none⟩ = some (.int .i64 b) ∧ (w.alloc (.cells #[.int .i64 a, .int .i64 b, .int .i64 c] t)).cell? ⟨w.heap.size, 2, none⟩ = some (.int .i64 c) := by
  have h := heap_alloc_new w (.cells #[.int .i64 a, .int .i64 b, .int .i64 c] t)
  exact ⟨cell9_blk h 0 rfl, cell9_blk h 1 rfl, cell9_blk h 2 rfl⟩
theorem PgP.popD (hP : PgP Is) {n : Int} {L : List Ev} {i : Nat} {p1 p2 p3 : Int} (h : L[i]? = some (p1, p2, p3)) (v : Value) (F : Nat → Prop) (w : World) (hI : Is w v F n (L.drop i)) :
    Calls Try.prog 10 #[v] w fun x w' => x = .returned (.tuple #[.agg #[.int .i64 p1, .int .i64 p2, .int .i64 p3], .bool true]) ∧ ∃ F', Is w' v F' n (L.drop (i + 1)) ∧ TuF F F' w w' := by
  have h1 := hP.pop v F n (L.drop i) w hI
  have e1 : (L.drop i).headD (0, 0, 0) = (p1, p2, p3) := by rw [List.headD_eq_head?_getD, List.head?_drop, h]; rfl
  have e2 : (L.drop i).isEmpty = false := by
    have := (List.getElem?_eq_some_iff.1 h).1
    rw [List.isEmpty_eq_false_iff]
    intro e
    have := congrArg List.length e
    rw [List.length_drop, List.length_nil] at this
    omega
  rw [e1, e2, List.tail_drop] at h1
  exact h1
set_option maxRecDepth 100000 in
set_option maxHeartbeats 4000000 in
theorem turned_walk (hP : PgP Is) (A : Option Addr) (c : Nat) (xs : List Int) (w : World) (hl : RowZ w A xs) (hc : xs.length ≤ c) (hm : c ≤ maxLen) :
    Calls Try.prog 4 #[.slice A xs.length c] w fun e w' => e = .returned (.bool true) ∧ Below w.heap.size w w' := by
  unfold maxLen at hm
  obtain ⟨len, hlen⟩ : ∃ y, xs.length = y := ⟨_, rfl⟩
  rw [hlen] at hc ⊢
  obtain ⟨n, hn⟩ : ∃ n : Nat, min (len : Int) 100 = n := ⟨min len 100, by omega⟩
  have n1 : (n : Int) ≤ 100 := by omega
  have n2 : n ≤ len := by omega
  have n0 : (0 : Int) ≤ n := by omega
  have HP := Lib.hid hP
  have HN := Lib.hid (fun W => hP.new 100 W (by omega) (by omega))
  have HSu := Lib.hid (fun W => sure15_any hP W)
  have HL := Lib.hid (And.intro hl hlen)
  clear hP hl hlen
  go_enter Try.func4, Try.ntmps4
  go_wp2_with fail
  with_reducible refine (HN.out _).mono ?_
  rintro x w1 ⟨va, F1, rfl, hI1, hF1, hb1⟩
  obtain ⟨ba, rfl⟩ := HP.out.ptr hI1
  have H1 := Lib.hid (And.intro hI1 (And.intro hF1 hb1))
  clear hI1 hF1 hb1
  go_wp2_with fail
  with_reducible refine (HN.out _).mono ?_
  rintro x w2 ⟨vb, G2, rfl, hI2, hG2, hb2⟩
  obtain ⟨bb, rfl⟩ := HP.out.ptr hI2
  have H2 : Hid (TwQ Is w.heap.size w w2 (.pointer (some ⟨ba, 0, none⟩)) (.pointer (some ⟨bb, 0, none⟩)) F1 G2 100 [] []) :=
    ⟨HP.out.below H1.out.1 hb2, hI2, fun k hf hg => absurd (HP.out.fp H1.out.1 k hf) (Nat.not_lt.2 (hG2 k hg)), H1.out.2.1, fun k hk => Nat.le_trans H1.out.2.2.size (hG2 k hk), H1.out.2.2.trans (hb2.mono H1.out.2.2.size)⟩
  clear hI2 hG2 hb2
  go_wp2_with fail
  all_goals
    first
    | (have e : (100 : Int) = n := by omega
       rw [show Value.int IntKind.i64 100 = Value.int .i64 (n : Int) by rw [e]])
    | (have e : (len : Int) = n := by omega
       rw [show Value.int IntKind.i64 (len : Int) = Value.int .i64 (n : Int) by rw [e]])
    clear e
    go_loopw [8] (fun iv wr => ∃ (i : Nat) (F G : Nat → Prop) (L M : List Ev), iv = .int .i64 i ∧ i ≤ n ∧ TrI (fZ xs) (fun j => j < i) i L ∧ TrI (fZ xs) (fun j => n - i ≤ j ∧ j < n) i M ∧ TwQ Is w.heap.size w wr (.pointer (some ⟨ba, 0, none⟩)) (.pointer (some ⟨bb, 0, none⟩)) F G 100 L M) (fun iv _ => n - (intOf iv).toNat)
    case atStart => exact ⟨0, F1, G2, [], [], rfl, Nat.zero_le _, TrI.nil (fun j => Nat.not_lt_zero j), TrI.nil (fun j h => by omega), H2.out⟩
    case round =>
      obtain ⟨i, F, G, L, M, rfl, hi, hL, hM, hT⟩ := hrel
      have HT := Lib.hid (And.intro hL (And.intro hM hT))
      clear hL hM hT
      by_cases hin : i < n
      · have q0 : (0 : Int) ≤ i := by omega
        have q1 : (i : Int) < n := by omega
        have q2 : (i : Int) < len := by omega
        obtain ⟨j, hj⟩ : ∃ j : Nat, (n : Int) - 1 - i = j := ⟨n - 1 - i, by omega⟩
        have j0 : (0 : Int) ≤ j := by omega
        have j1 : (j : Int) < len := by omega
        have hjn : j < n := by omega
        have hle := HT.out.2.2.hb.size
        have hz := Below.refl w.heap.size w
        have hrow : RowZ wr A xs := Rd.below HL.out.1 HT.out.2.2.hb
        obtain ⟨ad, rfl, ci⟩ := hrow.at_ i (by rw [HL.out.2]; omega)
        obtain ⟨ad2, e2, cj⟩ := hrow.at_ j (by rw [HL.out.2]; omega)
        injection e2 with e2
        subst e2
        obtain ⟨x, hx⟩ : ∃ x, xs.getD i 0 = x := ⟨_, rfl⟩
        obtain ⟨y, hy⟩ : ∃ y, xs.getD j 0 = y := ⟨_, rfl⟩
        obtain ⟨fi1, fi2⟩ := fZ_spec xs i
        obtain ⟨fj1, fj2⟩ := fZ_spec xs j
        obtain ⟨a1, ha⟩ := HT.out.1.add (n := 100) (j := i) (S' := fun k => k < i + 1) (by omega) (by omega) fi1 (fun k => by omega)
        obtain ⟨a2, hb⟩ := HT.out.2.1.add (n := 100) (j := j) (S' := fun k => n - (i + 1) ≤ k ∧ k < n) (by omega) (by omega) fj1 (fun k => by omega)
        have HSa := Lib.hid (HP.out.setT a1 (by omega))
        have HSb := Lib.hid (HP.out.setT a2 (by omega))
        have HAB := Lib.hid (And.intro ha hb)
        obtain ⟨p, hp⟩ : ∃ p, fZ xs i = p := ⟨_, rfl⟩
        obtain ⟨q, hq⟩ : ∃ q, fZ xs j = q := ⟨_, rfl⟩
        rw [hp] at fi1 fi2 HSa
        rw [hq] at fj1 fj2 HSb
        rw [hx] at fi2 ci
        rw [hy] at fj2 cj
        obtain ⟨s, hs⟩ : ∃ s : Nat, (i : Int).tmod 7 = s := ⟨i % 7, by rw [Int.tmod_eq_emod_of_nonneg q0]; omega⟩
        obtain ⟨t, ht⟩ : ∃ s : Nat, (j : Int).tmod 7 = s := ⟨j % 7, by rw [Int.tmod_eq_emod_of_nonneg j0]; omega⟩
        have es : i % 7 = s := by rw [Int.tmod_eq_emod_of_nonneg q0] at hs; omega
        have et : j % 7 = t := by rw [Int.tmod_eq_emod_of_nonneg j0] at ht; omega
        rw [es] at HSa
        rw [et] at HSb
        have p0 : (0 : Int) ≤ p := by omega
        have p1 : (p : Int) < 50 := by omega
        have q5 : (0 : Int) ≤ q := by omega
        have q6 : (q : Int) < 50 := by omega
        have HCj := Lib.hid cj
        clear a1 a2 ha hb hx hy hp hq hrow es et hz cj
        go_wp2_with fail
        with_reducible refine (HSa.out _ _ _ HT.out.2.2.a).mono ?_
        rintro x w3 ⟨rfl, F3, hI3, ht3⟩
        have H3 := Lib.hid (HT.out.2.2.ta HP.out HT.out.2.2.hb.size ht3 hI3)
        have cj3 : w3.cell? (ad.add j) = some (.int .i64 y) := (World.cell?_of_block (ht3.block _ (World.block_lt_of_cell? _ _ HCj.out) fun hf => by
          have h1 := HT.out.2.2.fa _ hf
          obtain ⟨ad', e', hc'⟩ := HL.out.1.at_ j (by rw [HL.out.2]; omega)
          injection e' with e'
          subst e'
          have := World.block_lt_of_cell? _ _ hc'
          omega)).trans HCj.out
        clear ht3 hI3
        go_wp2_with fail
        with_reducible refine (HSb.out _ _ _ H3.out.b).mono ?_
        rintro x w4 ⟨rfl, G4, hI4, ht4⟩
        have H4 := Lib.hid (H3.out.tb HP.out H3.out.hb.size ht4 hI4)
        clear ht4 hI4
        go_wp2_with fail
        exact ⟨⟨i + 1, F3, G4, _, _, by go_num, hin, HAB.out.1, HAB.out.2, H4.out⟩, by simp [intOf]; omega⟩
      · obtain rfl : i = n := by omega
        have q1 : ¬ (i : Int) < i := by omega
        have hLM : L = M := HT.out.1.one HT.out.2.1 (fun k => by omega)
        subst hLM
        have hlen := HT.out.1.len
        have HU := Lib.hid (And.intro HT.out.2.2 hlen)
        clear hlen HT
        go_wp2_with fail
        obtain ⟨y2, hy2⟩ : ∃ y : Nat, y = i := ⟨i, rfl⟩
        with_reducible refine (HP.out.list _ _ _ _ _ HU.out.1.a).mono ?_
        rintro x W1 ⟨u1, rfl, hr1, hb1⟩
        obtain ⟨A1, c1, rfl, hr1'⟩ := hr1.form
        rw [HU.out.2] at hr1' ⊢
        have K1 := Lib.hid (And.intro hr1' (HU.out.1.bl HP.out HU.out.1.hb.size hb1))
        clear hr1 hr1' hb1
        go_wp2_with fail
        with_reducible refine (HP.out.list _ _ _ _ _ K1.out.2.b).mono ?_
        rintro x W2 ⟨u2, rfl, hr2, hb2⟩
        obtain ⟨A2, c2, rfl, hr2'⟩ := hr2.form
        rw [HU.out.2] at hr2' ⊢
        have K2 : Hid (RowP (fun k => F k ∨ G k) W2 (.slice A1 i c1) L ∧ RowP (fun k => F k ∨ G k) W2 (.slice A2 i c2) L ∧ TwQ Is w.heap.size w W2 (.pointer (some ⟨ba, 0, none⟩)) (.pointer (some ⟨bb, 0, none⟩)) F G 100 L L) :=
          ⟨(K1.out.1.bl hb2).mono (fun k hk => hk.elim (HP.out.fp HU.out.1.a k) (HP.out.fp HU.out.1.b k)), hr2'.mono (fun k hk => hk.elim (HP.out.fp K1.out.2.a k) (HP.out.fp K1.out.2.b k)), K1.out.2.bl HP.out K1.out.2.hb.size hb2⟩
        clear hr2 hr2' hb2
        go_wp2_with fail
        go_loopw [12] (fun iv wr => ∃ (s : Nat) (F G : Nat → Prop), iv = .int .i64 s ∧ s ≤ i ∧ RowP (fun k => F k ∨ G k) wr (.slice A1 i c1) L ∧ RowP (fun k => F k ∨ G k) wr (.slice A2 i c2) L ∧ TwQ Is w.heap.size w wr (.pointer (some ⟨ba, 0, none⟩)) (.pointer (some ⟨bb, 0, none⟩)) F G 100 (L.drop s) (L.drop s)) (fun iv _ => i - (intOf iv).toNat)
        case atStart => exact ⟨0, F, G, rfl, Nat.zero_le _, K2.out⟩
        case round =>
          obtain ⟨s, F, G, rfl, hs, hx, hy, hT⟩ := hrel
          have HT := Lib.hid (And.intro hx (And.intro hy hT))
          clear hx hy hT
          by_cases hsi : s < i
          · have s0 : (0 : Int) ≤ s := by omega
            have s1 : (s : Int) < i := by omega
            obtain ⟨p, hp⟩ : ∃ p, L[s]? = some p := ⟨_, List.getElem?_eq_getElem (by rw [HU.out.2]; exact hsi)⟩
            obtain ⟨p1, p2, p3⟩ := p
            have hne : L ≠ [] := fun e => by rw [e] at hp; cases hp
            have HPp := Lib.hid (HP.out.popD (n := 100) hp)
            have HNe := Lib.hid (And.intro hne hp)
            clear hp hne
            go_wp2_with fail
            with_reducible refine (HPp.out _ _ _ HT.out.2.2.a).mono ?_
            rintro x w3 ⟨rfl, F3, hI3, ht3⟩
            have H3 := Lib.hid (And.intro ((HT.out.1.tu ht3 (fun k hk => .inl hk)).mono (F' := fun k => F3 k ∨ G k) (fun k hk => hk.elim (fun h => (ht3.news k h).elim (fun h => .inl (.inl h)) .inr) (fun h => .inl (.inr h))))
              (And.intro ((HT.out.2.1.tu ht3 (fun k hk => .inl hk)).mono (F' := fun k => F3 k ∨ G k) (fun k hk => hk.elim (fun h => (ht3.news k h).elim (fun h => .inl (.inl h)) .inr) (fun h => .inl (.inr h)))) (HT.out.2.2.ta HP.out HT.out.2.2.hb.size ht3 hI3)))
            clear ht3 hI3
            have ha3 : Below w3.heap.size w3 (w3.alloc (.cells #[.int .i64 p1, .int .i64 p2, .int .i64 p3] 31)) := (Below.refl _ _).alloc (Nat.le_refl _) _
            have H4 := Lib.hid (And.intro (H3.out.1.bl ha3) (And.intro (H3.out.2.1.bl ha3) (H3.out.2.2.bl HP.out H3.out.2.2.hb.size ha3)))
            have hnG : ¬ G w3.heap.size := fun hg => absurd (HP.out.fp H3.out.2.2.b _ hg) (Nat.lt_irrefl _)
            clear ha3
            go_wp2_with fail
            with_reducible refine (HPp.out _ _ _ H4.out.2.2.b).mono ?_
            rintro x w5 ⟨rfl, G5, hI5, ht5⟩
            have H5 := Lib.hid (And.intro ((H4.out.1.tu ht5 (fun k hk => .inr hk)).mono (F' := fun k => F3 k ∨ G5 k) (fun k hk => hk.elim (fun h => .inl (.inl h)) (fun h => (ht5.news k h).elim (fun h => .inl (.inr h)) .inr)))
              (And.intro ((H4.out.2.1.tu ht5 (fun k hk => .inr hk)).mono (F' := fun k => F3 k ∨ G5 k) (fun k hk => hk.elim (fun h => .inl (.inl h)) (fun h => (ht5.news k h).elim (fun h => .inl (.inr h)) .inr))) (H4.out.2.2.tb HP.out H4.out.2.2.hb.size ht5 hI5)))
            obtain ⟨e0, e1, e2⟩ := evP_cells w3 p1 p2 p3 31
            have hbk := ht5.block w3.heap.size (by simp) hnG
            have f0 : w5.cell? ⟨w3.heap.size, 0, none⟩ = some (.int .i64 p1) := (World.cell?_of_block hbk).trans e0
            have f1 : w5.cell? ⟨w3.heap.size, 1, none⟩ = some (.int .i64 p2) := (World.cell?_of_block hbk).trans e1
            have f2 : w5.cell? ⟨w3.heap.size, 2, none⟩ = some (.int .i64 p3) := (World.cell?_of_block hbk).trans e2
            clear ht5 hI5 hnG e0 e1 e2 hbk
            have ha5 : Below w5.heap.size w5 (w5.alloc (.cells #[.int .i64 p1, .int .i64 p2, .int .i64 p3] 31)) := (Below.refl _ _).alloc (Nat.le_refl _) _
            have H6 := Lib.hid (And.intro (H5.out.1.bl ha5) (And.intro (H5.out.2.1.bl ha5) (H5.out.2.2.bl HP.out H5.out.2.2.hb.size ha5)))
            have g0 := (ha5.cell (p := ⟨w3.heap.size, 0, none⟩) (World.block_lt_of_cell? _ _ f0)).trans f0
            have g1 := (ha5.cell (p := ⟨w3.heap.size, 1, none⟩) (World.block_lt_of_cell? _ _ f1)).trans f1
            have g2 := (ha5.cell (p := ⟨w3.heap.size, 2, none⟩) (World.block_lt_of_cell? _ _ f2)).trans f2
            obtain ⟨k0, k1, k2⟩ := evP_cells w5 p1 p2 p3 31
            obtain ⟨ad1, X, rfl, hX, x0, x1, x2⟩ := H6.out.1.row.parts.2.2.2.2 s hsi _ HNe.out.2
            obtain ⟨ad2, Y, rfl, hY, z0, z1, z2⟩ := H6.out.2.1.row.parts.2.2.2.2 s hsi _ HNe.out.2
            dsimp only at x0 x1 x2 z0 z1 z2
            clear f0 f1 f2 ha5
            go_wp2_with fail
            go_quiet (fail)
            go_wp2_with fail
            have hq := below_dq (B := (w5.alloc (.cells #[.int .i64 p1, .int .i64 p2, .int .i64 p3] 31)).heap.size) (w5.alloc (.cells #[.int .i64 p1, .int .i64 p2, .int .i64 p3] 31)) nq
            exact ⟨⟨s + 1, F3, G5, by go_num, hsi, H6.out.1.bl hq, H6.out.2.1.bl hq, H6.out.2.2.bl HP.out H6.out.2.2.hb.size hq⟩, by simp [intOf]; omega⟩
          · obtain rfl : s = i := by omega
            have s1 : ¬ (s : Int) < s := by omega
            go_wp2_with fail
            with_reducible refine (HSu.out _).mono ?_
            rintro x w9 ⟨rfl, hb9⟩
            have H9 := Lib.hid (HT.out.2.2.hb.trans (hb9.mono HT.out.2.2.hb.size))
            clear hb9
            go_wp2_with fail
            go_ret
            exact ⟨rfl, H9.out⟩
end Go.Proofs.Ytkihfafkglkjnaa

/- Contract: Text. -/
import Derived.Test.YtbeehedppofpnaaGreatDoorBkTl
import Derived.Test.YtbeehedppofpnaaGreatDoorBkCm
namespace Go.Proofs.YtbeehedppofpnaaGreatDoor
open Go.RowKit

theorem Bd.below {B b : Nat} {l : Tx} {w w' : World} (h : Bd B b l w) (hb : Below w.heap.size w w') : Bd B b l w' :=
  h.grown (row := none) ⟨hb.os, hb.tape, hb.output, hb.size, fun k hk _ => hb.block k hk⟩ fun g hg => by cases hg
theorem lay_len9 : ∀ (l : List Tx) (b : Nat), (∀ p ∈ l, p.length ≤ b) → (lay l).length ≤ l.length * (b + 1)
  | [], _, _ => Nat.zero_le _
  | p :: l, b, h => by
    have ih := lay_len9 l b fun q hq => h q (by simp [hq])
    have hp := h p (by simp)
    rw [show lay (p :: l) = lay [p] ++ lay l from lay_append [p] l, lay_one, List.length_append, List.length_append, List.length_cons, List.length_cons, List.length_nil, Nat.succ_mul]
    omega
/-- The text of the first k blocks; with i of the next one's fields. -/
def tx0 (L : List MB) (k : Nat) : Tx := lay ((L.take k).flatMap fun b => linesB (zB b))
def tx1 (T : Tx) (b : MB) (i : Nat) : Tx := T ++ lay ((defineT ++ [32] ++ b.2.1 ++ [32, 123]) :: ((b.2.2.take i).map fun f => [32, 32] ++ lineF (zF f)))
theorem tx0_all (L : List MB) : tx0 L L.length = textB (L.map zB) := by
  unfold tx0 textB
  rw [List.take_length, List.flatMap_map]
theorem tx1_zero (T : Tx) (b : MB) : T ++ (defineT ++ [32] ++ b.2.1 ++ [32, 123, 10]) = tx1 T b 0 := by
  unfold tx1
  rw [List.take_zero, List.map_nil, lay_one]
  simp
theorem tx1_succ (T : Tx) (b : MB) (i : Nat) (h : i < b.2.2.length) : tx1 T b i ++ ([32, 32] ++ lineF (zF b.2.2[i]) ++ [10]) = tx1 T b (i + 1) := by
  unfold tx1
  rw [List.take_succ_eq_append_getElem h, List.map_append, List.map_cons, List.map_nil, ← List.cons_append, lay_append, lay_one]
  simp
theorem tx1_end (L : List MB) (k : Nat) (h : k < L.length) : tx1 (tx0 L k) L[k] L[k].2.2.length ++ [125, 10] = tx0 L (k + 1) := by
  unfold tx1 tx0
  rw [List.take_succ_eq_append_getElem h, List.flatMap_append, lay_append, List.take_length, List.flatMap_cons, List.flatMap_nil, List.append_nil, List.append_assoc]
  congr 1
  unfold linesB zB
  rw [lay_append, List.map_map, lay_one]
  rfl
theorem lineF_len (f : MF) : (lineF (zF f)).length ≤ f.2.1.length + f.2.2.length + 1 := by
  unfold lineF
  split
  · have : (zF f).2 = f.2 := rfl
    rw [this]; omega
  · have : (zF f).2 = f.2 := rfl
    rw [this]
    simp
    omega
theorem tx1_len (T : Tx) (b : MB) (hs : Smal 9000 b) (i : Nat) : (tx1 T b i).length ≤ T.length + 9020 + i * 18100 := by
  unfold tx1
  have h1 := hs.fields
  rw [List.length_append]
  show T.length + (lay (_ :: _)).length ≤ _
  rw [show (∀ (x : Tx) (l : List Tx), lay (x :: l) = lay [x] ++ lay l) from fun x l => lay_append [x] l, lay_one, List.length_append]
  have hh : (defineT ++ [32] ++ b.2.1 ++ [32, 123] ++ [10]).length ≤ 9020 := by
    simp [defineT]
    omega
  have h2 := lay_len9 ((b.2.2.take i).map fun f => [32, 32] ++ lineF (zF f)) 18050 (fun p hp => by
    obtain ⟨f, hf, rfl⟩ := List.mem_map.1 hp
    have := h1.2.2 f (List.mem_of_mem_take hf)
    have := lineF_len f
    simp
    omega)
  have h3 : ((b.2.2.take i).map fun f => [32, 32] ++ lineF (zF f)).length ≤ i := by rw [List.length_map, List.length_take]; omega
  have h4 := Nat.mul_le_mul_right 18051 h3
  omega
/-- What Text answers. -/
def TxP (L : List MB) (w : World) (e : Ending) (w' : World) : Prop := e = .returned (.tuple #[.string (str (textT (L.map zB)).1), errE (textT (L.map zB)).2]) ∧ Below w.heap.size w w'
theorem txP {L : List MB} {w w' : World} {T : Tx} {k : Nat} {S : ByteArray} {v : Value} (h : textT (L.map zB) = (T, k)) (hS : S = str T) (hv : v = errE k) (hb : Below w.heap.size w w') : TxP L w (.returned (.tuple #[.string S, v])) w' := ⟨by rw [h, hS, hv], hb⟩
theorem any_zB (L : List MB) (p : Bk → Bool) : (L.map zB).any p = L.any fun b => p (zB b) := by rw [List.any_map]; rfl
/-- check's number is Text's. -/
theorem chk_text (L : List MB) (hl : L.length ≤ 1024) : if chkN L = 0 then textT (L.map zB) = (if (L.map zB).any longB = true ∨ 65536 < (textB (L.map zB)).length then ([], 2) else (textB (L.map zB), 0)) else textT (L.map zB) = ([], chkN L) := by
  have e1 : ((L.map zB).any fun b => !wordT b.2.1 || b.2.2.any fun f => !wordT f.2.1) = L.any misM := by
    rw [any_zB]
    congr 1
    funext b
    unfold misM zB
    rw [List.any_map]
    rfl
  have e2 : ((L.map zB).any fun b => b.2.2.any badV) = L.any badM := by
    rw [any_zB]
    congr 1
    funext b
    unfold badM zB
    rw [List.any_map]
    rfl
  have e3 : ((L.map zB).any fun b => twice b.2.2) = L.any twM := by rw [any_zB]; rfl
  have e4 : ((L.map zB).any fun b => decide (64 < b.2.2.length)) = L.any ovM := by
    rw [any_zB]
    congr 1
    funext b
    unfold ovM zB
    rw [List.length_map]
  unfold textT chkN
  rw [e1, e2, e3, e4, List.length_map, if_neg (show ¬ 1024 < L.length by omega)]
  generalize L.any misM = b1
  generalize L.any badM = b2
  generalize L.any twM = b3
  generalize L.any ovM = b4
  cases b1 <;> cases b2 <;> cases b3 <;> cases b4 <;> simp
theorem tx0_le (L : List MB) (k : Nat) : (tx0 L k).length ≤ (textB (L.map zB)).length := by
  rw [← tx0_all]
  unfold tx0
  rw [List.take_length]
  have h := List.take_append_drop k L
  have : lay (L.flatMap fun b => linesB (zB b)) = lay ((L.take k).flatMap fun b => linesB (zB b)) ++ lay ((L.drop k).flatMap fun b => linesB (zB b)) := by
    rw [← lay_append, ← List.flatMap_append, h]
  rw [this, List.length_append]
  exact Nat.le_add_right _ _
theorem long_at (L : List MB) (a i : Nat) (ha : a < L.length) (hi : i < L[a].2.2.length) (h : 4096 < (lineF (zF L[a].2.2[i])).length) : (L.map zB).any longB = true := by
  rw [any_zB, List.any_eq_true]
  refine ⟨_, List.getElem_mem ha, ?_⟩
  unfold longB zB
  rw [List.any_map, List.any_eq_true]
  exact ⟨_, List.getElem_mem hi, by simpa using h⟩
theorem long_no (b : MB) (h : ∀ f ∈ b.2.2, ¬ 4096 < (lineF (zF f)).length) : longB (zB b) = false := by
  unfold longB zB
  rw [List.any_map, List.any_eq_false]
  intro f hf
  simpa using h f hf
/-- Text's state: the builder holds T. -/
structure TxS (w wr : World) (T : Tx) : Prop where
  below : Below w.heap.size w wr
  bd : Bd w.heap.size w.heap.size T wr
theorem TxS.quiet {w wr w' : World} {T : Tx} (h : TxS w wr T) (hb : Below wr.heap.size wr w') : TxS w w' T := ⟨h.below.trans (hb.mono h.below.size), h.bd.below hb⟩
theorem TxS.wrote {w wr w' : World} {T T' : Tx} (h : TxS w wr T) (hb : Bd w.heap.size w.heap.size T' w') (hk : Kept w.heap.size w.heap.size wr w') : TxS w w' T' := ⟨h.below.trans hk.1, hb⟩
theorem TxS.cells {w wr w' : World} {T : Tx} (h : TxS w wr T) (hk : Kept w.heap.size w.heap.size wr w') {g : Nat} {cs : Array Value} {e : TypeId} {fr : Nat × Nat} (hg : wr.heap[g]? = some (.cells cs e fr)) (h1 : e ≠ 80) (h2 : e ≠ 5) : w'.heap[g]? = some (.cells cs e fr) := by
  obtain ⟨_, p0, v0, _, hblk⟩ := h.bd.block
  refine block_beside hg hk ?_ h2
  rintro rfl
  rw [hg] at hblk
  injection hblk with hblk
  injection hblk with _ hblk
  exact h1 hblk
theorem write_any (w : World) (T t T' : Tx) (ht : T ++ t = T') (hl : T'.length ≤ 100000000) : Hid (∀ W S, TxS w W T → S = str t → Calls Tryz.prog 27 #[.pointer (some ⟨w.heap.size, 0, none⟩), .string S] W fun e w' => ∃ v, e = .returned v ∧ TxS w w' T' ∧ Kept w.heap.size w.heap.size W w') := fun W S h hS => by
  subst hS ht
  rw [List.length_append] at hl
  refine (bdWrite w.heap.size w.heap.size T t t.length W rfl h.bd (by omega) h.below.size).mono ?_
  rintro e w' ⟨v, rfl, h1, h2⟩
  exact ⟨v, rfl, h.wrote h1 h2, h2⟩
set_option maxHeartbeats 4000000 in
set_option maxRecDepth 100000 in
theorem text_any (v : Value) (L : List MB) (w : World) (hl : L.length ≤ 1024) (hs : ∀ b ∈ L, Smal 9000 b) (hv : RowB w v L) :
    Calls Tryz.prog 13 #[v] w (TxP L w) := by
  have HC := Lib.hid (check_any v L w hl hs hv)
  obtain ⟨A, c, rfl, hr⟩ := hv.form
  have hc1 := hr.parts.2.1
  have hc2 := hr.parts.2.2.1
  have HT := chk_text L (by omega)
  obtain ⟨n, hn⟩ : ∃ n, L.length = n := ⟨_, rfl⟩
  by_cases hk : chkN L = 0
  · have HC0 : Hid (Calls Tryz.prog 26 #[.slice A n c] w fun e w' => e = .returned .nilIface ∧ Below w.heap.size w w') := by
      have h := HC.out
      unfold ChP at h
      rw [hk, hn] at h
      exact h
    rw [if_pos hk] at HT
    have HTT := Lib.hid HT
    have HRow := Lib.hid hr
    have HN := Lib.hid (And.intro hn hs)
    rw [hn] at hr hl hc1 ⊢
    clear HC HT hk hr hs hv hn
    go_enter Tryz.func13, Tryz.ntmps13
    go_wp2_with fail
    refine HC0.out.mono ?_
    rintro e w1 ⟨rfl, hb⟩
    have HB1 := Lib.hid hb
    have HR1 := Lib.hid (HRow.out.below hb)
    clear hb
    go_wp2_with fail
    have hs0 : TxS w1 (w1.alloc (.cells #[.pointer none, .slice none 0 0] 80)) (tx0 L 0) := ⟨(Below.refl _ w1).alloc (Nat.le_refl _) _, Lib.IsBuilderF.of (Lib.fresh_isBuilder 80 5 w1)⟩
    have HS0 := Lib.hid hs0
    clear hs0
    go_loopw [18] (fun i wr => ∃ a : Nat, i = .int .i64 a ∧ a ≤ n ∧ TxS w1 wr (tx0 L a) ∧ (tx0 L a).length ≤ 65536 ∧ ∀ b ∈ L.take a, longB (zB b) = false) (fun i _ => n - (intOf i).toNat)
    case atStart => exact ⟨0, rfl, Nat.zero_le _, HS0.out, Nat.zero_le _, fun b hb => by rw [List.take_zero] at hb; cases hb⟩
    case round =>
      obtain ⟨a, rfl, ha, hst, hT5, hno⟩ := hrel
      have HS := Lib.hid (And.intro hst (And.intro hT5 hno))
      clear hT5 hno
      rcases Nat.lt_or_ge a n with hlt | hge
      · have hal : a < L.length := by rw [HN.out.1]; exact hlt
        obtain ⟨b, hbe⟩ : ∃ b, L[a] = b := ⟨_, rfl⟩
        have hbq : L[a]? = some b := by rw [List.getElem?_eq_getElem hal, hbe]
        have hr1 := HR1.out
        rw [HN.out.1] at hr1
        obtain ⟨ad, X, vR, rfl, hX, g0, g1, g2, hrf⟩ := hr1.parts.2.2.2 a hlt b hbq
        obtain ⟨AR, cR, rfl, hrf'⟩ := hrf.form
        replace g0 := cell9_below g0 hst.below
        replace g1 := cell9_below g1 hst.below
        replace g2 := cell9_below g2 hst.below
        have hsm : Smal 9000 b := HN.out.2 b (List.mem_of_getElem? hbq)
        obtain ⟨m, hm⟩ : ∃ m, b.2.2.length = m := ⟨_, rfl⟩
        have hm6 : m ≤ 80 := by rw [← hm]; exact hsm.1
        have hrm := hrf'.parts
        rw [hm] at g2 hrm
        have hcR1 := hrm.2.1
        have hcR2 := hrm.2.2.1
        have q0 : (0 : Int) ≤ a := by omega
        have q1 : (a : Int) < n := by omega
        obtain ⟨K, hK⟩ : ∃ K, str b.2.1 = K := ⟨_, rfl⟩
        rw [hK] at g1
        have hsK : K.size ≤ 9000 := by rw [← hK]; exact hsm.fields.2.1
        have HW1 := write_any w1 (tx0 L a) _ _ (tx1_zero (tx0 L a) b) (by have := tx1_len (tx0 L a) b hsm 0; have := HS.out.2.1; omega)
        have HKs : Hid (str (defineT ++ [32]) ++ K ++ str [32] ++ str [123] ++ str [10] = str (defineT ++ [32] ++ b.2.1 ++ [32, 123, 10])) := by
          unfold Hid
          rw [← hK, str_cat, str_cat, str_cat, str_cat]
          congr 1
          simp
        have HM := Lib.hid (And.intro hsm (And.intro hm (And.intro hrf' (And.intro hbe hal))))
        clear hr1 hrf hrf' hsm hm hbq hbe hrm hst hK
        go_wp2_with fail
        have hbk0 : (wr.alloc (.cells #[.int .i64 b.1, .string K, .slice AR m cR] 46)).heap[wr.heap.size]? = some (.cells #[.int .i64 b.1, .string K, .slice AR m cR] 46 (0, 0)) := (MapKept.heap_alloc wr _).1
        have hst0 := HS.out.1.quiet ((Below.refl _ _).alloc (Nat.le_refl _) (.cells #[.int .i64 b.1, .string K, .slice AR m cR] 46))
        have H0 := Lib.hid (And.intro hst0 hbk0)
        clear hst0 hbk0
        refine (HW1.out _ _ H0.out.1 HKs.out).mono ?_
        rintro e w3 ⟨v, rfl, h3, hk3⟩
        have H3 := Lib.hid (And.intro h3 (H0.out.1.cells hk3 H0.out.2 (by decide) (by decide)))
        have c2 := cell9_blk H3.out.2 2 (v := .slice AR m cR) rfl
        clear h3 hk3 H0 g0 g1 g2
        go_wp2_with fail
        go_loopw [32] (fun i wi => ∃ k : Nat, i = .int .i64 k ∧ k ≤ m ∧ TxS w1 wi (tx1 (tx0 L a) b k) ∧ (∀ f ∈ b.2.2.take k, ¬ 4096 < (lineF (zF f)).length)) (fun i _ => m - (intOf i).toNat)
        case atStart => exact ⟨0, rfl, Nat.zero_le _, H3.out.1, fun f hf => by rw [List.take_zero] at hf; cases hf⟩
        case round =>
          obtain ⟨k, rfl, hk, hst, hno⟩ := hrel
          have HI := Lib.hid (And.intro hst hno)
          clear hno
          rcases Nat.lt_or_ge k m with hkm | hkm
          · have hkl : k < b.2.2.length := by rw [HM.out.2.1]; exact hkm
            obtain ⟨f, hf⟩ : ∃ f, b.2.2[k] = f := ⟨_, rfl⟩
            have hrw := HM.out.2.2.1.below hst.below
            rw [HM.out.2.1] at hrw
            obtain ⟨ad2, X2, rfl, hX2, f0, f1, f2⟩ := hrw.parts.2.2.2 k hkm f (by rw [List.getElem?_eq_getElem hkl, hf])
            have hfs := HM.out.1.fields.2.2 f (by rw [← hf]; exact List.getElem_mem hkl)
            have p0 : (0 : Int) ≤ k := by omega
            have p1 : (k : Int) < m := by omega
            have HTl := Lib.hid (fun W => tell_any f W (by omega) (by omega))
            have hsc := tx1_succ (tx0 L a) b k hkl
            rw [hf] at hsc
            have HW2 := write_any w1 (tx1 (tx0 L a) b k) _ _ hsc (by have := tx1_len (tx0 L a) b HM.out.1 (k + 1); have := HS.out.2.1; omega)
            have HLs : Hid (str [32, 32] ++ str (lineF (zF f)) ++ str [10] = str ([32, 32] ++ lineF (zF f) ++ [10])) := by
              unfold Hid
              rw [str_cat, str_cat]
            obtain ⟨N1, hN1⟩ : ∃ x, str f.2.1 = x := ⟨_, rfl⟩
            obtain ⟨N2, hN2⟩ : ∃ x, str f.2.2 = x := ⟨_, rfl⟩
            rw [hN1] at f1
            rw [hN2] at f2
            unfold TeP at HTl
            rw [hN1, hN2] at HTl
            have hsz : (str (lineF (zF f))).size = (lineF (zF f)).length := rfl
            have hll : (lineF (zF f)).length ≤ 20000 := by have := lineF_len f; omega
            have HF := Lib.hid (And.intro hkl hf)
            have HG : Hid (4096 < (lineF (zF f)).length → (L.map zB).any longB = true) := fun h => by
              obtain ⟨_, _, _, h5, h6⟩ := HM.out
              subst h5
              exact long_at L a k h6 hkl (by rw [hf]; exact h)
            obtain ⟨LS, hLS⟩ : ∃ x, str (lineF (zF f)) = x := ⟨_, rfl⟩
            rw [hLS] at HTl HLs hsz
            obtain ⟨ll, hlle⟩ : ∃ x, (lineF (zF f)).length = x := ⟨_, rfl⟩
            rw [hlle] at hsz hll HG
            have HLL := Lib.hid hlle
            clear hN1 hN2 hLS hlle hsc hfs hrw hf
            have hst4 := hst.quiet ((Below.refl _ _).alloc (Nat.le_refl _) (.cells #[.int .i64 f.1, .string N1, .string N2] 48))
            have H4 := Lib.hid hst4
            clear hst hst4
            by_cases hlong : 4096 < ll
            · have r1 : (4096 : Int) < ll := by omega
              go_wp2_with fail
              refine (HTl.out _).mono ?_
              rintro e w5 ⟨rfl, hb5⟩
              have H5 := Lib.hid (H4.out.quiet hb5)
              clear hb5
              go_wp2_with fail
              go_ret2
              exact txP (T := []) (k := 2) (by rw [HTT.out, if_pos (.inl (HG.out hlong))]) rfl rfl (HB1.out.trans (H5.out.below.mono HB1.out.size))
            · have r1 : ¬ (4096 : Int) < ll := by omega
              go_wp2_with fail
              refine (HTl.out _).mono ?_
              rintro e w5 ⟨rfl, hb5⟩
              have H5 := Lib.hid (H4.out.quiet hb5)
              clear hb5
              go_wp2_with fail
              refine (HW2.out _ _ H5.out HLs.out).mono ?_
              rintro e w6 ⟨v, rfl, h6, _⟩
              have H6 := Lib.hid h6
              clear h6
              go_wp2_with fail
              refine ⟨⟨k + 1, by go_num, hkm, H6.out, fun g hg => ?_⟩, by simp [intOf]; omega⟩
              rw [List.take_succ_eq_append_getElem HF.out.1, HF.out.2] at hg
              rcases List.mem_append.1 hg with hg | hg
              · exact HI.out.2 g hg
              · rw [List.mem_singleton.1 hg, HLL.out]
                exact hlong
          · obtain rfl : k = m := by omega
            have p1 : ¬ ((k : Int) < k) := by omega
            have HE : tx1 (tx0 L a) b k ++ [125, 10] = tx0 L (a + 1) := by
              obtain ⟨_, h4, _, h5, h6⟩ := HM.out
              subst h5
              rw [← h4]
              exact tx1_end L a h6
            have hlen : (tx0 L (a + 1)).length ≤ 10000000 := by
              rw [← HE, List.length_append]
              have := tx1_len (tx0 L a) b HM.out.1 k
              have := HS.out.2.1
              have h2 : ([125, 10] : Tx).length = 2 := rfl
              omega
            have HW3 := write_any w1 (tx1 (tx0 L a) b k) _ _ HE (by omega)
            have HLn := Lib.hid (fun W h => bdLen w1.heap.size w1.heap.size (tx0 L (a + 1)) W h (by omega))
            have HNo : Hid (∀ b ∈ L.take (a + 1), longB (zB b) = false) := fun c hc => by
              obtain ⟨_, h4, _, h5, h6⟩ := HM.out
              rw [List.take_succ_eq_append_getElem h6, h5] at hc
              rcases List.mem_append.1 hc with hc | hc
              · exact HS.out.2.2 c hc
              · rw [List.mem_singleton.1 hc]
                exact long_no b fun f hf => HI.out.2 f (by rw [← h4, List.take_length]; exact hf)
            have HBig : Hid (65536 < (tx0 L (a + 1)).length → 65536 < (textB (L.map zB)).length) := fun h => Nat.lt_of_lt_of_le h (tx0_le L (a + 1))
            obtain ⟨tl, htl⟩ : ∃ x, (tx0 L (a + 1)).length = x := ⟨_, rfl⟩
            have HTL := Lib.hid htl
            rw [htl] at HLn HBig hlen
            clear hst HE htl
            by_cases hbig : 65536 < tl
            · have r1 : (65536 : Int) < tl := by omega
              go_wp2_with fail
              refine (HW3.out _ _ HI.out.1 rfl).mono ?_
              rintro e w6 ⟨v, rfl, h6, _⟩
              have H6 := Lib.hid h6
              clear h6
              go_wp2_with fail
              refine (HLn.out _ H6.out.bd).mono ?_
              rintro e w7 ⟨rfl, rfl⟩
              go_wp2_with fail
              go_ret2
              exact txP (T := []) (k := 2) (by rw [HTT.out, if_pos (.inr (HBig.out hbig))]) rfl rfl (HB1.out.trans (H6.out.below.mono HB1.out.size))
            · have r1 : ¬ (65536 : Int) < tl := by omega
              go_wp2_with fail
              refine (HW3.out _ _ HI.out.1 rfl).mono ?_
              rintro e w6 ⟨v, rfl, h6, _⟩
              have H6 := Lib.hid h6
              clear h6
              go_wp2_with fail
              refine (HLn.out _ H6.out.bd).mono ?_
              rintro e w7 ⟨rfl, rfl⟩
              go_wp2_with fail
              exact ⟨⟨a + 1, by go_num, hlt, H6.out, by rw [HTL.out]; omega, HNo.out⟩, by simp [intOf]; omega⟩
      · obtain rfl : a = n := by omega
        have q1 : ¬ ((a : Int) < a) := by omega
        have HSt := Lib.hid (fun W h => bdString w1.heap.size w1.heap.size (tx0 L a) W h)
        clear hst
        go_wp2_with fail
        refine (HSt.out _ HS.out.1.bd HS.out.1.below.size).mono ?_
        rintro e w6 ⟨rfl, h6, h7⟩
        have H6 := Lib.hid (HS.out.1.wrote h6 h7)
        clear h6 h7
        go_wp2_with fail
        go_ret2
        refine txP (T := tx0 L a) (k := 0) ?_ rfl rfl (HB1.out.trans (H6.out.below.mono HB1.out.size))
        have h1 : tx0 L a = textB (L.map zB) := by rw [← HN.out.1]; exact tx0_all L
        rw [HTT.out, if_neg, h1]
        rintro (h | h)
        · rw [any_zB, List.any_eq_true] at h
          obtain ⟨b, hb, h⟩ := h
          have := HS.out.2.2 b (by rw [← HN.out.1, List.take_length]; exact hb)
          rw [h] at this
          cases this
        · have := HS.out.2.1
          rw [h1] at this
          omega
  · have HC0 : Hid (Calls Tryz.prog 26 #[.slice A n c] w fun e w' => e = .returned (errE (chkN L)) ∧ Below w.heap.size w w') := by
      have h := HC.out
      rw [hn] at h
      exact h
    rw [if_neg hk] at HT
    have HTT := Lib.hid HT
    rw [hn] at hl hc1 ⊢
    have hkn : chkN L ≠ 0 := hk
    generalize chkN L = K at *
    have HE : Hid (errE K = errK K) := if_neg hkn
    rw [HE.out] at HC0
    unfold errK at HC0
    clear HC HT hk hr hs hv hn hkn
    go_enter Tryz.func13, Tryz.ntmps13
    go_wp2_with fail
    refine HC0.out.mono ?_
    rintro e w1 ⟨rfl, hb⟩
    have HB1 := Lib.hid hb
    clear hb
    go_wp2_with fail
    go_ret2
    exact txP (T := []) (k := K) HTT.out rfl (by rw [HE.out]; rfl) HB1.out
end Go.Proofs.YtbeehedppofpnaaGreatDoor

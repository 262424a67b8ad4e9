/- Contract: ringsOf: a number for each place, which those have in common that lead to each other. -/
import Derived.Test.YthmklmilgcjmlaaDoorGrRh
import Derived.Test.YthmklmilgcjmlaaDoorGrIt
import Derived.Lib.SliceRun
namespace Go.Proofs.YthmklmilgcjmlaaDoor
open Go.RowKit
attribute [local go_sem] Oper.semAt_some

theorem bol_setCells (b : Nat) : ∀ (m o : Nat) (S : List Bool) (w : World), BolB b S w → S.length = o + m → BolB b (S.take o ++ List.replicate m false) (w.setCells b o (List.replicate m (.bool false))) ∧ VisK b none w (w.setCells b o (List.replicate m (.bool false)))
  | 0, o, S, w, h, hl => by
    rw [List.replicate_zero, List.append_nil, List.take_of_length_le (by omega)]
    exact ⟨h, VisK.refl _ _ _⟩
  | m + 1, o, S, w, h, hl => by
    rw [List.replicate_succ, List.replicate_succ]
    obtain ⟨h1, h2⟩ := bol_setCells b m (o + 1) (S.set o false) (w.setCell ⟨b, o, none⟩ (.bool false)) (h.set o false) (by rw [List.length_set]; omega)
    have e : (S.set o false).take (o + 1) = S.take o ++ [false] := by
      rw [List.take_succ_eq_append_getElem (by rw [List.length_set]; omega), List.getElem_set_self, List.take_set_of_le (Nat.le_refl _)]
    rw [e, List.append_assoc] at h1
    refine ⟨h1, (⟨rfl, rfl, rfl, by simp [World.setCell], fun k _ h3 _ => Below.heap_setCell w ⟨b, o, none⟩ _ k h3⟩ : VisK b none w (w.setCell ⟨b, o, none⟩ (.bool false))).trans h2 (.inl rfl)⟩
theorem zeroB (w : World) : (zeroValue 4).run Tryd.prog w = .ok (.bool false) w := by kernel_rfl
theorem clr_any (b n : Nat) (S : List Bool) (w : World) (h : BolB b S w) (hl : S.length = n) : ∃ W', (∀ ty, (Builtin.clear_ #[51] ty #[.slice (some ⟨b, 0, none⟩) n n]).run Tryd.prog w = .ok (.tuple #[]) W') ∧ BolB b (List.replicate n false) W' ∧ VisK b none w W' := by
  rcases Nat.eq_zero_or_pos n with rfl | hn
  · refine ⟨w, fun ty => by simp [Builtin.clear_, run_underlying Tryd.underlying51], ?_, VisK.refl _ _ _⟩
    rw [List.length_eq_zero_iff.1 hl] at h
    exact h
  · have hk := bol_setCells b n 0 S w h (by omega)
    rw [List.take_zero, List.nil_append] at hk
    refine ⟨_, fun ty => Lib.run_clear_slice w 51 4 ty (.bool false) Tryd.underlying51 zeroB rfl rfl b 0 n n hn (fun j hj => ?_) (fun j _ => by rw [Nat.zero_add]; exact h.frz j), hk.1, hk.2⟩
    rw [Nat.zero_add, h.load (List.getElem?_eq_getElem (by omega))]
    rfl
theorem VisK.bx {bs : Nat} {ob : Option Nat} {w w' : World} {B : Nat} {t : TypeId} {v : Value} (h : VisK bs ob w w') (hB : Bx w B t v) (h1 : B ≠ bs) (h2 : ob ≠ some B) : Bx w' B t v := (h.block B hB.lt h1 h2).trans hB
/-- Between two rounds of the second going: m of the order are not yet gone on from. -/
structure RgI (U5 : World) (M : Wt) (n c6 br c10 : Nat) (A : Option Addr) (c : Nat) (L : List Nat) (U m : Nat) (S : Nat → Prop) (V : World) : Prop where
  vk : VisK (c6 + 1) none U5 V
  ex : ∃ T R, BolB (c6 + 1) T V ∧ IntB br R V ∧ Rg (eM M) n T R (L.drop m)
  b10 : Bx V c10 30 (.slice (some ⟨br, 0, none⟩) n n)
  own : V.ownsRow U5.heap.size 3 1 (.slice A n c) n (L.map intC)
  low : ∀ k, S k → U ≤ k
  big : U ≤ V.heap.size
/-- Where these lie. -/
structure RgP (U5 : World) (n c6 br c10 : Nat) (A : Option Addr) (c U : Nat) : Prop where
  s5 : U5.heap.size = c6 + 3
  br3 : c6 + 3 ≤ br
  brU : br < U
  cU : c10 < U
  c3 : br < c10
  own : ∀ b, (Value.slice A n c).ownBlock = some b → b < br
theorem RgI.turned {U5 : World} {M : Wt} {n c6 br c10 : Nat} {A : Option Addr} {c : Nat} {L : List Nat} {U m : Nat} {S T : Nat → Prop} {V V' : World} (p : RgP U5 n c6 br c10 A c U) (h : RgI U5 M n c6 br c10 A c L U m S V) (ht : Turns S T V V') : RgI U5 M n c6 br c10 A c L U m T V' := by
  have hbig := h.big
  have hsame : ∀ k, k < U → V'.heap[k]? = V.heap[k]? := fun k hk => ht.same k (by omega) (fun hs => by have := h.low k hs; omega)
  have h1 := p.s5
  have h2 := p.br3
  have h3 := p.brU
  obtain ⟨T1, R1, e1, e2, e3⟩ := h.ex
  refine ⟨⟨ht.os.trans h.vk.os, ht.tape.trans h.vk.tape, ht.output.trans h.vk.output, Nat.le_trans h.vk.size ht.size, fun k h4 h5 h6 => (hsame k (by omega)).trans (h.vk.block k h4 h5 h6)⟩, ⟨T1, R1, (hsame _ (by omega)).trans e1, (hsame _ h3).trans e2, e3⟩, (hsame _ p.cU).trans h.b10, own_block9 h.own fun b hb => hsame b (by have := p.own b hb; omega), fun k hk => ?_, Nat.le_trans hbig ht.size⟩
  rcases ht.more k hk with h4 | h4
  · exact h.low k h4
  · omega
set_option maxRecDepth 100000 in
set_option maxHeartbeats 4000000 in
theorem rings_any (n : Nat) (v : Value) (M : Wt) (w : World) (hn : n ≤ 4096) (hM : Okw n M) (hl : M.length ≤ 1048576) (hv : RowW w v (cst M)) :
    Calls Tryd.prog 21 #[.int .i64 (n : Nat), v] w fun e w' => ∃ R br, e = .returned (.slice (some ⟨br, 0, none⟩) n n) ∧ IntB br R w' ∧ R.length = n ∧ Below w.heap.size w w' ∧ ∀ a b, a < n → b < n → (R[a]? = R[b]? ↔ ME (eM M) a b) := by
  refine (callsIn_wide (n := 0)).1 ?_
  refine callsIn_of_wp_marks Tryd.func21 rfl trivial ?_ rfl
  simp only [Tryd.ntmps21, List.size_toArray, List.length_cons, List.length_nil, Nat.reduceAdd, Nat.reduceSub, Array.replicate_succ, Array.replicate_zero, List.push_toArray, List.append_toArray, List.nil_append, List.cons_append]
  have HLe := Lib.hid (fun W (hb : Below w.heap.size w W) => show Calls Tryd.prog 23 #[.int .i64 (n : Nat), v, .int .i64 0, .int .i64 1] W fun r w' => ∃ g Z, r = .returned (.slice (some ⟨g, 0, none⟩) n n) ∧ NxO w' W.heap.size g (eM M) n Z ∧ Below W.heap.size W w' from leads_any n v M M 0 1 W hn hM hl (hv.below hb) (.inl ⟨rfl, rfl, rfl⟩))
  have HLb := Lib.hid (fun W (hb : Below w.heap.size w W) => show Calls Tryd.prog 23 #[.int .i64 (n : Nat), v, .int .i64 1, .int .i64 0] W fun r w' => ∃ g Z, r = .returned (.slice (some ⟨g, 0, none⟩) n n) ∧ NxO w' W.heap.size g (eM (rvM M)) n Z ∧ Below W.heap.size W w' from leads_any n v M (rvM M) 1 0 W hn (rv_ok hM) hl (hv.below hb) (.inr ⟨rfl, rfl, rfl⟩))
  have hmk := mkB_run n hn
  obtain ⟨ZB, hZB⟩ : ∃ Z, ((List.replicate n false).map Value.bool).toArray = Z := ⟨_, rfl⟩
  rw [hZB] at hmk
  have HMk := Lib.hid hmk
  have HZB := Lib.hid hZB
  have HM := Lib.hid (And.intro hM hl)
  have HVi := Lib.hid (fun (W0 : World) (B g : Nat) (Z : List Value) (N : Wt) (hN : Okw n N) (hNl : N.length ≤ 1048576) (hZ : NxO W0 B g (eM N) n Z) => visit_all W0 B g n Z (eM N) hn hZ (fun i hi z hz => eM_lt hN i hi z hz) (fun i => by have := eM_len N i; omega))
  have q0 : (0 : Int) ≤ n := by omega
  clear hM hl hv hmk hZB
  gi_wp2_with fail
  refine ⟨trivial, rfl, (callsIn_wide.2 (HLe.out w (Below.refl _ _))).mono ?_⟩
  rintro e V0 ⟨g, Z, rfl, hZ, hb0⟩
  have H0 := Lib.hid (And.intro hZ hb0)
  clear hZ hb0
  gi_wp2_with fail
  refine ⟨trivial, rfl, (callsIn_wide.2 (HLb.out V0 H0.out.2)).mono ?_⟩
  rintro e V1 ⟨g2, Z2, rfl, hZ2, hb1⟩
  obtain ⟨c6, hc6⟩ : ∃ x, V1.heap.size = x := ⟨_, rfl⟩
  obtain ⟨w3, hw3⟩ : ∃ x, V1.alloc (.cells #[.slice (some ⟨g2, 0, none⟩) n n] 44) = x := ⟨_, rfl⟩
  have hs3 : w3.heap.size = c6 + 1 := by rw [← hw3, World.size_alloc, hc6]
  obtain ⟨w4, hw4⟩ : ∃ x, w3.alloc (.cells ZB 4) = x := ⟨_, rfl⟩
  have hs4 : w4.heap.size = c6 + 2 := by rw [← hw4, World.size_alloc, hs3]
  have hmk3 := HMk.out w3
  rw [hs3, hw4] at hmk3
  obtain ⟨U5, hU5⟩ : ∃ x, w4.alloc (.cells #[.slice (some ⟨c6 + 1, 0, none⟩) n n] 51) = x := ⟨_, rfl⟩
  have hs5 : U5.heap.size = c6 + 3 := by rw [← hU5, World.size_alloc, hs4]
  have hb3 : Below V1.heap.size V1 U5 := by
    rw [← hU5, ← hw4, ← hw3]
    exact (((Below.refl _ _).alloc (Nat.le_refl _) _).alloc (by rw [World.size_alloc]; omega) _).alloc (by rw [World.size_alloc, World.size_alloc]; omega) _
  have hB6 : Bx U5 c6 44 (.slice (some ⟨g2, 0, none⟩) n n) := by
    rw [← hU5, ← hw4, ← hw3, ← hc6]
    exact ((Bx.new V1 _ _).alloc _).alloc _
  have hBb : BolB (c6 + 1) (List.replicate n false) U5 := by
    have h := (MapKept.heap_alloc w3 (.cells ZB 4)).1
    rw [hs3, hw4, ← HZB.out] at h
    have h2 : BolB (c6 + 1) (List.replicate n false) w4 := h
    rw [← hU5]
    exact h2.below ((Below.refl _ _).alloc (Nat.le_refl _) _)
  have hB7 : Bx U5 (c6 + 2) 51 (.slice (some ⟨c6 + 1, 0, none⟩) n n) := by
    rw [← hU5, ← hs4]
    exact Bx.new w4 _ _
  have hZ5 := (H0.out.1.below hb1).below hb3
  have HU := Lib.hid (And.intro hZ5 (And.intro (hZ2.below hb3) (And.intro hB6 (And.intro hBb (And.intro hB7 (And.intro hs5 (H0.out.2.trans ((hb1.trans (hb3.mono hb1.size)).mono H0.out.2.size))))))))
  have hws : w.heap.size ≤ c6 := by have := H0.out.2.size; have := hb1.size; omega
  clear hZ2 hb1 hb3 hB6 hBb hB7 hZ5 hs5
  gi_wp2_with fail
  gi_loopw [8, 24] (fun sv kv wr => ∃ (k : Nat) (S : List Bool) (L : List Nat) (lv : Value), lv = sv ∧ kv = .int .i64 k ∧ k ≤ n ∧ Vs (eM M) (List.range k) (List.replicate n false) [] S L ∧ BolB (c6 + 1) S wr ∧ wr.ownsRow U5.heap.size 3 1 lv L.length (L.map intC) ∧ VisK (c6 + 1) none U5 wr) (fun _ kv _ => n - (intOf kv).toNat)
  case atStart => exact ⟨0, _, [], _, rfl, rfl, Nat.zero_le _, .nil, HU.out.2.2.2.1, ⟨rfl, .inl ⟨rfl, rfl⟩⟩, VisK.refl _ _ _⟩
  case round =>
    obtain ⟨k, S, L, lv, rfl, rfl, hk, hV, hS, ho, hvk⟩ := hrel
    have b7 := (hvk.bx HU.out.2.2.2.2.1 (by omega) (fun e => by cases e)).cell
    by_cases hkn : k < n
    · have hSl : S.length = n := by rw [hV.ex.choose_spec.2.len]; simp
      have hcnt := hV.cnt
      rw [List.count_replicate] at hcnt
      simp at hcnt
      have hcall := HVi.out U5 w.heap.size g Z M HM.out.1 HM.out.2 (HU.out.1.base (Nat.le_refl _)) n k S L lv (c6 + 1) wr (by omega) hSl hkn (by omega) hvk (Aprt.typed HU.out.1 HU.out.2.2.2.1) hS ho
      have HC := Lib.hid hcall
      have HR := Lib.hid (And.intro hV (And.intro hvk ho))
      have r0 : (0 : Int) ≤ k := by omega
      have r1 : (k : Int) < n := by omega
      clear hV hS ho hvk hSl hcnt hcall
      gi_wp2_with fail
      refine ⟨trivial, rfl, (callsIn_wide.2 HC.out).mono ?_⟩
      rintro e w5 ⟨S5, L5, lv5, rfl, hV5, hs5, ho5, hk5, hn5⟩
      have H5 := Lib.hid (And.intro hV5 (And.intro hs5 (And.intro ho5 hk5)))
      clear hV5 hs5 ho5 hk5 hn5
      gi_wp2_with fail
      refine ⟨⟨k + 1, S5, L5, _, rfl, by go_num, hkn, ?_, H5.out.2.1, H5.out.2.2.1, ?_⟩, by simp [intOf]; omega⟩
      · rw [List.range_succ]
        exact HR.out.1.app H5.out.1
      · have h5 := H5.out.2.2.2
        have h2 := HR.out.2.1
        exact ⟨h5.os.trans h2.os, h5.tape.trans h2.tape, h5.output.trans h2.output, Nat.le_trans h2.size h5.size, fun b h3 h4 h6 => (h5.block b (Nat.lt_of_lt_of_le h3 h2.size) h4 (fun e => by have := (HR.out.2.2.lt b e).1; omega)).trans (h2.block b h3 h4 h6)⟩
    · obtain rfl : n = k := by omega
      have hwh := hV.whole
      obtain ⟨W2, hcl, hS2, hvk2⟩ := clr_any (c6 + 1) n S wr hS (by rw [hV.ex.choose_spec.2.len]; simp)
      have hlL : L.length = n := by
        have h1 := hV.cnt
        rw [hwh.2.2.2, List.count_replicate, List.count_replicate] at h1
        simpa using h1
      obtain ⟨A5, c5, hlv, h51, h52, _, _, h55⟩ := owns_form ho
      rw [hlL] at hlv ho h51
      subst hlv
      have hvkU : VisK (c6 + 1) none U5 W2 := hvk.trans hvk2 (.inl rfl)
      have ho2 : W2.ownsRow U5.heap.size 3 1 (.slice A5 n c5) n (L.map intC) := own_block9 ho fun b hb => hvk2.block b (ho.lt b hb).2 (fun e => by have := (ho.lt b hb).1; have := HU.out.2.2.2.2.2.1; omega) (fun e => by cases e)
      obtain ⟨W3, hmk3, hI3, hb3⟩ := IntB.make W2 n hn
      obtain ⟨br, hbr⟩ : ∃ x, W2.heap.size = x := ⟨_, rfl⟩
      rw [hbr] at hmk3 hI3
      obtain ⟨c10, hc10⟩ : ∃ x, W3.heap.size = x := ⟨_, rfl⟩
      obtain ⟨W4, hW4⟩ : ∃ x, W3.alloc (.cells #[.slice (some ⟨br, 0, none⟩) n n] 30) = x := ⟨_, rfl⟩
      have hs4' : W4.heap.size = c10 + 1 := by rw [← hW4, World.size_alloc, hc10]
      have hb34 : Below W3.heap.size W3 W4 := by rw [← hW4]; exact (Below.refl _ _).alloc (Nat.le_refl _) _
      have hb24 : Below W2.heap.size W2 W4 := hb3.trans (hb34.mono hb3.size)
      have hbrc : br < c10 := by rw [← hc10]; exact hI3.lt
      have hp : RgP U5 n c6 br c10 A5 c5 (c10 + 1) := ⟨HU.out.2.2.2.2.2.1, by rw [← HU.out.2.2.2.2.2.1, ← hbr]; exact hvkU.size, by omega, by omega, hbrc, fun b hb => by rw [← hbr]; exact (ho2.lt b hb).2⟩
      have hI : RgI U5 M n c6 br c10 A5 c5 L (c10 + 1) n (fun _ => False) W4 := by
        refine ⟨⟨hb24.os.trans hvkU.os, hb24.tape.trans hvkU.tape, hb24.output.trans hvkU.output, Nat.le_trans hvkU.size hb24.size, fun k h1 h2 h3 => (hb24.block k (Nat.lt_of_lt_of_le h1 hvkU.size)).trans (hvkU.block k h1 h2 h3)⟩, ⟨List.replicate n false, List.replicate n 0, hS2.below hb24, hI3.below hb34, ?_⟩, ?_, own_sameO ho2 hb24, fun k hk => hk.elim, by rw [hs4']; exact Nat.le_refl _⟩
        · rw [List.drop_eq_nil_of_le (by omega)]
          exact Rg.init (eM M) n
        · rw [← hW4, ← hc10]
          exact Bx.new W3 _ _
      have HBk := Lib.hid (backN_any A5 n c5)
      have HI := Lib.hid (And.intro hI (And.intro hp (And.intro hwh (And.intro hlL hs4'))))
      have r1 : ¬ (n : Int) < n := by omega
      clear hV hS ho hvk hwh hvk2 hS2 h51 h52 h55 hvkU ho2 hI3 hb3 hb34 hb24 hbrc hp hI hlL
      gi_wp2_with (simp only [hcl])
      refine ⟨trivial, rfl, (callsIn_wide.2 (HBk.out _)).mono ?_⟩
      rintro e W5 ⟨rfl, hb5, hx5⟩
      have HX := Lib.hid (And.intro hb5 hx5)
      clear hb5 hx5 hcl hmk3
      gi_wp2_with fail
      refine wpIn_deals2 (gf := 39) rfl (enters_of Tryd.func39 (by kernel_rfl) rfl) (enc1 := iC) (enc2 := fun k => iC (L.getD k 0)) (xs := (List.range n).reverse) (S0 := fun k => k = c10 + 1) (F := fun V => Rd V A5 (L.map intC)) ?S0 ?seq
        (fun S pre V => RgI U5 M n c6 br c10 A5 c5 L (c10 + 1) (n - pre.length) S V) (fun _ _ _ => False) ?stI ?stX ?IF ?start
        (fun x => { tmps := #[.int .i64 n, v, undef, undef, .slice none 0 0, .slice (some ⟨g, 0, none⟩) n n, .pointer (some ⟨c6, 0, none⟩), .pointer (some ⟨c6 + 2, 0, none⟩), .slice A5 n c5, u9, .pointer (some ⟨c10, 0, none⟩), undef, iC (L.getD x 0), undef, undef, .int .i64 n, v, .slice (some ⟨g, 0, none⟩) n n, .int .i64 n, v, .slice (some ⟨g2, 0, none⟩) n n, .int .i64 n, .slice (some ⟨c6 + 1, 0, none⟩) n n, .int .i64 n, .int .i64 n, .bool false, u26, u27, u28, u29, u30, u31, u32, .slice (some ⟨c6 + 1, 0, none⟩) n n, .int .i64 n, .slice (some ⟨br, 0, none⟩) n n, .slice A5 n c5, .func (.func 39) #[] #[.pointer (some ⟨c10 + 1, 0, none⟩)], iC x, iC (L.getD x 0), undef, undef, undef, undef, undef, undef, undef, undef, undef, undef, undef, undef, undef, undef, undef], defers := [] }) ?assign ?body ?done ?stop
      case S0 =>
        intro k hk
        have h1 := HX.out.2.lt
        rw [HI.out.2.2.2.2] at h1
        rw [hk]
        exact h1
      case seq =>
        intro V hb
        have hx := HX.out.2
        rw [HI.out.2.2.2.2] at hx
        exact backN_deals A5 c5 L n (c10 + 1) (fun k => k = c10 + 1) rfl V (fun k hk => by have e : k = c10 + 1 := hk; rw [e]; exact (hx.below hb).lt) HI.out.2.2.2.1 (by omega) (hx.below hb)
      case stI => exact fun S T s V V' h ht => h.turned HI.out.2.1 ht
      case stX => exact fun S T s V V' h ht => h
      case IF =>
        intro S s V h
        exact Rd.of_own h.own
      case start =>
        have h := HI.out.1
        have hb := HX.out.1
        obtain ⟨T1, R1, e1, e2, e3⟩ := h.ex
        exact ⟨⟨hb.os.trans h.vk.os, hb.tape.trans h.vk.tape, hb.output.trans h.vk.output, Nat.le_trans h.vk.size hb.size, fun k h1 h2 h3 => (hb.block k (Nat.lt_of_lt_of_le h1 h.vk.size)).trans (h.vk.block k h1 h2 h3)⟩, ⟨T1, R1, e1.below hb, e2.below hb, e3⟩, h.b10.below hb, own_sameO h.own hb, fun k hk => Nat.le_of_eq (Eq.symm hk), Nat.le_trans h.big hb.size⟩
      case assign =>
        intro l2 x V K hK
        gi_wp2_with fail
        exact hK
      case body =>
        intro l2 S pre x post V hx hlt h
        obtain ⟨hxn, hp1, hp2⟩ := rev_pos hx
        have hxL : x < L.length := by rw [HI.out.2.2.2.1]; exact hxn
        have hgx : L[x]? = some L[x] := List.getElem?_eq_getElem hxL
        have hgd : L.getD x 0 = L[x] := by rw [List.getD_eq_getElem?_getD, hgx]; rfl
        have hLx : L = L.take x ++ L[x] :: L.drop (x + 1) := by rw [← List.drop_eq_getElem_cons hxL, List.take_append_drop]
        have hdx : L.drop x = L[x] :: L.drop (x + 1) := List.drop_eq_getElem_cons hxL
        obtain ⟨p, hpe⟩ : ∃ p, L[x] = p := ⟨_, rfl⟩
        rw [hpe] at hgd hLx hdx
        have hpn : p < n := (HI.out.2.2.1.2.1 p).1 (by rw [← hpe]; exact List.getElem_mem hxL)
        rw [hp1] at h
        rw [hgd]
        have hP := HI.out.2.1
        obtain ⟨T, R, hT, hR, hRg⟩ := h.ex
        have hZV := HU.out.2.1.visk h.vk (Aprt.typed HU.out.2.1 HU.out.2.2.2.1)
        have hcnt : T.count false ≤ n := by have := List.count_le_length (a := false) (l := T); rw [hRg.lt] at this; exact this
        have hcall := HVi.out V V0.heap.size g2 Z2 (rvM M) (rv_ok HM.out.1) (by unfold rvM; rw [List.length_map]; exact HM.out.2) hZV n p T [] (.slice none 0 0) (c6 + 1) V hcnt hRg.lt hpn (by simp; omega) (VisK.refl _ _ _) (Aprt.typed hZV hT) hT ⟨rfl, .inl ⟨rfl, rfl⟩⟩
        have HC := Lib.hid hcall
        have d6 := (h.vk.bx HU.out.2.2.1 (by omega) (fun e => by cases e)).cell
        have d7 := (h.vk.bx HU.out.2.2.2.2.1 (by omega) (fun e => by cases e)).cell
        have HH := Lib.hid (And.intro h (And.intro hlt (And.intro hp2 (And.intro hLx (And.intro hdx (And.intro hR hRg))))))
        have p0 : (0 : Int) ≤ p := by omega
        have p1 : (p : Int) < n := by omega
        clear h hlt hx hp1 hp2 hgx hgd hLx hdx hT hR hRg hZV hcnt hcall hP hpe hxL
        unfold iC
        gi_wp2_with fail
        refine ⟨trivial, rfl, (CallsIn.inRound l2 (callsIn_wide.2 HC.out)).mono ?_⟩
        rintro e V2 ⟨T', P, lv', rfl, hVs, hT', hoP, hkP, _⟩
        obtain ⟨AP, cP, hlv, _, _, _, _, hAP⟩ := owns_form hoP
        obtain ⟨pl, hpl⟩ : ∃ l, P.length = l := ⟨_, rfl⟩
        rw [hpl] at hlv hoP
        subst hlv
        have hPn : ∀ j ∈ P, j < n := fun j hj => by
          obtain ⟨Q, e, q⟩ := hVs.ex
          rw [List.nil_append] at e
          subst e
          have := q.lt hj
          rwa [HH.out.2.2.2.2.2.2.lt] at this
        have hI2 : IntB br R V2 := (hkP.block br HH.out.2.2.2.2.2.1.lt (by have := HI.out.2.1.br3; omega) (fun e => by cases e)).trans HH.out.2.2.2.2.2.1
        have hb10 := hkP.bx HH.out.1.b10 (by have := HI.out.2.1.br3; have := HI.out.2.1.c3; omega) (fun e => by cases e)
        have hbig := HH.out.1.big
        have hPr := HI.out.2.1
        have HP := Lib.hid (And.intro hVs (And.intro hT' (And.intro hoP (And.intro hkP (And.intro hpl (And.intro hPn (And.intro hI2 hb10)))))))
        have hpl9 : pl ≤ 1000000 := by
          have h1 := hVs.cnt
          have h2 := List.count_le_length (a := false) (l := T)
          rw [HH.out.2.2.2.2.2.2.lt] at h2
          simp only [List.length_nil] at h1
          omega
        have hbrV : br < V.heap.size := by have := hPr.brU; omega
        have hc10V : c10 < V.heap.size := by have := hPr.cU; omega
        have hcb : c10 ≠ br := by have := hPr.c3; omega
        have hb6 : br ≠ c6 + 1 := by have := hPr.br3; omega
        clear hVs hT' hoP hkP hpl hPn hI2 hb10 hAP hPr
        gi_wp2_with fail
        gi_loopw [45] (fun kv wr => ∃ i : Nat, kv = .int .i64 i ∧ i ≤ pl ∧ VisK br none V2 wr ∧ IntB br (setA R (P.take i) p) wr) (fun kv _ => pl - (intOf kv).toNat)
        case atStart => exact ⟨0, rfl, Nat.zero_le _, VisK.refl _ _ _, by rw [List.take_zero]; exact HP.out.2.2.2.2.2.2.1⟩
        case round =>
          obtain ⟨i, rfl, hi, hk2, hI2⟩ := hrel
          by_cases hip : i < pl
          · have hiP : i < P.length := by rw [HP.out.2.2.2.2.1]; exact hip
            obtain ⟨o, ho⟩ : ∃ o, P[i]? = some o := ⟨_, List.getElem?_eq_getElem hiP⟩
            have hoR : wr.ownsRow V.heap.size 3 1 (.slice AP pl cP) pl (P.map intC) := own_block9 HP.out.2.2.1 fun b hb => hk2.block b (HP.out.2.2.1.lt b hb).2 (fun e => by have := (HP.out.2.2.1.lt b hb).1; omega) (fun e => by cases e)
            obtain ⟨ae, o', rfl, ho', co⟩ := (RowN.owned HP.out.2.2.2.2.1 hoR).at9.2.2.2 i hip
            rw [ho] at ho'
            injection ho' with ho'
            subst ho'
            have hon : o < n := HP.out.2.2.2.2.2.1 o (List.mem_of_getElem? ho)
            have d10 := (hk2.bx HP.out.2.2.2.2.2.2.2 hcb (fun e => by cases e)).cell
            have fr := hI2.frz o
            have hIo : IntB br (setA R (P.take (i + 1)) p) (wr.setCell ⟨br, o, none⟩ (.int .i64 (p : Nat))) := by
              rw [setA_take ho]
              exact hI2.set o p
            have hko : VisK br none V2 (wr.setCell ⟨br, o, none⟩ (.int .i64 (p : Nat))) := ⟨hk2.os, hk2.tape, hk2.output, by have := hk2.size; simpa [World.setCell] using this, fun b h1 h2 h3 => (Below.heap_setCell wr _ _ b (fun e => h2 e)).trans (hk2.block b h1 h2 h3)⟩
            have cro := hI2.load (k := o) (List.getElem?_eq_getElem (by rw [setA_len, HH.out.2.2.2.2.2.2.lr]; exact hon))
            have HO := Lib.hid (And.intro hIo hko)
            have i0 : (0 : Int) ≤ i := by omega
            have i1 : (i : Int) < pl := by omega
            have o0 : (0 : Int) ≤ o := by omega
            have o1 : (o : Int) < n := by omega
            clear hk2 hI2 hoR ho hIo hko hiP
            gi_wp2_with fail
            exact ⟨⟨i + 1, by go_num, hip, HO.out.2, HO.out.1⟩, by simp [intOf]; omega⟩
          · obtain rfl : pl = i := by omega
            have i1 : ¬ (pl : Int) < pl := by omega
            have hall : P.take pl = P := List.take_of_length_le (by rw [HP.out.2.2.2.2.1]; exact Nat.le_refl _)
            rw [hall] at hI2
            have HO := Lib.hid (And.intro hk2 hI2)
            clear hk2 hI2 hall
            gi_wp2_with fail
            have hk1 := HP.out.2.2.2.1
            have hvV := HH.out.1.vk
            have hPr := HI.out.2.1
            refine ⟨⟨Nat.le_trans hk1.size HO.out.1.size, fun k hk => ?_⟩, ?_⟩
            · have h1 := HH.out.1.low k hk
              have h2 := HH.out.2.1 k hk
              exact (HO.out.1.block k (Nat.lt_of_lt_of_le h2 hk1.size) (by have := hPr.c3; omega) (fun e => by cases e)).trans (hk1.block k h2 (by have := hPr.br3; have := hPr.c3; omega) (fun e => by cases e))
            · show RgI U5 M n c6 br c10 A5 c5 L (c10 + 1) (n - (pre ++ [x]).length) S wr
              rw [HH.out.2.2.1]
              refine ⟨⟨HO.out.1.os.trans (hk1.os.trans hvV.os), HO.out.1.tape.trans (hk1.tape.trans hvV.tape), HO.out.1.output.trans (hk1.output.trans hvV.output), Nat.le_trans hvV.size (Nat.le_trans hk1.size HO.out.1.size), fun k h1 h2 h3 => ?_⟩, ⟨T', setA R P p, ?_, HO.out.2, ?_⟩, HO.out.1.bx HP.out.2.2.2.2.2.2.2 hcb (fun e => by cases e), ?_, HH.out.1.low, Nat.le_trans hbig (Nat.le_trans hk1.size HO.out.1.size)⟩
              · have := hPr.s5
                have := hPr.br3
                have h4 := hvV.size
                exact (HO.out.1.block k (by have := hk1.size; omega) (by omega) (fun e => by cases e)).trans ((hk1.block k (by omega) h2 (fun e => by cases e)).trans (hvV.block k h1 h2 h3))
              · exact (HO.out.1.block (c6 + 1) HP.out.2.1.lt (fun e => hb6 e.symm) (fun e => by cases e)).trans HP.out.2.1
              · rw [HH.out.2.2.2.2.1]
                exact Rg.step HM.out.1 HH.out.2.2.2.1 HI.out.2.2.1.1 HI.out.2.2.1.2.1 HI.out.2.2.1.2.2.1 HH.out.2.2.2.2.2.2 HP.out.1
              · refine own_block9 HH.out.1.own fun b hb => ?_
                have h1 := (HH.out.1.own.lt b hb)
                have h2 := hPr.own b hb
                have := hPr.s5
                exact (HO.out.1.block b (by have := hk1.size; omega) (by omega) (fun e => by cases e)).trans (hk1.block b h1.2 (by omega) (fun e => by cases e))
      case done =>
        intro D1 S V hlt hD h hd
        have hlen : (List.range n).reverse.length = n := by simp
        rw [hlen, Nat.sub_self] at h
        obtain ⟨T, R, hT, hR, hRg⟩ := h.ex
        rw [List.drop_zero] at hRg
        have d10 := h.b10.cell
        have hDl := h.low D1 hD
        have hPr := HI.out.2.1
        have hfin : ∀ a b, a < n → b < n → (R[a]? = R[b]? ↔ ME (eM M) a b) := fun a b ha hb => hRg.fin HI.out.2.2.1.2.1 ha hb
        have hbw : Below w.heap.size w V := HU.out.2.2.2.2.2.2.trans (h.vk.below (by omega) (fun b hb => by cases hb) (by have := hPr.s5; omega))
        have HF := Lib.hid (And.intro hR (And.intro hRg.lr (And.intro hfin (And.intro hbw (And.intro hd hDl)))))
        have hbrU := hPr.brU
        have hbr3 := hPr.br3
        have hc3 := hPr.c3
        clear h hT hR hRg hfin hbw hd hlt hD hlen hPr
        gi_wp2_with fail
        refine ⟨by simp, .inl ⟨_, _, rfl, run_takeDeferred HF.out.2.2.2.2.1, ?_⟩⟩
        refine ⟨_, results_tmp rfl _ _ _, R, br, rfl, (World.putObj_heap_other (by have := HF.out.2.2.2.2.2; omega)).trans HF.out.1, HF.out.2.1, ?_, HF.out.2.2.1⟩
        have hB := HF.out.2.2.2.1
        refine ⟨hB.os, hB.tape, hB.output, by rw [World.putObj_size]; exact hB.size, fun k hk => ?_⟩
        rw [World.putObj_heap_other (by have := HF.out.2.2.2.2.2; omega)]
        exact hB.block k hk
      case stop => exact fun D S pre V hlt hD h hd => h.elim
end Go.Proofs.YthmklmilgcjmlaaDoor

/- Contract: lookAt. -/
import Derived.Test.YthnogakjaaopkaaGreatDoorIhLv
namespace Go.Proofs.YthnogakjaaopkaaGreatDoor
open Go.RowKit

theorem results_tct {P : Program} {fn : Func} {a p u : Tmp} {ty : TypeId} (h : fn.results = #[.tmp a, .cell p ty, .tmp u]) (tmps : Array Value) (w : World) (g : Nat) (t : TypeId) (cs : Array Value) (fr : Nat × Nat) (d : TypeDesc)
    (hp : tmps[p]?.getD undef = .pointer (some ⟨g, 0, none⟩)) (hg : w.heap[g]? = some (.cells cs t fr))
    (hu : P.underlying ty = some d) (hd : (match d with | .struct _ | .array _ _ => true | _ => false) = true) (hi : (P.info? ty).map (·.size) = some cs.size) :
    (results fn tmps).run P w = .ok (.tuple #[tmps[a]?.getD undef, .agg cs, tmps[u]?.getD undef]) w := by
  simp only [results, h]
  simp [Result.andThen, hp, asAddr, run_loadVar_row w g t ty cs fr d hg hu hd hi]
/-- The lengths that all looks want. -/
def Szs (l : List MB) : Prop := l.length ≤ 1000000 ∧ (∀ b ∈ l, b.2.1.length ≤ 1000000 ∧ b.2.2.length ≤ 1000000 ∧ ∀ f ∈ b.2.2, f.2.1.length ≤ 1000000 ∧ f.2.2.length ≤ 900000) ∧ (allN l).length ≤ 1000000
def setC (lv x1 x2 x3 x4 : Value) : Obj := .cells #[lv, x1, x2, x3, x4] 67 (0, 0)
/-- What is known behind k looks. -/
def PhL (ps mb : Nat) (lv : Value) (l : List MB) : Nat → World → Prop
  | 0, V => V.heap[ps]? = some (setC lv (.map (some mb)) nilS nilS nilS) ∧ TIs V mb []
  | 1, V => V.heap[ps]? = some (setC lv (.map (some mb)) nilS nilS nilS) ∧ TIs V mb l ∧ fstB (wrgN l) 0 l = none
  | 2, V => ∃ bt Z, V.heap[ps]? = some (setC lv (.map (some mb)) (.slice (some ⟨bt, 0, none⟩) l.length l.length) nilS nilS) ∧ TmZ V bt Z l ∧ bt ≠ ps ∧ fstB (wrgN l) 0 l = none ∧ fstB (fun _ => wrgU l) 0 l = none
  | 3, V => ∃ bt Z rv R, V.heap[ps]? = some (setC lv (.map (some mb)) (.slice (some ⟨bt, 0, none⟩) l.length l.length) rv nilS) ∧ TmZ V bt Z l ∧ bt ≠ ps ∧ RowN V rv R ∧ WaR (edg l) l.length R (fun _ => false) ∧ fstB (wrgN l) 0 l = none ∧ fstB (fun _ => wrgU l) 0 l = none ∧ fstB (wrgL l) 0 l = none
  | _ + 4, V => ∃ x1 x2 x3 tt Zt, V.heap[ps]? = some (setC lv x1 x2 x3 (.slice (some ⟨tt, 0, none⟩) l.length l.length)) ∧ TbS V tt l Zt (fun j => j < l.length) ∧ chkI l = none ∧ ps < tt ∧ ∀ j, j < l.length → ∀ bj, Zt[j]? = some (.map (some bj)) → ps < bj
theorem PhL.below {ps mb k : Nat} {lv : Value} {l : List MB} {V V' : World} (h : PhL ps mb lv l k V) (hb : Below V.heap.size V V') : PhL ps mb lv l k V' := by
  have hs : ∀ {x}, V.heap[ps]? = some x → V'.heap[ps]? = some x := fun h => (hb.block ps (blk9_lt h)).trans h
  match k, h with
  | 0, h => exact ⟨hs h.1, h.2.below hb⟩
  | 1, h => exact ⟨hs h.1, h.2.1.below hb, h.2.2⟩
  | 2, ⟨bt, Z, h1, h2, h3⟩ => exact ⟨bt, Z, hs h1, h2.below hb, h3⟩
  | 3, ⟨bt, Z, rv, R, h1, h2, h3, h4, h5⟩ => exact ⟨bt, Z, rv, R, hs h1, h2.below hb, h3, h4.below hb, h5⟩
  | _ + 4, ⟨x1, x2, x3, tt, Zt, h1, h2, h3⟩ => exact ⟨x1, x2, x3, tt, Zt, hs h1, h2.below hb, h3⟩
def fnL : Nat → Nat
  | 0 => 27
  | 1 => 28
  | 2 => 29
  | _ => 30
theorem fnL_enters (k : Nat) : Ent1 (fnL k) := by
  match k with
  | 0 => exact enters_of Tryz.func27 (by kernel_rfl) rfl
  | 1 => exact enters_of Tryz.func28 (by kernel_rfl) rfl
  | 2 => exact enters_of Tryz.func29 (by kernel_rfl) rfl
  | _ + 3 => exact enters_of Tryz.func30 (by kernel_rfl) rfl
/-- What a look's call keeps. -/
def LkF (ps mb : Nat) (V V' : World) : Prop := V'.os = V.os ∧ V'.tape = V.tape ∧ V'.output = V.output ∧ V.heap.size ≤ V'.heap.size ∧ ∀ i, i < V.heap.size → i ≠ ps → i ≠ mb → V'.heap[i]? = V.heap[i]?
theorem lkF_of {ps mb g : Nat} {V V' : World} (hg : V.grownBy V' (some g)) (h : g = ps ∨ g = mb) : LkF ps mb V V' :=
  ⟨hg.os, hg.tape, hg.output, hg.size, fun i hi h1 h2 => hg.block i hi fun e => by injection e with e; omega⟩
theorem look_step (W0 : World) (ps mb : Nat) (lv : Value) (l : List MB) (k : Nat) (V : World) (hk : k < 4) (hs : Szs l) (hbel : Below W0.heap.size W0 V) (hps : W0.heap.size ≤ ps) (hmb : W0.heap.size ≤ mb) (hne : mb ≠ ps) (hE : ErrT W0) (hv : RowB W0 lv l) (h : PhL ps mb lv l k V) :
    Calls Tryz.prog (fnL k) #[.pointer (some ⟨ps, 0, none⟩)] V fun e V' => LkF ps mb V V' ∧ ((∃ r, chkI l = some r ∧ LkE (some r) e) ∨ (LkE none e ∧ PhL ps mb lv l (k + 1) V')) := by
  obtain ⟨hl, hf, hN⟩ := hs
  match k, h with
  | 0, ⟨h1, h2⟩ =>
    refine (lookNames_any W0 ps mb lv nilS nilS nilS l V hl (fun b hb => ⟨(hf b hb).1, (hf b hb).2.1, fun f hf2 => ((hf b hb).2.2 f hf2).2⟩) hbel hmb hE hv h1 h2 hne).mono ?_
    rintro e V' ⟨e1, e2, e3⟩
    refine ⟨lkF_of e2 (.inr rfl), ?_⟩
    cases hc : fstB (wrgN l) 0 l with
    | none =>
      rw [hc] at e1
      exact .inr ⟨e1, (e2.block ps (blk9_lt h1) (fun e => by injection e with e; exact hne e.symm)).trans h1, e3 hc, hc⟩
    | some r =>
      rw [hc] at e1
      exact .inl ⟨r, by unfold chkI; rw [hc]; rfl, e1⟩
  | 1, ⟨h1, h2, h3⟩ =>
    refine (lookUses_any W0 ps mb lv nilS nilS nilS l l.length V rfl hl (fun b hb => ⟨(hf b hb).1, (hf b hb).2.1, fun f hf2 => ((hf b hb).2.2 f hf2).2⟩) hbel hmb hps hE hv h1 h2 hne).mono ?_
    rintro e V' ⟨e1, e2, e3⟩
    refine ⟨lkF_of e2 (.inl rfl), ?_⟩
    cases hc : fstB (fun _ => wrgU l) 0 l with
    | none =>
      rw [hc] at e1
      obtain ⟨bt, Z, f1, f2, f3, f4, f5⟩ := e3 hc
      have hbp : bt ≠ ps := by have := blk9_lt h1; omega
      exact .inr ⟨e1, bt, Z, f2, ⟨f3, f4, f5⟩, hbp, h3, hc⟩
    | some r =>
      rw [hc] at e1
      exact .inl ⟨r, by unfold chkI; rw [h3, hc]; rfl, e1⟩
  | 2, ⟨bt, Z, h1, h2, h3, h4, h5⟩ =>
    refine (lookLoops_any W0 ps mb bt lv nilS nilS Z l l.length V rfl hl (fun b hb => (hf b hb).2.1) hbel hps hE hv h1 h2).mono ?_
    rintro e V' ⟨e1, e2, e3⟩
    refine ⟨lkF_of e2 (.inl rfl), ?_⟩
    cases hc : fstB (wrgL l) 0 l with
    | none =>
      rw [hc] at e1
      obtain ⟨rv, R, f1, f2, f3, f4⟩ := e3 hc
      obtain ⟨A, c, rfl, hr⟩ := hv.form
      exact .inr ⟨e1, bt, Z, rv, R, f1, h2.grown e2 h3 (set_noint h1), h3, f2, f3, h4, h5, hc⟩
    | some r =>
      rw [hc] at e1
      exact .inl ⟨r, by unfold chkI; rw [h4, h5, hc]; rfl, e1⟩
  | 3, ⟨bt, Z, rv, R, h1, h2, h3, h4, h5, h6, h7, h8⟩ =>
    refine (lookValues_any W0 ps mb bt lv rv R Z l l.length V rfl hl (fun b hb => ⟨(hf b hb).2.1, (hf b hb).2.2⟩) hN hbel hps hE hv h1 h2 h3 h4 h5).mono ?_
    rintro e V' ⟨e1, e2, e3⟩
    refine ⟨lkF_of e2 (.inl rfl), ?_⟩
    cases hc : fstB (wrgV l) 0 l with
    | none =>
      rw [hc] at e1
      obtain ⟨tt, Zt, f1, f2, f3, f4⟩ := e3 hc
      have hpl := blk9_lt h1
      exact .inr ⟨e1, _, _, _, tt, Zt, f1, f2, by unfold chkI; rw [h6, h7, h8, hc]; rfl, by omega, fun j hj bj hbj => by have := f4 j hj bj hbj; omega⟩
    | some r =>
      rw [hc] at e1
      exact .inl ⟨r, by unfold chkI; rw [h6, h7, h8, hc]; rfl, e1⟩
theorem lkF_below {w V V' : World} {ps mb : Nat} (h : LkF ps mb V V') (hb : Below w.heap.size w V) (h1 : w.heap.size ≤ ps) (h2 : w.heap.size ≤ mb) : Below w.heap.size w V' :=
  ⟨h.1.trans hb.os, h.2.1.trans hb.tape, h.2.2.1.trans hb.output, Nat.le_trans hb.size h.2.2.2.1, fun k hk => (h.2.2.2.2 k (Nat.lt_of_lt_of_le hk hb.size) (by omega) (by omega)).trans (hb.block k hk)⟩
/-- Between two looks. -/
structure LaI (w : World) (g : Nat) (lv : Value) (l : List MB) (k : Nat) (V : World) : Prop where
  bel : Below w.heap.size w V
  pl : V.heap[g]? = some (.cells #[.int .i64 0, .int .i64 0] 29 (0, 0))
  fns : V.heap[g + 1 + 1 + 1]? = some (.cells #[.func (.func 27) #[.pointer (some ⟨g + 1 + 1, 0, none⟩)] #[], .func (.func 28) #[.pointer (some ⟨g + 1 + 1, 0, none⟩)] #[], .func (.func 29) #[.pointer (some ⟨g + 1 + 1, 0, none⟩)] #[], .func (.func 30) #[.pointer (some ⟨g + 1 + 1, 0, none⟩)] #[]] 83 (0, 0))
  ph : PhL (g + 1 + 1) (g + 1) lv l k V
/-- What lookAt answers. -/
def LaE (lv : Value) (l : List MB) (e : Ending) (w' : World) : Prop := match chkI l with
  | some q => e = .returned (.tuple #[.pointer none, plV q.1 (q.2 : Nat), errK (q.2 : Nat)])
  | none => ∃ ps x1 x2 x3 tt Zt, e = .returned (.tuple #[.pointer (some ⟨ps, 0, none⟩), plV 0 0, .nilIface]) ∧ w'.heap[ps]? = some (setC lv x1 x2 x3 (.slice (some ⟨tt, 0, none⟩) l.length l.length)) ∧ TbS w' tt l Zt (fun j => j < l.length)
set_option maxRecDepth 100000 in
set_option maxHeartbeats 4000000 in
theorem lookAt_any (lv : Value) (l : List MB) (w : World) (hs : Szs l) (hE : ErrT w) (hv : RowB w lv l) :
    Calls Tryz.prog 19 #[lv] w fun e w' => LaE lv l e w' ∧ Below w.heap.size w w' := by
  obtain ⟨g, hg⟩ : ∃ g, w.heap.size = g := ⟨_, rfl⟩
  obtain ⟨A, c, rfl, hr⟩ := hv.form
  obtain ⟨n, hn⟩ : ∃ n, l.length = n := ⟨_, rfl⟩
  have HS := Lib.hid (And.intro hs (And.intro hE hv))
  have hmm := @run_makeMap Tryz.prog
  clear hs hE hv hr
  rw [hn] at HS ⊢
  obtain ⟨V0, hV0⟩ : ∃ x, ((((w.alloc (.cells #[.int .i64 0, .int .i64 0] 29)).alloc (.map #[] 0)).alloc (.cells #[.slice A n c, .map (some (g + 1)), .slice none 0 0, .slice none 0 0, .slice none 0 0] 67)).alloc
      (.cells #[.func (.func 27) #[.pointer (some ⟨g + 1 + 1, 0, none⟩)] #[], .func (.func 28) #[.pointer (some ⟨g + 1 + 1, 0, none⟩)] #[], .func (.func 29) #[.pointer (some ⟨g + 1 + 1, 0, none⟩)] #[], .func (.func 30) #[.pointer (some ⟨g + 1 + 1, 0, none⟩)] #[]] 83)) = x := ⟨_, rfl⟩
  have hI0 : LaI w g (.slice A n c) l 0 V0 := by
    have b1 : Below w.heap.size w V0 := by rw [← hV0]; exact ((((Below.refl _ _).alloc (Nat.le_refl _) _).alloc (by simp) _).alloc (by simp; omega) _).alloc (by simp; omega) _
    refine ⟨b1, ?_, ?_, ?_, ?_⟩
    · have h := (MapKept.heap_alloc w (.cells #[.int .i64 0, .int .i64 0] 29)).1
      rw [hg] at h
      rw [← hV0, Below.heap_alloc _ _ _ (by simp; omega), Below.heap_alloc _ _ _ (by simp; omega), Below.heap_alloc _ _ _ (by simp; omega)]
      exact h
    · have h := (MapKept.heap_alloc (((w.alloc (.cells #[.int .i64 0, .int .i64 0] 29)).alloc (.map #[] 0)).alloc (.cells #[.slice A n c, .map (some (g + 1)), .slice none 0 0, .slice none 0 0, .slice none 0 0] 67)) (.cells #[.func (.func 27) #[.pointer (some ⟨g + 1 + 1, 0, none⟩)] #[], .func (.func 28) #[.pointer (some ⟨g + 1 + 1, 0, none⟩)] #[], .func (.func 29) #[.pointer (some ⟨g + 1 + 1, 0, none⟩)] #[], .func (.func 30) #[.pointer (some ⟨g + 1 + 1, 0, none⟩)] #[]] 83)).1
      rw [World.size_alloc, World.size_alloc, World.size_alloc, hg, hV0] at h
      exact h
    · have h := (MapKept.heap_alloc ((w.alloc (.cells #[.int .i64 0, .int .i64 0] 29)).alloc (.map #[] 0)) (.cells #[.slice A n c, .map (some (g + 1)), .slice none 0 0, .slice none 0 0, .slice none 0 0] 67)).1
      rw [World.size_alloc, World.size_alloc, hg] at h
      rw [← hV0, Below.heap_alloc _ _ _ (by simp; omega)]
      exact h
    · have h := TIs.made (w.alloc (.cells #[.int .i64 0, .int .i64 0] 29))
      rw [World.size_alloc, hg] at h
      rw [← hV0]
      exact h.below (((Below.refl _ _).alloc (Nat.le_refl _) _).alloc (by simp) _)
  have HI0 := Lib.hid hI0
  clear hI0
  go_enter Tryz.func19, Tryz.ntmps19
  go_wp2_with fail
  clear hV0
  go_loopw [26] (fun kv wr => ∃ (k : Nat), k ≤ 4 ∧ kv = .int .i64 k ∧ LaI w g (.slice A n c) l k wr) (fun kv _ => 4 - (intOf kv).toNat)
  case atStart => exact ⟨0, Nat.zero_le _, rfl, HI0.out⟩
  case round =>
    obtain ⟨k, hk, rfl, hI⟩ := hrel
    by_cases hlk : k < 4
    · obtain ⟨b1, b2, b3, b4⟩ := hI
      have hgs := blk9_lt b3
      have hst := look_step w (g + 1 + 1) (g + 1) (.slice A n c) l k wr hlk HS.out.1 b1 (by omega) (by omega) (by omega) HS.out.2.1 HS.out.2.2 b4
      have cf := cell9_blk b3 k (v := .func (.func (fnL k)) #[.pointer (some ⟨g + 1 + 1, 0, none⟩)] #[]) (by rcases k with _ | _ | _ | _ | k <;> first | rfl | omega)
      have eg := fnL_enters k
      unfold Ent1 at eg
      have HC := Lib.hid hst
      have HI := Lib.hid (And.intro b1 (And.intro b2 (And.intro b3 b4)))
      generalize fnL k = fk at *
      have z2 : (0 : Int) ≤ k := by omega
      have z3 : (k : Int) < 4 := by omega
      clear hst b1 b2 b3 b4
      go_wp2_with fail
      refine HC.out.mono ?_
      rintro e V ⟨hfr, ⟨r, hr, he⟩ | ⟨he, hph⟩⟩
      · unfold LkE at he
        dsimp only at he
        subst he
        obtain ⟨q1, hq1⟩ : ∃ x, r.1 = x := ⟨_, rfl⟩
        obtain ⟨q2, hq2⟩ : ∃ x, ((r.2 : Nat) : Int) = x := ⟨_, rfl⟩
        rw [hq1, hq2]
        obtain ⟨m, hm⟩ : ∃ x, V.heap.size = x := ⟨_, rfl⟩
        have hgm : g < m := by have := hfr.2.2.2.1; omega
        obtain ⟨V1, hV1⟩ : ∃ x, V.alloc (.cells #[.int .i64 0, .int .i64 0] 29) = x := ⟨_, rfl⟩
        have hbV : Below V.heap.size V V1 := by rw [← hV1]; exact (Below.refl _ _).alloc (Nat.le_refl _) _
        have hm1 := (MapKept.heap_alloc V (.cells #[.int .i64 0, .int .i64 0] 29)).1
        rw [hV1, hm] at hm1
        have v0 := cell9_blk hm1 0 rfl
        have v1 := cell9_blk hm1 1 rfl
        have v2 := frz9_blk hm1 0
        have v3 := frz9_blk hm1 1
        have hgV := (hfr.2.2.2.2 g (blk9_lt HI.out.2.1) (by omega) (by omega)).trans HI.out.2.1
        have hm2 := set2P (x := .int .i64 q1) (y := .int .i64 q2) hm1
        have hg1 : ((V1.setCell ⟨m, 0, none⟩ (.int .i64 q1)).setCell ⟨m, 1, none⟩ (.int .i64 q2)).heap[g]? = some (.cells #[.int .i64 0, .int .i64 0] 29 (0, 0)) := (set2_other (by omega)).trans ((hbV.block g (blk9_lt hgV)).trans hgV)
        have x0 := cell9_blk hm2 0 rfl
        have x1 := cell9_blk hm2 1 rfl
        have y0 := cell9_blk hg1 0 rfl
        have y1 := cell9_blk hg1 1 rfl
        have f0 := frz9_blk hg1 0
        have f1 := frz9_blk hg1 1
        have hb2 : Below V.heap.size V ((V1.setCell ⟨m, 0, none⟩ (.int .i64 q1)).setCell ⟨m, 1, none⟩ (.int .i64 q2)) := (hbV.setCell (by show _ ≤ m; omega) _).setCell (by show _ ≤ m; omega) _
        have H1 := Lib.hid (And.intro hg1 (And.intro hb2 (And.intro hfr (And.intro hr (And.intro hq1 hq2)))))
        clear hg1 hbV hfr hr hq1 hq2 hgV hm1 hm2 hb2
        unfold plV errK
        have HXX := Lib.hid (And.intro x0 x1)
        go_wp2_with fail
        refine wp_region_noPanic ?_
        refine wp_region_held_drew (S := fun W => W.cell? { block := m, off := 0 } = some (.int .i64 q1) ∧ W.cell? { block := m, off := 1 } = some (.int .i64 q2)) (by kernel_rfl) HXX.out (fun hHeld => ?_)
        refine' wpAnyH_take (i := 0) (oi := { dst := some 37, op := Go.Op.load 29 (Go.Operand.tmp 9), type := 29, pos := "inherit.go:88", after := #[{ on := 2, ground := Go.Ground.gcOnly Go.Departure.lateStores }], guard := none }) (v := _) rfl (by kernel_rfl) (by kernel_rfl) (by kernel_rfl) (fun _ _ _ h => h) (Or.inl ⟨by rfl, ?_⟩) (by assumption) ?_
        rotate_left
        · (intro W hSw; obtain ⟨a0, a1⟩ := hSw; go_simp; try with_reducible rfl)
        try simp only [Act.put, List.setIfInBounds_toArray, List.set_cons_zero, List.set_cons_succ]
        refine' wpAnyH_take (i := 1) (oi := { dst := some 38, op := Go.Op.move (Go.Operand.tmp 10), type := 31, pos := "inherit.go:88", after := #[{ on := 3, ground := Go.Ground.gcOnly Go.Departure.lateStores }], guard := none }) (v := _) rfl (by kernel_rfl) (by kernel_rfl) (by kernel_rfl) (fun _ _ _ h => h) (Or.inl ⟨by rfl, ?_⟩) (by assumption) ?_
        rotate_left
        · (intro W hSw; go_simp; try with_reducible rfl)
        try simp only [Act.put, List.setIfInBounds_toArray, List.set_cons_zero, List.set_cons_succ]
        refine' wpAnyH_take (i := 2) (oi := { dst := some 2, op := Go.Op.assign (Go.Operand.const (Go.Value.pointer none)), type := 56, pos := "inherit.go:88", after := #[{ on := 0, ground := Go.Ground.textOnly Go.Departure.lateStores }, { on := 1, ground := Go.Ground.textOnly Go.Departure.lateStores }], guard := none }) (v := _) rfl (by kernel_rfl) (by kernel_rfl) (by kernel_rfl) (fun _ _ _ h => h) (Or.inl ⟨by rfl, ?_⟩) (by assumption) ?_
        rotate_left
        · (intro W hSw; go_simp; try with_reducible rfl)
        try simp only [Act.put, List.setIfInBounds_toArray, List.set_cons_zero, List.set_cons_succ]
        refine wpAnyH_ready (rs := [3]) (by kernel_rfl) (by simp) ?_
        refine AllReadyH.cons (o := { dst := none, op := Go.Op.store 29 (Go.Operand.tmp 3) (Go.Operand.tmp 37), type := 0, pos := "inherit.go:88", after := #[{ on := 0, ground := Go.Ground.data }, { on := 2, ground := Go.Ground.chain }, { on := 0, ground := Go.Ground.phase }, { on := 1, ground := Go.Ground.textOnly Go.Departure.lateStores }, { on := 2, ground := Go.Ground.phase }], guard := none }) rfl (fun K hK => ?_) AllReadyH.nil
        go_simp
        refine hK.out _ _ ⟨cell_other9 (cell_other9 hHeld.1 (by omega)) (by omega), cell_other9 (cell_other9 hHeld.2 (by omega)) (by omega)⟩ (fun hHeld => ?_)
        clear hK K
        try simp only [Act.put, List.setIfInBounds_toArray, List.set_cons_zero, List.set_cons_succ]
        refine' wpAnyH_take (i := 4) (oi := { dst := some 4, op := Go.Op.assign (Go.Operand.tmp 38), type := 31, pos := "inherit.go:88", after := #[{ on := 1, ground := Go.Ground.data }, { on := 3, ground := Go.Ground.chain }, { on := 0, ground := Go.Ground.phase }, { on := 1, ground := Go.Ground.phase }, { on := 2, ground := Go.Ground.phase }, { on := 3, ground := Go.Ground.phase }], guard := none }) (v := _) rfl (by kernel_rfl) (by kernel_rfl) (by kernel_rfl) (fun _ _ _ h => h) (Or.inl ⟨by rfl, ?_⟩) (by assumption) ?_
        rotate_left
        · (intro W hSw; go_simp; try with_reducible rfl)
        try simp only [Act.put, List.setIfInBounds_toArray, List.set_cons_zero, List.set_cons_succ]
        refine wpAnyH_done (by kernel_rfl) ?_ _
        refine NoPanic.normal ?_
        clear hHeld
        go_wp2_with fail
        have hbf : Below w.heap.size w V := lkF_below H1.out.2.2.1 HI.out.1 (by omega) (by omega)
        have hb3 := hbf.trans (H1.out.2.1.mono hbf.size)
        refine bodyPost_ret (results_tct rfl _ _ g _ #[.int .i64 q1, .int .i64 q2] (0, 0) _ rfl (set2P H1.out.1) Tryz.underlying29 rfl (by kernel_rfl)) rfl ?_
        refine ⟨?_, ?_⟩
        · unfold LaE
          rw [H1.out.2.2.2.1]
          dsimp only
          unfold plV errK
          rw [H1.out.2.2.2.2.1, H1.out.2.2.2.2.2]
          rfl
        · have hq := (hb3.setCell (p := ⟨g, 0, none⟩) (by show _ ≤ g; omega) (.int .i64 q1)).setCell (p := ⟨g, 1, none⟩) (by show _ ≤ g; omega) (.int .i64 q2)
          exact ⟨hq.os, hq.tape, hq.output, hq.size, hq.block⟩
      · unfold LkE at he
        dsimp only at he
        subst he
        obtain ⟨m, hm⟩ : ∃ x, V.heap.size = x := ⟨_, rfl⟩
        have hgm : g < m := by have := hfr.2.2.2.1; omega
        obtain ⟨V1, hV1⟩ : ∃ x, V.alloc (.cells #[.int .i64 0, .int .i64 0] 29) = x := ⟨_, rfl⟩
        have hbV : Below V.heap.size V V1 := by rw [← hV1]; exact (Below.refl _ _).alloc (Nat.le_refl _) _
        have hm1 := (MapKept.heap_alloc V (.cells #[.int .i64 0, .int .i64 0] 29)).1
        rw [hV1, hm] at hm1
        have v0 := cell9_blk hm1 0 rfl
        have v1 := cell9_blk hm1 1 rfl
        have v2 := frz9_blk hm1 0
        have v3 := frz9_blk hm1 1
        have hb2 : Below V.heap.size V ((V1.setCell ⟨m, 0, none⟩ (.int .i64 0)).setCell ⟨m, 1, none⟩ (.int .i64 0)) := (hbV.setCell (by show _ ≤ m; omega) _).setCell (by show _ ≤ m; omega) _
        have H1 := Lib.hid (And.intro hb2 (And.intro hfr hph))
        clear hbV hfr hph hm1 hb2
        unfold plV
        go_wp2_with fail
        have hbf : Below w.heap.size w V := lkF_below H1.out.2.1 HI.out.1 (by omega) (by omega)
        refine ⟨⟨k + 1, hlk, by go_num, hbf.trans (H1.out.1.mono hbf.size), ?_, ?_, H1.out.2.2.below H1.out.1⟩, by simp [intOf]; omega⟩
        · have h := (H1.out.2.1.2.2.2.2 g (blk9_lt HI.out.2.1) (by omega) (by omega)).trans HI.out.2.1
          exact (H1.out.1.block g (blk9_lt h)).trans h
        · have h := (H1.out.2.1.2.2.2.2 (g + 1 + 1 + 1) (blk9_lt HI.out.2.2.1) (by omega) (by omega)).trans HI.out.2.2.1
          exact (H1.out.1.block _ (blk9_lt h)).trans h
    · obtain rfl : k = 4 := by omega
      obtain ⟨b1, b2, b3, x1, x2, x3, tt, Zt, p1, p2, p3, p4, p5⟩ := hI
      have y0 := cell9_blk b2 0 rfl
      have y1 := cell9_blk b2 1 rfl
      have f0 := frz9_blk b2 0
      have f1 := frz9_blk b2 1
      have HI := Lib.hid (And.intro b1 (And.intro b2 (And.intro p1 (And.intro p2 (And.intro p3 (And.intro p4 p5))))))
      clear b1 b2 b3 p1 p2 p3 p4 p5
      go_wp2_with fail
      refine bodyPost_ret (results_tct rfl _ _ g _ #[.int .i64 0, .int .i64 0] (0, 0) _ rfl (set2P HI.out.2.1) Tryz.underlying29 rfl (by kernel_rfl)) rfl ?_
      have hpl : g + 1 + 1 ≠ g := by omega
      refine ⟨?_, (HI.out.1.setCell (p := ⟨g, 0, none⟩) (by show _ ≤ g; omega) _).setCell (p := ⟨g, 1, none⟩) (by show _ ≤ g; omega) _⟩
      unfold LaE
      rw [HI.out.2.2.2.2.1]
      refine ⟨g + 1 + 1, x1, x2, x3, tt, Zt, rfl, (set2_other hpl).trans HI.out.2.2.1, ?_⟩
      have hT := HI.out.2.2.2.1
      have htt := HI.out.2.2.2.2.2.1
      refine ⟨(set2_other (by omega)).trans hT.1, hT.2.1, fun j hj => ?_⟩
      obtain ⟨bj, e1, e2⟩ := hT.2.2 j hj
      have := HI.out.2.2.2.2.2.2 j hj bj e1
      exact ⟨bj, e1, e2.block (set2_other (by omega))⟩
end Go.Proofs.YthnogakjaaopkaaGreatDoor

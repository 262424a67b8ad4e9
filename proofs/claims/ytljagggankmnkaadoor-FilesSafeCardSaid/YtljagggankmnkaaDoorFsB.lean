/- Package files: a map of files in memory; what a step does to one. -/
import Derived.Test.YtljagggankmnkaaDoorFsA
import Derived.Maps.OwnOps
namespace Go.Proofs.YtljagggankmnkaaDoor
open Go.RowKit Go.Maps Go.ChangeMaps Go.WideMaps

theorem keyLaw : Keyed Tryd.prog 9 := string_keyed Tryd.underlying9
theorem zeroE (w : World) : (zeroValue 36).run Tryd.prog w = .ok (.slice none 0 0) w := by kernel_rfl
theorem keyS {k : Bs} (h : k.length ≤ 1000000) : keyOf Tryd.prog 9 (.string (str k)) = some (.string k) :=
  keyOf_string_mk Tryd.underlying9 (s := str k) (by rw [str_size]; unfold maxLen; omega)
/-- Block b is a map with the entries V. -/
def MapIs (w : World) (b : Nat) (V : List (Bs × Pay)) : Prop := w.ownsMap Tryd.prog 9 rv b V.length (mp V)
section
variable {w w' : World} {b n : Nat} {V : List (Bs × Pay)}
theorem MapIs.of (h : w.ownsMap Tryd.prog 9 rv b n (mp V)) : MapIs w b V := by
  obtain ⟨es, clock, hb, F, hs, hD⟩ := h
  refine ⟨es, clock, hb, F, ?_, hD⟩
  have h1 := congrArg Maps.size hD
  rw [mp_size] at h1
  rw [h1]
  simp [Maps.size, length_sorted]
theorem MapIs.lt (h : MapIs w b V) : b < w.heap.size := World.ownsMap.lt h
theorem MapIs.kept {row : Option Nat} (h : MapIs w b V) (hg : w.grownBy w' row) (hr : some b ≠ row) : MapIs w' b V := World.ownsMap.kept h hg hr
theorem MapIs.block (h : MapIs w b V) (hb : w'.heap[b]? = w.heap[b]?) : MapIs w' b V := by
  obtain ⟨es, clock, h1, h2⟩ := h
  exact ⟨es, clock, hb.trans h1, h2⟩
theorem MapIs.alloc (h : MapIs w b V) (o : Obj) : MapIs (w.alloc o) b V := World.ownsMap.alloc h o
theorem MapIs.drewN (h : MapIs w b V) (k : Nat) : MapIs (w.drewN k) b V := h
theorem MapIs.look (h : MapIs w b V) {k : Bs} (hk : k.length ≤ 1000000) : (Instr.lookup 58 (.map (some b)) (.string (str k)) false).run Tryd.prog w = .ok ((got k V).getD nilPay).1 w := by
  obtain ⟨v, ps, h1, h2⟩ := World.ownsMap.lookup h keyLaw Tryd.underlying58 (zeroE w) (zd := .held nilPay.1) rfl (keyS hk)
  rw [mp_atD] at h2
  simp only [rv, Option.some.injEq, Prod.mk.injEq, DataW.held.injEq] at h2
  rw [h1, h2.1]
theorem MapIs.look_ok (h : MapIs w b V) {k : Bs} (hk : k.length ≤ 1000000) : ∃ v, (Instr.lookup 58 (.map (some b)) (.string (str k)) true).run Tryd.prog w = .ok (.tuple #[v, .bool (hasF k V)]) w := by
  obtain ⟨v, ps, h1, _⟩ := World.ownsMap.look_ok h keyLaw Tryd.underlying58 (zeroE w) (zd := .held nilPay.1) rfl (keyS hk)
  rw [mp_has] at h1
  exact ⟨v, h1⟩
theorem MapIs.len (h : MapIs w b V) (ty : TypeId) : (Builtin.len_ #[58] ty #[.map (some b)]).run Tryd.prog w = .ok (.int .i64 V.length) w := by
  have := World.ownsMap.len h Tryd.underlying58 ty
  rw [mp_size] at this
  exact this

variable {ops : Array Oper} {rest : List Oper} {o : Oper} {a : Act} {Q : Exit → Act → World → Prop}
theorem wpList_mput (hg : o.guard = none) (m x v : Operand) (hop : o.op = Op.mapUpdate 58 m x v) (b : Nat) (V : List (Bs × Pay)) (hm : a.eval m = .map (some b)) (hown : MapIs w b V) (hl : V.length ≤ 1000000)
    (k : Bs) (p : Pay) (hx : a.eval x = .string (str k)) (hv : a.eval v = p.1) (hk : k.length ≤ 1000000)
    (hK : ∀ w', MapIs w' b (put k p V) → w.grownBy w' (some b) → wpList Tryd.prog ops Q rest (a.put o.dst undef) w') : wpList Tryd.prog ops Q (o :: rest) a w :=
  wpList_mapUpdate_own w hg m x v 58 hop 9 36 keyLaw Tryd.underlying58 rv b V.length (mp V) hm hown (by unfold maxLen; omega) (.string (str k)) p.1 (.string k) hx hv (keyS hk) (.held p.1) [] rfl
    (fun w' h1 h2 => hK w' (MapIs.of (by rw [← mp_put]; exact h1)) h2)
theorem wpList_mdel (hg : o.guard = none) (m x : Operand) (hop : o.op = Op.call { callee := Callee.builtin Builtin.delete, args := #[m, x], argTypes := #[58, 9] }) (b : Nat) (V : List (Bs × Pay)) (hm : a.eval m = .map (some b)) (hown : MapIs w b V)
    (k : Bs) (hx : a.eval x = .string (str k)) (hk : k.length ≤ 1000000)
    (hK : ∀ w', MapIs w' b (del k V) → w.grownBy w' (some b) → wpList Tryd.prog ops Q rest (a.put o.dst (.tuple #[])) w') : wpList Tryd.prog ops Q (o :: rest) a w :=
  wpList_delete_own w hg m x 58 9 hop 36 keyLaw Tryd.underlying58 rv b V.length (mp V) hm hown (.string (str k)) (.string k) hx (keyS hk)
    (fun w' h1 h2 => hK w' (MapIs.of (by rw [← mp_del]; exact h1)) h2.grown)
end

/-- A step as a value. -/
def stepV (s : Stp Pay) : Value := .agg #[.int .i64 s.k, .string (str s.nm), .string (str s.to), s.b.1]
set_option maxHeartbeats 1000000 in
theorem on_write (b : Nat) (V : List (Bs × Pay)) (nm to : Bs) (p : Pay) (w : World) (hm : MapIs w b V) (hl : V.length ≤ 1000000) (hn : nm.length ≤ 1000000) :
    Calls Tryd.prog 34 #[.agg #[.int .i64 0, .string (str nm), .string (str to), p.1], .map (some b)] w fun e w' => e = .returned (.tuple #[]) ∧ MapIs w' b (put nm p V) ∧ w.grownBy w' (some b) := by
  have HM := Lib.hid hm
  have HL := Lib.hid (And.intro hl hn)
  obtain ⟨v, b0⟩ := p
  clear hm hl hn
  dsimp only
  obtain ⟨snm, hsn⟩ : ∃ s, str nm = s := ⟨_, rfl⟩
  have HSN := Lib.hid hsn
  rw [hsn]
  clear hsn
  generalize str to = sto
  go_enter Tryd.func34, Tryd.ntmps34
  go_wp2_with
    (at_mapUpdate
     refine wpList_mput rfl _ _ _ rfl b V rfl (HM.out.alloc _) HL.out.1 nm (v, b0) (by rw [HSN.out]; rfl) rfl HL.out.2 ?_
     intro w1 ho hg
     have HO := Lib.hid (And.intro ho hg)
     clear ho hg)
  go_end0
  exact ⟨rfl, HO.out.1, (World.grownBy_alloc w _ _).trans HO.out.2⟩
theorem cell_blk {w : World} {g : Nat} {cs : Array Value} {t : TypeId} {fr : Nat × Nat} (h : w.heap[g]? = some (.cells cs t fr)) (k : Nat) {v : Value} (hv : cs[k]? = some v) : w.cell? ⟨g, k, none⟩ = some v := by
  simp [World.cell?, h, hv]
theorem new_cell {w w1 : World} {cs : Array Value} {t : TypeId} {row : Option Nat} (hg : (w.alloc (.cells cs t)).grownBy w1 row) (hr : some w.heap.size ≠ row) (k : Nat) (v : Value) (hk : cs[k]? = some v) : w1.cell? ⟨w.heap.size, k, none⟩ = some v := by
  have h1 : w1.heap[w.heap.size]? = _ := hg.block w.heap.size (by rw [World.size_alloc]; omega) hr
  have h2 := h1.trans (MapKept.heap_alloc w _).1
  simp [World.cell?, h2, hk]
set_option maxHeartbeats 1000000 in
theorem on_rename (b : Nat) (V : List (Bs × Pay)) (nm to : Bs) (v : Value) (w : World) (hm : MapIs w b V) (hl : V.length ≤ 1000000) (hn : nm.length ≤ 1000000) (ht : to.length ≤ 1000000) :
    Calls Tryd.prog 34 #[.agg #[.int .i64 1, .string (str nm), .string (str to), v], .map (some b)] w fun e w' => e = .returned (.tuple #[]) ∧ MapIs w' b (put to ((got nm V).getD nilPay) (del nm V)) ∧ w.grownBy w' (some b) := by
  have HM := Lib.hid hm
  have HL := Lib.hid (And.intro hl (And.intro hn ht))
  have hlook := (hm.alloc (.cells #[.int .i64 1, .string (str nm), .string (str to), v] 76)).look hn
  clear hm hl hn ht
  obtain ⟨g, hg⟩ : ∃ g, (got nm V).getD nilPay = g := ⟨_, rfl⟩
  have HG := Lib.hid hg
  rw [hg] at hlook ⊢
  clear hg
  obtain ⟨gv, gb⟩ := g
  dsimp only at hlook
  obtain ⟨snm, hsn⟩ : ∃ s, str nm = s := ⟨_, rfl⟩
  have HSN := Lib.hid hsn
  rw [hsn] at hlook ⊢
  clear hsn
  obtain ⟨sto, hst⟩ : ∃ s, str to = s := ⟨_, rfl⟩
  have HST := Lib.hid hst
  rw [hst] at hlook ⊢
  clear hst
  go_enter Tryd.func34, Tryd.ntmps34
  go_wp2_with (first
    | (at_delete
       refine wpList_mdel rfl _ _ rfl b V rfl (HM.out.alloc _) nm (by rw [HSN.out]; rfl) HL.out.2.1 ?_
       intro w1 ho hg
       have hk1 := new_cell hg (by have := HM.out.lt; intro h; injection h with h; omega) 2 (.string sto) rfl
       have HD := Lib.hid ho
       have HGR := Lib.hid hg
       clear ho hg)
    | (at_mapUpdate
       refine wpList_mput rfl _ _ _ rfl b (del nm V) rfl HD.out (Nat.le_trans (len_del _ _) HL.out.1) to (gv, gb) (by rw [HST.out]; rfl) rfl HL.out.2.2 ?_
       intro w2 ho hg
       have HO := Lib.hid (And.intro ho hg)
       clear ho hg))
  go_end0
  exact ⟨rfl, HO.out.1, ((World.grownBy_alloc w _ _).trans HGR.out).trans HO.out.2⟩
set_option maxHeartbeats 1000000 in
theorem on_remove (b : Nat) (V : List (Bs × Pay)) (nm to : Bs) (v : Value) (w : World) (hm : MapIs w b V) (hn : nm.length ≤ 1000000) :
    Calls Tryd.prog 34 #[.agg #[.int .i64 2, .string (str nm), .string (str to), v], .map (some b)] w fun e w' => e = .returned (.tuple #[]) ∧ MapIs w' b (del nm V) ∧ w.grownBy w' (some b) := by
  have HM := Lib.hid hm
  have HL := Lib.hid hn
  clear hm hn
  obtain ⟨snm, hsn⟩ : ∃ s, str nm = s := ⟨_, rfl⟩
  have HSN := Lib.hid hsn
  rw [hsn]
  clear hsn
  generalize str to = sto
  go_enter Tryd.func34, Tryd.ntmps34
  go_wp2_with
    (at_delete
     refine wpList_mdel rfl _ _ rfl b V rfl (HM.out.alloc _) nm (by rw [HSN.out]; rfl) HL.out ?_
     intro w1 ho hg
     have HO := Lib.hid (And.intro ho hg)
     clear ho hg)
  go_end0
  exact ⟨rfl, HO.out.1, (World.grownBy_alloc w _ _).trans HO.out.2⟩
theorem on_is (s : Stp Pay) (hs : s.k ≤ 2) (b : Nat) (V : List (Bs × Pay)) (w : World) (hm : MapIs w b V) (hl : V.length ≤ 1000000) (hn : s.nm.length ≤ 1000000) (ht : s.to.length ≤ 1000000) :
    Calls Tryd.prog 34 #[stepV s, .map (some b)] w fun e w' => e = .returned (.tuple #[]) ∧ MapIs w' b (actF nilPay V s) ∧ w.grownBy w' (some b) := by
  obtain ⟨k, nm, to, p⟩ := s
  rcases (show k = 0 ∨ k = 1 ∨ k = 2 by dsimp only at hs; omega) with rfl | rfl | rfl
  · exact on_write b V nm to p w hm hl hn
  · exact on_rename b V nm to p.1 w hm hl hn ht
  · exact on_remove b V nm to p.1 w hm hn

/-- A slice that holds these bytes, apart from the blocks F. -/
def Hv (w : World) (F : Nat → Prop) (p : Pay) : Prop := ∃ A c, p.1 = .slice A p.2.length c ∧ p.2.length ≤ c ∧ c ≤ maxLen ∧ p.2.length ≤ 100000 ∧ Rd w A (bs p.2) ∧ ∀ a, A = some a → a.block < w.heap.size ∧ ¬ F a.block
theorem Hv.nil (w : World) (F : Nat → Prop) : Hv w F nilPay := ⟨none, 0, rfl, Nat.le_refl _, Nat.zero_le _, Nat.zero_le _, Rd.nil, fun _ h => by cases h⟩
theorem Hv.mono {w w' : World} {F F' : Nat → Prop} {p : Pay} (h : Hv w F p) (hs : w.heap.size ≤ w'.heap.size) (hb : ∀ i, i < w.heap.size → ¬ F i → w'.heap[i]? = w.heap[i]?) (hF : ∀ i, F' i → F i ∨ w.heap.size ≤ i) : Hv w' F' p := by
  obtain ⟨A, c, h1, h2, h3, h4, h5, h6⟩ := h
  refine ⟨A, c, h1, h2, h3, h4, h5.keep fun q e hq => hb _ hq (h6 q e.symm).2, fun a e => ⟨Nat.lt_of_lt_of_le (h6 a e).1 hs, fun h => ?_⟩⟩
  have h7 := h6 a e
  rcases hF _ h with h | h
  · exact h7.2 h
  · omega
theorem below_grown {w w' : World} (h : Below w.heap.size w w') (row : Option Nat) : w.grownBy w' row := ⟨h.os, h.tape, h.output, h.size, fun k hk _ => h.block k hk⟩
set_option maxHeartbeats 1000000 in
set_option maxRecDepth 100000 in
theorem cut_write (b : Nat) (V : List (Bs × Pay)) (nm to l : Bs) (A : Option Addr) (c n part m : Nat) (w : World) (hm : MapIs w b V) (hl : V.length ≤ 1000000) (hn : nm.length ≤ 1000000) (hln : l.length = n) (hnb : n ≤ 100000) (hnc : n ≤ c) (hr : Rd w A (bs l)) (hmp : min part n = m) :
    Calls Tryd.prog 35 #[.agg #[.int .i64 0, .string (str nm), .string (str to), .slice A n c], .int .i64 part, .map (some b)] w fun e w' => ∃ v', e = .returned (.tuple #[]) ∧ MapIs w' b (put nm (v', l.take m) V) ∧ w.grownBy w' (some b) ∧ Hv w' (fun i => i < w.heap.size) (v', l.take m) := by
  have HM := Lib.hid hm
  have HL := Lib.hid (And.intro hl (And.intro hn (And.intro hln hnb)))
  have HR := Lib.hid hr
  have HCP := Lib.hid (fun (x : Nat) (hx : x ≤ n) (w1 : World) (hw : Rd w1 A (bs l)) => copied_is (l.take x) A x c w1 (by rw [List.length_take, hln]; omega) (by rw [← bs_take]; exact hw.take) (by omega))
  clear hm hl hn hln hnb hr
  have HMP := Lib.hid (And.intro hmp hnc)
  rcases Nat.lt_trichotomy part n with hpn | hpn | hpn
  case' inl =>
    have e : m = part := by omega
    subst e
    have h1 : ((m : Int) ≤ c) := by omega
    have h2 : ((m : Int) < n) := by omega
  case' inr.inl =>
    have e : m = part := by omega
    subst e
    subst hpn
    have h1 : ((m : Int) ≤ c) := by omega
  case' inr.inr =>
    have e : m = n := by omega
    subst e
    have h1 : ((m : Int) ≤ c) := by omega
    have h2 : ((m : Int) < part) := by omega
  all_goals clear hmp hnc
  all_goals
    obtain ⟨snm, hsn⟩ : ∃ s, str nm = s := ⟨_, rfl⟩
    have HSN := Lib.hid hsn
    rw [hsn]
    clear hsn
    obtain ⟨sto, hst⟩ : ∃ s, str to = s := ⟨_, rfl⟩
    have HST := Lib.hid hst
    rw [hst]
    clear hst
    go_enter Tryd.func35, Tryd.ntmps35
    go_wp2_with fail
  all_goals
    refine (HCP.out m (by omega) _ (HR.out.alloc _)).mono ?_
    rintro e w1 ⟨v1, rfl, hB, hO⟩
    have hb1 : w1.heap[w.heap.size]? = some (.cells #[.int .i64 0, .string snm, .string sto, .slice A _ c] 76) := (hB.block _ (by rw [World.size_alloc]; omega)).trans (MapKept.heap_alloc w _).1
    have k0 := cell_blk hb1 0 rfl
    have k1 := cell_blk hb1 1 rfl
    have k2 := cell_blk hb1 2 rfl
    have k3 := cell_blk hb1 3 rfl
    have f3 : w1.frozen? ⟨w.heap.size, 3, none⟩ = false := by simp [World.frozen?, hb1]
    have hM1 : MapIs w1 b V := (HM.out.alloc _).block (hB.block _ (by rw [World.size_alloc]; have := HM.out.lt; omega))
    obtain ⟨A1, c1, rfl, hc1, hc2, hl1, hr1, ha1⟩ := owns_form hO
    have HX := Lib.hid (And.intro hB (And.intro hM1 (And.intro hc1 (And.intro hc2 (And.intro hl1 (And.intro hr1 ha1))))))
    clear hB hO hM1 hc1 hc2 hl1 hr1 ha1 hb1
    go_wp2_with fail
    have hW := (((Below.refl w.heap.size w).alloc (Nat.le_refl _) _).trans (HX.out.1.mono (by rw [World.size_alloc]; omega))).setCell (p := ⟨w.heap.size, 3, none⟩) (Nat.le_refl _) (.slice A1 m c1)
    have hsz : w.heap.size < w1.heap.size := Nat.lt_of_lt_of_le (by rw [World.size_alloc]; omega) HX.out.1.size
    rw [← HSN.out, ← HST.out]
    refine (on_write b V nm to (.slice A1 m c1, l.take m) _ (HX.out.2.1.block (Below.heap_setCell w1 _ _ b (by have := HM.out.lt; simp; omega))) HL.out.1 HL.out.2.1).mono ?_
    rintro e w2 ⟨rfl, hm2, hg2⟩
    have HY := Lib.hid (And.intro hm2 hg2)
    have HW := Lib.hid (And.intro hW hsz)
    clear hW hm2 hg2 k0 k1 k2 k3 f3 hsz
    go_wp2_with fail
    go_end0
    refine ⟨_, rfl, HY.out.1, (below_grown HW.out.1 _).trans HY.out.2, ?_⟩
    obtain ⟨hB, hM1, hc1, hc2, hl1, hr1, ha1⟩ := HX.out
    have hl2 := hl1
    rw [bs_length] at hl2
    refine ⟨A1, c1, by rw [hl2], by rw [hl2]; exact hc1, hc2, by rw [hl2]; have := HL.out.2.2.2; omega, ?_, ?_⟩
    all_goals
      have hb := HM.out.lt
      have hk : ∀ q, A1 = some q → q.block < w1.heap.size ∧ w.heap.size < q.block := fun q e => ⟨(ha1 q e).2, by have := (ha1 q e).1; rw [World.size_alloc] at this; omega⟩
      have hg := HY.out.2
    · refine hr1.keep fun q e _ => ?_
      have hq := hk q e.symm
      exact (hg.block _ (by simpa [World.setCell] using hq.1) (by intro h; injection h with h; omega)).trans (Below.heap_setCell w1 _ _ _ (by show q.block ≠ w.heap.size; omega))
    · intro q e
      have hq := hk q e
      exact ⟨Nat.lt_of_lt_of_le (by simpa [World.setCell] using hq.1) hg.size, by omega⟩
/-- Of another step a crash leaves nothing. -/
theorem cut_other (b : Nat) (k : Nat) (hk : k = 1 ∨ k = 2) (nm to : ByteArray) (v : Value) (part : Int) (w : World) :
    Calls Tryd.prog 35 #[.agg #[.int .i64 k, .string nm, .string to, v], .int .i64 part, .map (some b)] w fun e w' => e = .returned (.tuple #[]) ∧ Below w.heap.size w w' := by
  rcases hk with rfl | rfl
  all_goals
    go_enter Tryd.func35, Tryd.ntmps35
    go_wp2_with fail
    go_end0
    exact ⟨rfl, (Below.refl _ _).alloc (Nat.le_refl _) _⟩
end Go.Proofs.YtljagggankmnkaaDoor

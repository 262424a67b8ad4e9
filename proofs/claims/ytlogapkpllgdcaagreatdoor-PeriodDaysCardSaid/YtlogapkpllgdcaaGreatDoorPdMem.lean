/- Spans, entries, periods as they lie in memory. -/
import Derived.Test.YtlogapkpllgdcaaGreatDoorPdFn
namespace Go.Proofs.YtlogapkpllgdcaaGreatDoor
open Go.RowKit

def dS : Spn := ⟨0, 0⟩
def dE : Ent := ⟨⟨0, 0, 0, 0, 0, 0, 0, 0, 0, 0⟩, []⟩
def dP : Prd := ⟨[], []⟩
theorem cell_below {w w' : World} {a : Addr} {v : Value} (h : w.cell? a = some v) (hb : Below w.heap.size w w') : w'.cell? a = some v :=
  (hb.cell (p := a) (World.block_lt_of_cell? w a h)).trans h
/-- A slice value that holds ints. -/
def HIn (w : World) (v : Value) (l : List Int) : Prop :=
  ∃ A c, v = .slice A l.length c ∧ l.length ≤ c ∧ c ≤ maxLen ∧ ∀ k, k < l.length → ∃ ad, A = some ad ∧ w.cell? (ad.add k) = some (.int .i64 (l.getD k 0))
/-- A slice value that holds spans. -/
def HSp (w : World) (v : Value) (l : List Spn) : Prop :=
  ∃ A c, v = .slice A l.length c ∧ l.length ≤ c ∧ c ≤ maxLen ∧ ∀ k, k < l.length → ∃ ad X, A = some ad ∧ ad.add (k * 2) = X ∧ w.cell? X = some (.int .i64 (l.getD k dS).f) ∧ w.cell? { block := X.block, off := X.off + 1 } = some (.int .i64 (l.getD k dS).t)
/-- The cells of an entry, from X on. -/
def EnAt (w : World) (X : Addr) (r : Rl) (s : Value) : Prop :=
  w.cell? X = some (.int .i64 r.k) ∧ w.cell? { block := X.block, off := X.off + 1 } = some (.int .i64 r.mo) ∧ w.cell? { block := X.block, off := X.off + 2 } = some (.int .i64 r.n) ∧ w.cell? { block := X.block, off := X.off + 3 } = some (.int .i64 r.wk) ∧
  w.cell? { block := X.block, off := X.off + 4 } = some (.int .i64 r.fy) ∧ w.cell? { block := X.block, off := X.off + 5 } = some (.int .i64 r.fm) ∧ w.cell? { block := X.block, off := X.off + 6 } = some (.int .i64 r.fd) ∧
  w.cell? { block := X.block, off := X.off + 7 } = some (.int .i64 r.ty) ∧ w.cell? { block := X.block, off := X.off + 8 } = some (.int .i64 r.tm) ∧ w.cell? { block := X.block, off := X.off + 9 } = some (.int .i64 r.td) ∧ w.cell? { block := X.block, off := X.off + 10 } = some s
/-- A slice value that holds entries; S: the values of their spans. -/
def HEn (w : World) (v : Value) (l : List Ent) : Prop :=
  ∃ A c, ∃ S : Nat → Value, v = .slice A l.length c ∧ l.length ≤ c ∧ c ≤ maxLen ∧ ∀ k, k < l.length → (∃ ad X, A = some ad ∧ ad.add (k * 11) = X ∧ EnAt w X (l.getD k dE).r (S k)) ∧ HSp w (S k) (l.getD k dE).sp
/-- A slice value that holds periods. -/
def HPd (w : World) (v : Value) (l : List Prd) : Prop :=
  ∃ A c, ∃ E U : Nat → Value, v = .slice A l.length c ∧ l.length ≤ c ∧ c ≤ maxLen ∧ ∀ k, k < l.length → (∃ ad X, A = some ad ∧ ad.add (k * 2) = X ∧ w.cell? X = some (E k) ∧ w.cell? { block := X.block, off := X.off + 1 } = some (U k)) ∧ HEn w (E k) (l.getD k dP).es ∧ HIn w (U k) (l.getD k dP).ex
section
variable {w w' : World} {v : Value}
theorem HIn.below {l : List Int} (h : HIn w v l) (hb : Below w.heap.size w w') : HIn w' v l := by
  obtain ⟨A, c, e, h1, h2, h3⟩ := h
  exact ⟨A, c, e, h1, h2, fun k hk => by obtain ⟨ad, e1, e2⟩ := h3 k hk; exact ⟨ad, e1, cell_below e2 hb⟩⟩
theorem HSp.below {l : List Spn} (h : HSp w v l) (hb : Below w.heap.size w w') : HSp w' v l := by
  obtain ⟨A, c, e, h1, h2, h3⟩ := h
  exact ⟨A, c, e, h1, h2, fun k hk => by obtain ⟨ad, X, e1, e2, e3, e4⟩ := h3 k hk; exact ⟨ad, X, e1, e2, cell_below e3 hb, cell_below e4 hb⟩⟩
theorem EnAt.below {X : Addr} {r : Rl} {s : Value} (h : EnAt w X r s) (hb : Below w.heap.size w w') : EnAt w' X r s := by
  obtain ⟨c0, c1, c2, c3, c4, c5, c6, c7, c8, c9, c10⟩ := h
  exact ⟨cell_below c0 hb, cell_below c1 hb, cell_below c2 hb, cell_below c3 hb, cell_below c4 hb, cell_below c5 hb, cell_below c6 hb, cell_below c7 hb, cell_below c8 hb, cell_below c9 hb, cell_below c10 hb⟩
theorem HEn.below {l : List Ent} (h : HEn w v l) (hb : Below w.heap.size w w') : HEn w' v l := by
  obtain ⟨A, c, S, e, h1, h2, h3⟩ := h
  refine ⟨A, c, S, e, h1, h2, fun k hk => ?_⟩
  obtain ⟨⟨ad, X, e1, e2, e3⟩, h4⟩ := h3 k hk
  exact ⟨⟨ad, X, e1, e2, e3.below hb⟩, h4.below hb⟩
theorem HPd.below {l : List Prd} (h : HPd w v l) (hb : Below w.heap.size w w') : HPd w' v l := by
  obtain ⟨A, c, E, U, e, h1, h2, h3⟩ := h
  refine ⟨A, c, E, U, e, h1, h2, fun k hk => ?_⟩
  obtain ⟨⟨ad, X, e1, e2, e3, e4⟩, h4, h5⟩ := h3 k hk
  exact ⟨⟨ad, X, e1, e2, cell_below e3 hb, cell_below e4 hb⟩, h4.below hb, h5.below hb⟩
end
theorem getD_mem {α : Type} {l : List α} {k : Nat} (h : k < l.length) (d : α) : l.getD k d ∈ l := by
  rw [List.getD_eq_getElem?_getD, List.getElem?_eq_getElem h]
  exact List.getElem_mem h
theorem getD_some {α : Type} {l : List α} {k : Nat} (h : k < l.length) (d : α) : l[k]? = some (l.getD k d) := by
  rw [List.getD_eq_getElem?_getD, List.getElem?_eq_getElem h]
  rfl
theorem any_take {α : Type} (p : α → Bool) (l : List α) (d : α) (k : Nat) (hk : k < l.length) : (l.take (k + 1)).any p = ((l.take k).any p || p (l.getD k d)) := by
  rw [List.take_add_one, getD_some hk d, List.any_append]
  simp
theorem any_hit {α : Type} {p : α → Bool} {l : List α} {d : α} {k : Nat} (hk : k < l.length) (h : p (l.getD k d) = true) : l.any p = true :=
  List.any_eq_true.2 ⟨_, getD_mem hk d, h⟩
/-- What a walk of a list keeps, and what it ends with, where each element is answered by p. -/
def Upto {α : Type} (p : α → Bool) (l : List α) (w : World) (k : Nat) (W : World) : Prop := Below w.heap.size w W ∧ (l.take k).any p = false
def Hits {α : Type} (p : α → Bool) (l : List α) (w W : World) : Prop := Below w.heap.size w W ∧ l.any p = true
theorem upto_zero {α : Type} {p : α → Bool} {l : List α} {w : World} : Upto p l w 0 w := ⟨Below.refl _ _, rfl⟩
theorem upto_step {α : Type} {p : α → Bool} {l : List α} {w W W' : World} {k : Nat} {d : α} {e : Ending} (h : Upto p l w k W) (hk : k < l.length) (hb : Below W.heap.size W W') (he : e = .returned (.bool (p (l.getD k d)))) :
    (e = .returned (.bool true) ∧ Hits p l w W') ∨ (e = .returned (.bool false) ∧ Upto p l w (k + 1) W') := by
  have hb' : Below w.heap.size w W' := h.1.trans (hb.mono h.1.size)
  cases hp : p (l.getD k d)
  · exact .inr ⟨by rw [he, hp], hb', by rw [any_take p l d k hk, h.2, hp]; rfl⟩
  · exact .inl ⟨by rw [he, hp], hb', any_hit hk hp⟩
theorem upto_end {α : Type} {p : α → Bool} {l : List α} {w W : World} {n : Nat} {e : Ending} (hn : l.length = n) (h : (e = .returned (.bool true) ∧ Hits p l w W) ∨ (e = .returned (.bool false) ∧ Upto p l w n W)) :
    e = .returned (.bool (l.any p)) ∧ Below w.heap.size w W := by
  rcases h with ⟨he, hb, h⟩ | ⟨he, hb, h⟩
  · exact ⟨by rw [he, h], hb⟩
  · rw [← hn, List.take_length] at h
    exact ⟨by rw [he, h], hb⟩
/-- An entry as a value, s: that of its spans. -/
def env (r : Rl) (s : Value) : Value := .agg #[.int .i64 r.k, .int .i64 r.mo, .int .i64 r.n, .int .i64 r.wk, .int .i64 r.fy, .int .i64 r.fm, .int .i64 r.fd, .int .i64 r.ty, .int .i64 r.tm, .int .i64 r.td, s]
/-- ContainsFunc of ints, by a closure that answers p and reads. -/
theorem anyI {v : Value} {l : List Int} (g : FuncId) (caps : Array Value) (w : World) (eg : Ent1 g) (p : Int → Bool) (hl : l.length ≤ 1000000) (hv : HIn w v l)
    (hp : ∀ x W, x ∈ l → Below w.heap.size w W → Calls Tryz.prog g (#[.int .i64 x] ++ caps) W fun e W' => e = .returned (.bool (p x)) ∧ Below W.heap.size W W') :
    Calls Tryz.prog 27 #[v, .func (.func g) #[] caps] w fun e w' => e = .returned (.bool (l.any p)) ∧ Below w.heap.size w w' := by
  obtain ⟨A, c, rfl, _, _, h3⟩ := hv
  refine (containsI A l.length c g caps w eg (fun k => l.getD k 0) (Upto p l w) (Hits p l w) (fun k W hk hW => ?_) (fun k W hk hW => ?_) upto_zero hl).mono fun e w' h => upto_end rfl h
  · obtain ⟨ad, e1, e2⟩ := h3 k hk
    exact ⟨ad, e1, cell_below e2 hW.1⟩
  · exact (hp _ W (getD_mem hk 0) hW.1).mono fun e W' ⟨he, hb⟩ => upto_step hW hk hb he
/-- ContainsFunc of spans, by a closure that answers p and reads. -/
theorem anyS {v : Value} {l : List Spn} (g : FuncId) (caps : Array Value) (w : World) (eg : Ent1 g) (p : Spn → Bool) (hl : l.length ≤ 1000000) (hv : HSp w v l)
    (hp : ∀ x W, x ∈ l → Below w.heap.size w W → Calls Tryz.prog g (#[.agg #[.int .i64 x.f, .int .i64 x.t]] ++ caps) W fun e W' => e = .returned (.bool (p x)) ∧ Below W.heap.size W W') :
    Calls Tryz.prog 42 #[v, .func (.func g) #[] caps] w fun e w' => e = .returned (.bool (l.any p)) ∧ Below w.heap.size w w' := by
  obtain ⟨A, c, rfl, _, _, h3⟩ := hv
  refine (containsS A l.length c g caps w eg (fun k => l.getD k dS) (Upto p l w) (Hits p l w) (fun k W hk hW => ?_) (fun k W hk hW => ?_) upto_zero hl).mono fun e w' h => upto_end rfl h
  · obtain ⟨ad, X, e1, e2, e3, e4⟩ := h3 k hk
    exact ⟨ad, X, e1, e2, cell_below e3 hW.1, cell_below e4 hW.1⟩
  · exact (hp _ W (getD_mem hk dS) hW.1).mono fun e W' ⟨he, hb⟩ => upto_step hW hk hb he
/-- ContainsFunc of entries, by a closure that answers p and reads. -/
theorem anyE {v : Value} {l : List Ent} (g : FuncId) (caps : Array Value) (w : World) (eg : Ent1 g) (p : Ent → Bool) (hl : l.length ≤ 1000000) (hv : HEn w v l)
    (hp : ∀ x s W, x ∈ l → HSp W s x.sp → Below w.heap.size w W → Calls Tryz.prog g (#[env x.r s] ++ caps) W fun e W' => e = .returned (.bool (p x)) ∧ Below W.heap.size W W') :
    Calls Tryz.prog 46 #[v, .func (.func g) #[] caps] w fun e w' => e = .returned (.bool (l.any p)) ∧ Below w.heap.size w w' := by
  obtain ⟨A, c, S, rfl, _, _, h3⟩ := hv
  refine (containsE A l.length c g caps w eg (fun k => (l.getD k dE).r) S (Upto p l w) (Hits p l w) (fun k W hk hW => ?_) (fun k W hk hW => ?_) upto_zero hl).mono fun e w' h => upto_end rfl h
  · obtain ⟨⟨ad, X, e1, e2, e3⟩, _⟩ := h3 k hk
    exact ⟨ad, X, e1, e2, e3.below hW.1⟩
  · exact (hp _ _ W (getD_mem hk dE) ((h3 k hk).2.below hW.1) hW.1).mono fun e W' ⟨he, hb⟩ => upto_step hW hk hb he
/-- ContainsFunc of periods, by a closure that answers p and reads. -/
theorem anyP {v : Value} {l : List Prd} (g : FuncId) (caps : Array Value) (w : World) (eg : Ent1 g) (p : Prd → Bool) (hl : l.length ≤ 1000000) (hv : HPd w v l)
    (hp : ∀ x s u W, x ∈ l → HEn W s x.es → HIn W u x.ex → Below w.heap.size w W → Calls Tryz.prog g (#[.agg #[s, u]] ++ caps) W fun e W' => e = .returned (.bool (p x)) ∧ Below W.heap.size W W') :
    Calls Tryz.prog 28 #[v, .func (.func g) #[] caps] w fun e w' => e = .returned (.bool (l.any p)) ∧ Below w.heap.size w w' := by
  obtain ⟨A, c, E, U, rfl, _, _, h3⟩ := hv
  refine (containsP A l.length c g caps w eg E U (Upto p l w) (Hits p l w) (fun k W hk hW => ?_) (fun k W hk hW => ?_) upto_zero hl).mono fun e w' h => upto_end rfl h
  · obtain ⟨⟨ad, X, e1, e2, e3, e4⟩, _, _⟩ := h3 k hk
    exact ⟨ad, X, e1, e2, cell_below e3 hW.1, cell_below e4 hW.1⟩
  · exact (hp _ _ _ W (getD_mem hk dP) ((h3 k hk).2.1.below hW.1) ((h3 k hk).2.2.below hW.1) hW.1).mono fun e W' ⟨he, hb⟩ => upto_step hW hk hb he
end Go.Proofs.YtlogapkpllgdcaaGreatDoor

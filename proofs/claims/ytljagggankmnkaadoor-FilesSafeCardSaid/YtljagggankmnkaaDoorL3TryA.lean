/- Layer 3's law package: try, what it rests on. -/
import Derived.Test.YtljagggankmnkaaDoorRef3J
namespace Go.Proofs.YtljagggankmnkaaDoor
open Go.RowKit Go.Maps

section
variable {w w0 w1 W : World} {B p : Nat} {F F' : Nat → Prop} {no su : List (Bs × Bs)} {st : List (Stp Bs)} {D : Value}
theorem ref_form (h : RefIs F w D no su st) : ∃ A1 n1 c1 A2 n2 c2 A3 n3 c3, D = DiskV A1 n1 c1 A2 n2 c2 A3 n3 c3 := by
  obtain ⟨A1, c1, A2, c2, A3, c3, e, _⟩ := h
  exact ⟨_, _, _, _, _, _, _, _, _, e⟩
/-- The reference's disk, written out as an argument. -/
abbrev ref3 (A1 : Option Addr) (n1 c1 : Nat) (A2 : Option Addr) (n2 c2 : Nat) (A3 : Option Addr) (n3 c3 : Nat) : Obj := .cells #[.slice A1 n1 c1, .slice A2 n2 c2, .slice A3 n3 c3] 28
abbrev act6 (k : Int) (nm to b : Bs) (s q : Int) : Obj := .cells #[.int .i64 k, .string (str nm), .string (str to), .string (str b), .int .i64 s, .int .i64 q] 30
/-- The three blocks at the entry. -/
theorem ent_is (oD oA oR : Obj) (w : World) : Below w.heap.size w (((w.alloc oD).alloc oA).alloc oR) ∧ (((w.alloc oD).alloc oA).alloc oR).heap[w.heap.size]? = some oD ∧ (((w.alloc oD).alloc oA).alloc oR).heap[w.heap.size + 1]? = some oA ∧ (((w.alloc oD).alloc oA).alloc oR).heap[w.heap.size + 1 + 1]? = some oR ∧ (((w.alloc oD).alloc oA).alloc oR).heap.size = w.heap.size + 3 := by
  refine ⟨(((Below.refl _ w).alloc (Nat.le_refl _) _).alloc (by rw [World.size_alloc]; omega) _).alloc (by rw [World.size_alloc, World.size_alloc]; omega) _, ?_, ?_, ?_, by simp⟩
  · rw [Below.heap_alloc _ _ _ (by rw [World.size_alloc, World.size_alloc]; omega)]
    exact heap_alloc2_old _ _ _
  · rw [Below.heap_alloc _ _ _ (by rw [World.size_alloc, World.size_alloc]; omega)]
    exact heap_alloc2_new _ _ _
  · have h := heap_alloc2_new (w.alloc oD) oA oR
    rw [World.size_alloc] at h
    exact h
/-- Behind the reference's call, and whatever the program's own does. -/
theorem mid_is {oD oA oR oy : Obj} (h : Below (((w.alloc oD).alloc oA).alloc oR).heap.size (((w.alloc oD).alloc oA).alloc oR) w1) (hF : ∀ i, F i → i < w.heap.size) (ht : Turn F (w1.alloc oy) F' W) :
    W.heap[w.heap.size + 1]? = some oA ∧ W.heap[w.heap.size + 1 + 1]? = some oR ∧ W.heap[w1.heap.size]? = some oy ∧ Turn F w F' W ∧ ¬ F' (w.heap.size + 1 + 1) := by
  obtain ⟨hb, _, hA, hR, hs⟩ := ent_is oD oA oR w
  have hs1 := h.size
  have hy : (w1.alloc oy).heap.size = w1.heap.size + 1 := World.size_alloc _ _
  have hk : ∀ i, i < w.heap.size + 3 → ¬ F i → W.heap[i]? = (((w.alloc oD).alloc oA).alloc oR).heap[i]? := fun i hi hf =>
    (ht.block i (by omega) hf).trans ((Below.heap_alloc _ _ _ (by omega)).trans (h.block i (by omega)))
  have n1 : ¬ F (w.heap.size + 1) := fun hf => by have := hF _ hf; omega
  have n2 : ¬ F (w.heap.size + 1 + 1) := fun hf => by have := hF _ hf; omega
  have n3 : ¬ F w1.heap.size := fun hf => by have := hF _ hf; omega
  refine ⟨(hk _ (by omega) n1).trans hA, (hk _ (by omega) n2).trans hR, (ht.block _ (by omega) n3).trans (MapKept.heap_alloc w1 oy).1, (Turn.of_below F ((hb.trans (h.mono hb.size)).alloc (Nat.le_trans hb.size hs1) oy)).trans ht, fun hf => ?_⟩
  rcases ht.foot _ hf with h1 | h1
  · exact n2 h1
  · omega
/-- The same where no variable of its own is laid. -/
theorem mid0_is {oD oA oR : Obj} (h : Below (((w.alloc oD).alloc oA).alloc oR).heap.size (((w.alloc oD).alloc oA).alloc oR) w1) (hF : ∀ i, F i → i < w.heap.size) (ht : Turn F w1 F' W) :
    W.heap[w.heap.size]? = some oD ∧ W.heap[w.heap.size + 1]? = some oA ∧ W.heap[w.heap.size + 1 + 1]? = some oR ∧ Turn F w F' W ∧ ¬ F' (w.heap.size + 1 + 1) := by
  obtain ⟨hb, hD, hA, hR, hs⟩ := ent_is oD oA oR w
  have hs1 := h.size
  have hk : ∀ i, i < w.heap.size + 3 → ¬ F i → W.heap[i]? = (((w.alloc oD).alloc oA).alloc oR).heap[i]? := fun i hi hf =>
    (ht.block i (by omega) hf).trans (h.block i (by omega))
  have n0 : ¬ F (w.heap.size) := fun hf => by have := hF _ hf; omega
  have n1 : ¬ F (w.heap.size + 1) := fun hf => by have := hF _ hf; omega
  have n2 : ¬ F (w.heap.size + 1 + 1) := fun hf => by have := hF _ hf; omega
  exact ⟨(hk _ (by omega) n0).trans hD, (hk _ (by omega) n1).trans hA, (hk _ (by omega) n2).trans hR, (Turn.of_below F (hb.trans (h.mono hb.size))).trans ht, fun hf => by
    rcases ht.foot _ hf with h1 | h1
    · exact n2 h1
    · omega⟩
/-- The store into the result's cell, at the end. -/
theorem end_is {W' : World} {A1 : Option Addr} {n1 c1 : Nat} {A2 : Option Addr} {n2 c2 : Nat} {A3 : Option Addr} {n3 c3 : Nat} {x y z : Value} (ht : Turn F w F' W) (hR : W.heap[w.heap.size + 1 + 1]? = some (ref3 none 0 0 none 0 0 none 0 0)) (hF : ∀ i, F i → i < w.heap.size)
    (hd : Disk W B p F' su no st) (hr : RefIs F' W (DiskV A1 n1 c1 A2 n2 c2 A3 n3 c3) no su st)
    (hW : W' = ((W.setCell ⟨w.heap.size + 1 + 1, 0, none⟩ x).setCell ⟨w.heap.size + 1 + 1, 1, none⟩ y).setCell ⟨w.heap.size + 1 + 1, 2, none⟩ z) (hf : ¬ F' (w.heap.size + 1 + 1)) :
    Turn F w F' W' ∧ Disk W' B p F' su no st ∧ RefIs F' W' (DiskV A1 n1 c1 A2 n2 c2 A3 n3 c3) no su st := by
  subst hW
  exact ⟨ht.set3 (by omega), hd.beside (beside_set3 hR) hf, hr.beside (beside_set3 hR)⟩
theorem keepn {W : World} {g : Nat} {x y z : Value} {P : World → Prop} (h : ∀ W' : World, (∀ i, i ≠ g → W'.heap[i]? = W.heap[i]?) → P W') : P (((W.setCell ⟨g, 0, none⟩ x).setCell ⟨g, 1, none⟩ y).setCell ⟨g, 2, none⟩ z) :=
  h _ fun i hi => ((Below.heap_setCell _ _ _ _ hi).trans (Below.heap_setCell _ _ _ _ hi)).trans (Below.heap_setCell _ _ _ _ hi)
end
theorem keep5 {W : World} {p q g : Nat} {x y z v0 v1 v2 u0 u1 : Value} {i j : Nat} (h : W.cell? ⟨p, 0, none⟩ = some v0 ∧ W.cell? ⟨p, 1, none⟩ = some v1 ∧ W.cell? ⟨p, 2, none⟩ = some v2 ∧ W.cell? ⟨q, i, none⟩ = some u0 ∧ W.cell? ⟨q, j, none⟩ = some u1) (hp : p ≠ g) (hq : q ≠ g) :
    let W' := ((W.setCell ⟨g, 0, none⟩ x).setCell ⟨g, 1, none⟩ y).setCell ⟨g, 2, none⟩ z
    W'.cell? ⟨p, 0, none⟩ = some v0 ∧ W'.cell? ⟨p, 1, none⟩ = some v1 ∧ W'.cell? ⟨p, 2, none⟩ = some v2 ∧ W'.cell? ⟨q, i, none⟩ = some u0 ∧ W'.cell? ⟨q, j, none⟩ = some u1 := by
  obtain ⟨h0, h1, h2, h3, h4⟩ := h
  exact ⟨(keep3 hp).trans h0, (keep3 hp).trans h1, (keep3 hp).trans h2, (keep3 hq).trans h3, (keep3 hq).trans h4⟩
theorem keep4 {W : World} {p q g : Nat} {x y z v0 v1 v2 u0 : Value} {i : Nat} (h : W.cell? ⟨p, 0, none⟩ = some v0 ∧ W.cell? ⟨p, 1, none⟩ = some v1 ∧ W.cell? ⟨p, 2, none⟩ = some v2 ∧ W.cell? ⟨q, i, none⟩ = some u0) (hp : p ≠ g) (hq : q ≠ g) :
    let W' := ((W.setCell ⟨g, 0, none⟩ x).setCell ⟨g, 1, none⟩ y).setCell ⟨g, 2, none⟩ z
    W'.cell? ⟨p, 0, none⟩ = some v0 ∧ W'.cell? ⟨p, 1, none⟩ = some v1 ∧ W'.cell? ⟨p, 2, none⟩ = some v2 ∧ W'.cell? ⟨q, i, none⟩ = some u0 := by
  obtain ⟨h0, h1, h2, h3⟩ := h
  exact ⟨(keep3 hp).trans h0, (keep3 hp).trans h1, (keep3 hp).trans h2, (keep3 hq).trans h3⟩
theorem keep_3 {W : World} {p g : Nat} {x y z v0 v1 v2 : Value} (h : W.cell? ⟨p, 0, none⟩ = some v0 ∧ W.cell? ⟨p, 1, none⟩ = some v1 ∧ W.cell? ⟨p, 2, none⟩ = some v2) (hp : p ≠ g) :
    let W' := ((W.setCell ⟨g, 0, none⟩ x).setCell ⟨g, 1, none⟩ y).setCell ⟨g, 2, none⟩ z
    W'.cell? ⟨p, 0, none⟩ = some v0 ∧ W'.cell? ⟨p, 1, none⟩ = some v1 ∧ W'.cell? ⟨p, 2, none⟩ = some v2 := by
  obtain ⟨h0, h1, h2⟩ := h
  exact ⟨(keep3 hp).trans h0, (keep3 hp).trans h1, (keep3 hp).trans h2⟩
/-- What try hands back: the reference's disk, in step with the program's; and that the errors were the same. -/
def Tried3 (B p : Nat) (F : Nat → Prop) (w : World) (e : Ending) (w' : World) : Prop :=
  ∃ D' F' su' no' st', e = .returned (.tuple #[D', .bool true]) ∧ Turn F w F' w' ∧ Disk w' B p F' su' no' st' ∧ RefIs F' w' D' no' su' st'
set_option maxRecDepth 100000 in
/-- A string turned to bytes, in a region that draws. -/
theorem step_bytes {w : World} {o : Oper} {a : Go.Act} {K : Go.Act → World → Prop} {Q : Exit → Go.Act → World → Prop} (l : Bs) (n : Nat) (hn : l.length = n)
    (h : ∀ c w', Below w.heap.size w w' → Rd w' (some ⟨w.heap.size, 0, none⟩) (bs l) → K (a.put o.dst (.slice (some ⟨w.heap.size, 0, none⟩) n c)) w') :
    Oper.upon Tryd.prog o a K Q (((convert 9 36 (.string (str l))).run Tryd.prog w).andThen fun v w' => .ok (.value v) w') := by
  obtain ⟨c, w', hrun, hb, hr⟩ := bytes_of l w
  subst hn
  rw [hrun]
  exact h c w' hb hr
/-- A step on the reference's disk, kind by kind. -/
def STried (F : Nat → Prop) (no su : List (Bs × Bs)) (st : List (Stp Bs)) (s : Stp Bs) (w : World) (e : Ending) (w' : World) : Prop :=
  ∃ D', e = .returned (.tuple #[D', .int .i64 (errOf no st s)]) ∧ Below w.heap.size w w' ∧ RefIs F w' D' (noOf no st s) su (stOf no st s)
section
variable {F : Nat → Prop} {w : World} {D : Value} {no su : List (Bs × Bs)} {st : List (Stp Bs)}
theorem try_wr (nm b : Bs) (h : RefIs F w D no su st) (hF : ∀ i, F i → i < w.heap.size) (hl1 : no.length ≤ 64) (hl3 : st.length ≤ 4096) (h1 : nm.length ≤ maxLen) (h3 : b.length ≤ maxLen) :
    Calls Tryd.prog 24 #[D, .agg #[.int .i64 0, .string (str nm), .string (str []), .string (str b)]] w (STried F no su st ⟨0, nm, [], b⟩ w) :=
  tryRef_u ⟨0, nm, [], b⟩ h hF hl1 hl3 ⟨h1, Nat.zero_le _, h3⟩
theorem try_re (nm to : Bs) (h : RefIs F w D no su st) (hF : ∀ i, F i → i < w.heap.size) (hl1 : no.length ≤ 64) (hl3 : st.length ≤ 4096) (h1 : nm.length ≤ maxLen) (h3 : to.length ≤ maxLen) :
    Calls Tryd.prog 24 #[D, .agg #[.int .i64 1, .string (str nm), .string (str to), .string (str [])]] w (STried F no su st ⟨1, nm, to, []⟩ w) :=
  tryRef_u ⟨1, nm, to, []⟩ h hF hl1 hl3 ⟨h1, h3, Nat.zero_le _⟩
theorem try_rm (nm : Bs) (h : RefIs F w D no su st) (hF : ∀ i, F i → i < w.heap.size) (hl1 : no.length ≤ 64) (hl3 : st.length ≤ 4096) (h1 : nm.length ≤ maxLen) :
    Calls Tryd.prog 24 #[D, .agg #[.int .i64 2, .string (str nm), .string (str []), .string (str [])]] w (STried F no su st ⟨2, nm, [], []⟩ w) :=
  tryRef_u ⟨2, nm, [], []⟩ h hF hl1 hl3 ⟨h1, Nat.zero_le _, Nat.zero_le _⟩
theorem crashRef_yes' (steps part : Int) (k q : Nat) (hs : (k : Int) = steps) (hp : (q : Int) = part) (h : RefIs F w D no su st) (hF : ∀ i, F i → i < w.heap.size) (hist : Hist su st no) (hk : k ≤ st.length) (hl3 : st.length ≤ 4096) (hq : (q : Int) ≤ 9223372036854775807) :
    Calls Tryd.prog 26 #[D, .int .i64 steps, .int .i64 part] w fun e w' => ∃ D', e = .returned (.tuple #[D', .int .i64 0]) ∧ Below w.heap.size w w' ∧ RefIs F w' D' (crashF su st k q) (crashF su st k q) [] := by
  subst hs hp
  exact crashRef_yes k q h hF hist hk hl3 hq
end
end Go.Proofs.YtljagggankmnkaaDoor

/- Contract: Get. -/
import Derived.Test.YtbeehedppofpnaaDoorBkFn
namespace Go.Proofs.YtbeehedppofpnaaDoor
open Go.RowKit

theorem fnd_at : ∀ (L : List MF) (nm : Tx) (i k : Nat) (f : MF), L[k]? = some f → f.2.1 = nm → (∀ j f', j < k → L[j]? = some f' → f'.2.1 ≠ nm) → fndN nm L i = (i + k : Nat)
  | [], nm, i, k, f, h, _, _ => by simp at h
  | g :: L, nm, i, 0, f, h, hf, _ => by
    have e : g = f := by simpa using h
    rw [fndN, e, if_pos hf]
    rfl
  | g :: L, nm, i, k + 1, f, h, hf, hno => by
    have h1 := hno 0 g (Nat.succ_pos _) rfl
    rw [fndN, if_neg h1, fnd_at L nm (i + 1) k f (by simpa using h) hf fun j f' hj hf' => hno (j + 1) f' (by omega) (by simpa using hf')]
    congr 1
    omega
theorem fnd_no : ∀ (L : List MF) (nm : Tx) (i : Nat), (∀ f ∈ L, f.2.1 ≠ nm) → fndN nm L i = -1
  | [], _, _, _ => rfl
  | g :: L, nm, i, h => by rw [fndN, if_neg (h g (by simp)), fnd_no L nm (i + 1) fun f hf => h f (by simp [hf])]
set_option maxRecDepth 100000 in
theorem getEq_any (a : Int) (S V M : ByteArray) (p : Addr) (w : World) (hp : w.cell? p = some (.string M)) :
    Calls Tryd.prog 15 #[.agg #[.int .i64 a, .string S, .string V], .pointer (some p)] w fun e w' => e = .returned (.bool (S.toList == M.toList)) ∧ Below w.heap.size w w' := by
  have hp' : (w.alloc (.cells #[.int .i64 a, .string S, .string V] 49)).cell? p = some (.string M) := (World.cell?_of_block (Below.heap_alloc w _ p.block (World.block_lt_of_cell? w _ hp))).trans hp
  clear hp
  have HB := Lib.hid ((Below.refl w.heap.size w).alloc (Nat.le_refl _) (.cells #[.int .i64 a, .string S, .string V] 49))
  cases hE : (S.toList == M.toList)
  · have hE' : ¬ S.toList = M.toList := by simpa using hE
    go_enter Tryd.func15, Tryd.ntmps15
    go_wp2_with fail
    go_ret
    exact ⟨rfl, HB.out⟩
  · have hE' : S.toList = M.toList := by simpa using hE
    go_enter Tryd.func15, Tryd.ntmps15
    go_wp2_with fail
    go_ret
    exact ⟨rfl, HB.out⟩
/-- What Get answers. -/
def GetR (nm : Tx) (L : List MF) (w : World) (e : Ending) (w' : World) : Prop :=
  Below w.heap.size w w' ∧ ((∃ k f, L[k]? = some f ∧ fndN nm L 0 = (k : Nat) ∧ e = .returned (.tuple #[.string (str f.2.2), .bool true])) ∨ (fndN nm L 0 = -1 ∧ e = .returned (.tuple #[.string ⟨#[]⟩, .bool false])))
theorem entGet : Ent1 15 := enters_of Tryd.func15 (by kernel_rfl) rfl
set_option maxHeartbeats 2000000 in
set_option maxRecDepth 100000 in
theorem get_any (a : Int) (kd : ByteArray) (v : Value) (L : List MF) (nm : Tx) (w : World) (hl : L.length ≤ 1000000) (hv : RowF w v L) :
    Calls Tryd.prog 8 #[.agg #[.int .i64 a, .string kd, v], .string (str nm)] w (GetR nm L w) := by
  obtain ⟨A, c, rfl, hr⟩ := hv.form
  have hbox := ((Below.refl w.heap.size w).alloc (Nat.le_refl _) (.cells #[.int .i64 a, .string kd, .slice A L.length c] 31)).alloc (by simp) (.cells #[.string (str nm)] 9)
  have hr1 := hr.below hbox
  have hnc : ((w.alloc (.cells #[.int .i64 a, .string kd, .slice A L.length c] 31)).alloc (.cells #[.string (str nm)] 9)).heap[w.heap.size + 1]? = some (.cells #[.string (str nm)] 9 (0, 0)) := by
    have := (MapKept.heap_alloc (w.alloc (.cells #[.int .i64 a, .string kd, .slice A L.length c] 31)) (.cells #[.string (str nm)] 9)).1
    rwa [World.size_alloc] at this
  have hbc : ((w.alloc (.cells #[.int .i64 a, .string kd, .slice A L.length c] 31)).alloc (.cells #[.string (str nm)] 9)).heap[w.heap.size]? = some (.cells #[.int .i64 a, .string kd, .slice A L.length c] 31 (0, 0)) := (Below.heap_alloc _ _ _ (by rw [World.size_alloc]; exact Nat.lt_succ_self _)).trans (MapKept.heap_alloc w _).1
  obtain ⟨w0, hw0⟩ : ∃ x, (w.alloc (.cells #[.int .i64 a, .string kd, .slice A L.length c] 31)).alloc (.cells #[.string (str nm)] 9) = x := ⟨_, rfl⟩
  rw [hw0] at hbox hr1 hnc hbc
  have HX := Lib.hid (indexF A L.length c 15 #[.pointer (some ⟨w.heap.size + 1, 0, none⟩)] w0 entGet (fun k => L.getD k (0, [], [])) (fun k W => Below w0.heap.size w0 W ∧ ∀ j f, j < k → L[j]? = some f → f.2.1 ≠ nm) (fun k W => Below w0.heap.size w0 W ∧ (∀ j f, j < k → L[j]? = some f → f.2.1 ≠ nm) ∧ (L.getD k (0, [], [])).2.1 = nm) (fun k W hk hW => by
    have hgd : L[k]? = some (L.getD k (0, [], [])) := by rw [List.getD_eq_getElem?_getD, List.getElem?_eq_getElem hk]; rfl
    obtain ⟨ad, X, e1, e2, e3, e4, e5⟩ := (hr1.below hW.1).parts.2.2.2 k hk _ hgd
    exact ⟨ad, X, e1, e2, e3, e4, e5⟩) (fun k W hk hW => by
    have hgd : L[k]? = some (L.getD k (0, [], [])) := by rw [List.getD_eq_getElem?_getD, List.getElem?_eq_getElem hk]; rfl
    refine (getEq_any _ _ _ (str nm) _ W (cell9_blk ((hW.1.block _ (blk9_lt hnc)).trans hnc) 0 rfl)).mono ?_
    rintro e W' ⟨rfl, hb⟩
    have hb' : Below w0.heap.size w0 W' := hW.1.trans (hb.mono hW.1.size)
    rw [str_toList, str_toList]
    by_cases hq : (L.getD k (0, [], [])).2.1 = nm
    · exact .inl ⟨by rw [hq]; simp, hb', hW.2, hq⟩
    · refine .inr ⟨by rw [beq_eq_false_iff_ne.2 hq], hb', fun j f hj hf => ?_⟩
      rcases Nat.lt_succ_iff_lt_or_eq.1 hj with h | h
      · exact hW.2 j f h hf
      · subst h
        rw [hgd] at hf
        injection hf with hf
        rw [← hf]
        exact hq) ⟨Below.refl _ _, fun j f hj => absurd hj (Nat.not_lt_zero j)⟩ hl)
  have HR := Lib.hid (And.intro hr1 (And.intro hbox hbc))
  have HF := Lib.hid (And.intro (fun k f (h1 : L[k]? = some f) (h2 : f.2.1 = nm) h3 => fnd_at L nm 0 k f h1 h2 h3) (fun h => fnd_no L nm 0 h))
  obtain ⟨n, hn⟩ : ∃ n, L.length = n := ⟨_, rfl⟩
  have HN := Lib.hid hn
  rw [hn] at HX hw0 HR hl ⊢
  generalize hS : str nm = S at *
  clear hr hbox hr1 hnc hbc hn hv hS
  have b2 := cell9_blk HR.out.2.2 2 (v := .slice A n c) rfl
  go_enter Tryd.func8, Tryd.ntmps8
  go_wp2_with fail
  refine HX.out.mono ?_
  rintro e w1 (⟨k, hk, rfl, hb, hno, heq⟩ | ⟨rfl, hb, hno⟩)
  · have hkl : k < L.length := by rw [HN.out]; exact hk
    obtain ⟨f, hf⟩ : ∃ f, L[k]? = some f := ⟨_, List.getElem?_eq_getElem hkl⟩
    have hgd : L.getD k (0, [], []) = f := by rw [List.getD_eq_getElem?_getD, hf]; rfl
    rw [hgd] at heq
    obtain ⟨ad, X, rfl, hX, e3, e4, e5⟩ := (HR.out.1.below hb).parts.2.2.2 k hk f hf
    have b2' := cell9_blk ((hb.block _ (blk9_lt HR.out.2.2)).trans HR.out.2.2) 2 (v := .slice (some ad) n c) rfl
    have q0 : (0 : Int) ≤ k := by omega
    have q1 : (k : Int) < n := by omega
    have HH := Lib.hid (And.intro hf (And.intro (HF.out.1 k f hf heq hno) (HR.out.2.1.trans (hb.mono HR.out.2.1.size))))
    obtain ⟨V, hV⟩ : ∃ V, str f.2.2 = V := ⟨_, rfl⟩
    rw [hV] at e5
    have HV := Lib.hid hV
    clear hb hno heq hf hgd e3 e4 b2 hV hkl
    go_wp2_with fail
    go_ret2
    refine ⟨HH.out.2.2, .inl ⟨k, f, HH.out.1, by rw [HH.out.2.1]; simp, ?_⟩⟩
    rw [HV.out]
    rfl
  · have hall : ∀ f ∈ L, f.2.1 ≠ nm := fun f hf => by
      obtain ⟨j, hj, e⟩ := List.getElem_of_mem hf
      exact hno j f (by rw [← HN.out]; exact hj) (by rw [List.getElem?_eq_getElem hj, e])
    have HH := Lib.hid (And.intro (HF.out.2 hall) (HR.out.2.1.trans (hb.mono HR.out.2.1.size)))
    clear hb hno hall b2
    go_wp2_with fail
    go_ret2
    exact ⟨HH.out.2, .inr ⟨HH.out.1, rfl⟩⟩
end Go.Proofs.YtbeehedppofpnaaDoor

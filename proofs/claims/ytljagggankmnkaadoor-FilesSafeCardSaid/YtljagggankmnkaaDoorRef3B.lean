/- The reference's lists (layer 3): rows of files; Find, Without, With. -/
import Derived.Test.YtljagggankmnkaaDoorRef3A
import Derived.Test.YtljagggankmnkaaDoorRowA
namespace Go.Proofs.YtljagggankmnkaaDoor
open Go.RowKit Go.Maps

def fileCells (f : Bs × Bs) : List Value := [.string (str f.1), .string (str f.2)]
def RdF (w : World) (A : Option Addr) (L : List (Bs × Bs)) : Prop := Rd w A (L.flatMap fileCells)
theorem RdF.below {w w' : World} {A : Option Addr} {L : List (Bs × Bs)} (h : RdF w A L) (hb : Below w.heap.size w w') : RdF w' A L := Rd.below h hb
theorem fcat_len (L : List (Bs × Bs)) : (L.flatMap fileCells).length = L.length * 2 := flatk_len fileCells 2 (fun _ => rfl) L
theorem RdF.two {w : World} {A : Option Addr} {L : List (Bs × Bs)} (h : RdF w A L) (i : Nat) (hi : i < L.length) : ∃ ad X, A = some ad ∧ ad.add (i * 2) = X ∧ w.cell? X = some (.string (str L[i].1)) ∧ w.cell? { block := X.block, off := X.off + 1 } = some (.string (str L[i].2)) := by
  obtain ⟨ad, e, hc⟩ := h (by rw [fcat_len]; omega)
  have hj : ∀ j u, j < 2 → (fileCells L[i])[j]? = some u → w.cell? (ad.add (i * 2 + j)) = some u := fun j u hj hu => hc _ u (by rw [flatk_get fileCells 2 (fun _ => rfl) L i hi j hj]; exact hu)
  refine ⟨ad, _, e, rfl, hj 0 _ (by omega) rfl, ?_⟩
  have := hj 1 _ (by omega) rfl
  rw [← add_add'] at this
  exact this
theorem owns_formk {w : World} {base k : Nat} {e : TypeId} {v : Value} {n : Nat} {xs : List Value} (h : w.ownsRow base e k v n xs) :
    ∃ A c, v = .slice A n c ∧ n ≤ c ∧ c ≤ maxLen ∧ xs.length = n * k ∧ Rd w A xs ∧ ∀ p, A = some p → base ≤ p.block ∧ p.block < w.heap.size := by
  have hl : xs.length = n * k := by have := h.1; omega
  rcases h.2 with ⟨rfl, rfl⟩ | ⟨g, cap, cur, rfl, hb, hh, hc, hm, _, _⟩
  · exact ⟨none, 0, rfl, Nat.le_refl _, Nat.zero_le _, hl, fun hn => absurd hn (by omega), fun p hp => by cases hp⟩
  · refine ⟨some ⟨g, 0, none⟩, cap, rfl, hc, hm, hl, fun hn => ⟨_, rfl, h.cells (g := g) rfl⟩, fun p hp => ?_⟩
    injection hp with hp
    subst hp
    exact ⟨hb, (Array.getElem?_eq_some_iff.1 hh).1⟩
theorem str_ne {x y : Bs} (h : x ≠ y) : ((str x).toList == (str y).toList) = false := by rw [str_toList, str_toList]; simpa using h
theorem hasF_take {k : Bs} {L : List (Bs × Bs)} (h : ∀ j, (hj : j < L.length) → L[j].1 ≠ k) : hasF k L = false := hasF_false.2 fun p hp => by
  obtain ⟨j, hj, rfl⟩ := List.getElem_of_mem hp
  exact h j hj
theorem got_first {k : Bs} : ∀ {L : List (Bs × Bs)} {i : Nat} (hi : i < L.length), L[i].1 = k → (∀ j, (hj : j < L.length) → j < i → L[j].1 ≠ k) → got k L = some L[i].2
  | p :: L, 0, _, h, _ => by
    have h : p.1 = k := h
    simp [got, h]
  | p :: L, i + 1, hi, h, hb => by
    have h0 : p.1 ≠ k := hb 0 (by simp) (by omega)
    have ih := got_first (L := L) (i := i) (by simpa using hi) h (fun j hj hji => hb (j + 1) (by simpa using hj) (by omega))
    simp only [got, List.getElem_cons_succ] at ih ⊢
    rw [List.find?_cons_of_neg (by simpa using h0)]
    exact ih
set_option maxHeartbeats 1000000 in
set_option maxRecDepth 100000 in
theorem find_is (k : Bs) (A : Option Addr) (n c : Nat) (L : List (Bs × Bs)) (w : World) (hn : L.length = n) (hs : n ≤ 100000) (hr : RdF w A L) :
    Calls Tryd.prog 14 #[.slice A n c, .string (str k)] w fun e w' => w = w' ∧ ((e = .returned (.int .i64 (-1)) ∧ hasF k L = false) ∨ ∃ i : Nat, ∃ hi : i < L.length, e = .returned (.int .i64 i) ∧ L[i].1 = k ∧ got k L = some L[i].2 ∧ hasF k L = true) := by
  have HS := Lib.hid (And.intro hn hr)
  clear hn hr
  go_enter Tryd.func14, Tryd.ntmps14
  go_wp2_with fail
  go_loopw [5] (fun v w' => ∃ i : Nat, v = .int .i64 i ∧ i ≤ n ∧ w = w' ∧ ∀ j, (hj : j < L.length) → j < i → L[j].1 ≠ k) (fun v _ => n - (intOf v).toNat)
  case atStart => exact ⟨0, rfl, Nat.zero_le _, rfl, fun j _ hj => absurd hj (by omega)⟩
  case round =>
    obtain ⟨i, rfl, hi, rfl, hk⟩ := hrel
    have HK := Lib.hid hk
    clear hk
    rcases Nat.lt_or_ge i n with hlt | hge
    · have q0 : (0 : Int) ≤ i := by omega
      have q1 : (i : Int) < n := by omega
      have hil : i < L.length := by rw [HS.out.1]; exact hlt
      obtain ⟨ad, X, rfl, hX, k0, _⟩ := HS.out.2.two i hil
      by_cases he : L[i].1 = k
      · rw [he] at k0
        have HE := Lib.hid he
        clear he
        go_wp2_with fail
        go_ret
        exact ⟨by trivial, .inr ⟨i, hil, rfl, HE.out, got_first hil HE.out HK.out, hasF_mem.2 ⟨_, List.getElem_mem hil, HE.out⟩⟩⟩
      · have hne := str_ne he
        have HE := Lib.hid he
        clear he
        go_wp2_with fail
        refine ⟨⟨i + 1, by go_num, hlt, by trivial, fun j hj hji => ?_⟩, by simp [intOf]; omega⟩
        by_cases hje : j = i
        · subst hje
          exact HE.out
        · exact HK.out j hj (by omega)
    · have q1 : ¬ ((i : Int) < n) := by omega
      go_wp2_with fail
      go_ret
      exact ⟨by trivial, .inl ⟨rfl, hasF_take fun j hj => HK.out j hj (by have := HS.out.1; omega)⟩⟩

theorem infoFile : (Tryd.prog.info? 69).map (fun i => (i.zero, i.size, i.bytes)) = some (some (.agg #[.string ⟨#[]⟩, .string ⟨#[]⟩]), 2, 32) := by kernel_rfl
theorem wpList_appF {w : World} {ops : Array Oper} {rest : List Oper} {o : Oper} {a : Go.Act} {Q : Exit → Go.Act → World → Prop} (hgd : o.guard = none) (s x : Operand)
    (ho : o.op = .call { callee := .builtin .append, args := #[s, x], argTypes := #[25, 25] })
    (base : Nat) (v : Value) (n : Nat) (L : List (Bs × Bs)) (hs : a.eval s = v) (hown : w.ownsRow base 69 2 v n (L.flatMap fileCells)) (g : Nat) (f : Bs × Bs) (hx : a.eval x = .slice (some ⟨g, 0, none⟩) 1 1)
    {fr : Nat × Nat} (hb : w.heap[g]? = some (.cells #[.string (str f.1), .string (str f.2)] 69 fr)) (hn : n + 1 ≤ 1000000) (hbase : base ≤ w.heap.size)
    (h : ∀ v' w', w'.ownsRow base 69 2 v' (n + 1) ((L ++ [f]).flatMap fileCells) → w.grownBy w' v.ownBlock → (v'.ownBlock = v.ownBlock ∨ v'.ownBlock = some w.heap.size) → wpList Tryd.prog ops Q rest (a.put o.dst v') w') :
    wpList Tryd.prog ops Q (o :: rest) a w := by
  obtain ⟨i0, hi0, hz0, hz1, hz2⟩ := info_parts infoFile
  refine wpList_append_own_at w hgd s x _ ho base _ i0 _ 2 32 Tryd.underlying25 hi0 hz0 hz1 hz2 rfl (by omega) v n _ hs hown ⟨g, 0, none⟩ 1 1 (fileCells f) hx rfl (World.news_of_block (cs := #[.string (str f.1), .string (str f.2)]) hb) (by
    intro u hu
    simp only [fileCells, List.mem_cons, List.not_mem_nil, or_false] at hu
    rcases hu with rfl | rfl <;> rfl) (by unfold maxLen; omega) (by omega) hbase ?_
  intro v' w' h1 h2 _ h3
  exact h v' w' (by rw [List.flatMap_append]; simpa using h1) h2 h3
theorem del_snoc {k : Bs} {L : List (Bs × Bs)} {i : Nat} (hi : i < L.length) : del k (L.take (i + 1)) = del k (L.take i) ++ (if L[i].1 = k then [] else [L[i]]) := by
  rw [List.take_succ_eq_append_getElem hi]
  unfold del
  rw [List.filter_append]
  congr 1
  by_cases h : L[i].1 = k <;> simp [h]
/-- A list of files that a function has made. -/
def NewF (w : World) (L : List (Bs × Bs)) (e : Ending) (w' : World) : Prop := ∃ A c, e = .returned (.slice A L.length c) ∧ Below w.heap.size w w' ∧ RdF w' A L ∧ ∀ a, A = some a → w.heap.size ≤ a.block
set_option maxHeartbeats 1000000 in
set_option maxRecDepth 100000 in
theorem without_is (k : Bs) (A : Option Addr) (n c : Nat) (L : List (Bs × Bs)) (w : World) (hn : L.length = n) (hs : n ≤ 100000) (hr : RdF w A L) :
    Calls Tryd.prog 48 #[.slice A n c, .string (str k)] w (NewF w (del k L)) := by
  have HS := Lib.hid (And.intro hn hr)
  clear hn hr
  go_enter Tryd.func48, Tryd.ntmps48
  go_wp2_with fail
  go_loopw [5, 6] (fun o v w' => ∃ i : Nat, v = .int .i64 i ∧ i ≤ n ∧ Below w.heap.size w w' ∧ w'.ownsRow w.heap.size 69 2 o (del k (L.take i)).length ((del k (L.take i)).flatMap fileCells)) (fun _ v _ => n - (intOf v).toNat)
  case atStart => exact ⟨0, rfl, Nat.zero_le _, Below.refl _ _, by simp only [List.take_zero]; exact World.ownsRow_nil _ _ _ _⟩
  case round =>
    obtain ⟨i, rfl, hi, hb, ho⟩ := hrel
    have HK := Lib.hid (And.intro hb ho)
    clear hb ho
    rcases Nat.lt_or_ge i n with hlt | hge
    · have q0 : (0 : Int) ≤ i := by omega
      have q1 : (i : Int) < n := by omega
      have hil : i < L.length := by rw [HS.out.1]; exact hlt
      obtain ⟨ad, X, rfl, hX, k0, k1⟩ := (HS.out.2.below HK.out.1).two i hil
      by_cases he : L[i].1 = k
      · rw [he] at k0
        have HE := Lib.hid he
        clear he
        go_wp2_with fail
        refine ⟨⟨i + 1, by go_num, hlt, HK.out.1, ?_⟩, by simp [intOf]; omega⟩
        rw [del_snoc hil, if_pos HE.out, List.append_nil]
        exact HK.out.2
      · have hne := str_ne he
        obtain ⟨f, hf⟩ : ∃ f, L[i] = f := ⟨_, rfl⟩
        rw [hf] at k0 k1 hne
        have HE := Lib.hid (And.intro he hf)
        clear he hf
        have hdl : (del k (L.take i)).length ≤ i := Nat.le_trans (len_del _ _) (by rw [List.length_take]; omega)
        go_wp2_with
          (at_builtin
           refine wpList_appF rfl (.tmp 20) (.tmp 25) rfl w.heap.size u5 (del k (L.take i)).length (del k (L.take i)) rfl (HK.out.2.alloc _) wr.heap.size f rfl (MapKept.heap_alloc wr (.cells #[.string (str f.1), .string (str f.2)] 69)).1 (by omega) (by rw [World.size_alloc]; have := HK.out.1.size; omega) ?_)
        intro v' w' ho hg ha
        have HN := Lib.hid (And.intro ho (And.intro hg ha))
        clear ho hg ha
        go_wp2_with fail
        refine ⟨⟨i + 1, by go_num, hlt, (HK.out.1.alloc HK.out.1.size _).grown HN.out.2.1 (by rw [World.size_alloc]; have := HK.out.1.size; omega) (fun k hk => (HK.out.2.lt k hk).1), ?_⟩, by simp [intOf]; omega⟩
        rw [del_snoc hil, if_neg (by rw [HE.out.2]; exact HE.out.2 ▸ HE.out.1), HE.out.2, List.length_append]
        rw [List.flatMap_append]
        simpa using HN.out.1
    · have q1 : ¬ ((i : Int) < n) := by omega
      obtain rfl : i = n := by omega
      go_wp2_with fail
      go_ret
      obtain ⟨A', c', rfl, _, _, _, hr', ha'⟩ := owns_formk HK.out.2
      have e1 : L.take i = L := List.take_of_length_le (Nat.le_of_eq HS.out.1)
      rw [e1] at hr' ⊢
      exact ⟨A', c', rfl, HK.out.1, hr', fun a e => (ha' a e).1⟩
end Go.Proofs.YtljagggankmnkaaDoor

/- GrLc, GrAp, in one text. -/
import Derived.Test.YtkfnbapnkmlopaaDoorGrSu
import Derived.Deep.RegionHeld3
import Derived.Laws.ResultCell
import Derived.Laws.Rows
/- Laws GraphAhead, GraphClosed: what they stand on. -/
namespace Go.Proofs.YtkfnbapnkmlopaaDoor
open Go.RowKit

/-- Places in an order, so far. -/
structure AtI (O : List Nat) (n i : Nat) (T : List Nat) : Prop where
  len : T.length = n
  hit : ∀ b y, b < i → O[b]? = some y → T[y]? = some (b + 1)
  zer : ∀ y, y < n → y ∉ O.take i → T[y]? = some 0
theorem AtI.init (O : List Nat) (n : Nat) : AtI O n 0 (List.replicate n 0) where
  len := by simp
  hit := fun b y h => by omega
  zer := fun y hy _ => by rw [List.getElem?_replicate, if_pos hy]
theorem nodup_take {O : List Nat} (nd : O.Nodup) {i y : Nat} (hy : O[i]? = some y) : y ∉ O.take i := fun h => by
  obtain ⟨b, hb, e⟩ := List.getElem_of_mem h
  rw [List.length_take] at hb
  rw [List.getElem_take] at e
  have h1 : O[b]? = O[i]? := by rw [hy, List.getElem?_eq_getElem (by omega), e]
  have := (List.getElem?_inj (show b < O.length by omega) nd).1 h1
  omega
theorem AtI.step {O : List Nat} {n i : Nat} {T : List Nat} (h : AtI O n i T) (nd : O.Nodup) {y : Nat} (hy : O[i]? = some y) (hyn : y < n) : T[y]? = some 0 ∧ AtI O n (i + 1) (T.set y (i + 1)) := by
  refine ⟨h.zer y hyn (nodup_take nd hy), ?_, fun b z hb hz => ?_, fun z hz hzn => ?_⟩
  · rw [List.length_set]; exact h.len
  · by_cases e : b = i
    · subst e
      rw [hy] at hz
      rw [← Option.some.inj hz, List.getElem?_set_self (by rw [h.len]; exact hyn)]
    · have hne : y ≠ z := fun ez => by
        rw [← ez] at hz
        have h1 := (List.getElem?_inj (List.getElem?_eq_some_iff.1 hz).1 nd).1 (hz.trans hy.symm)
        exact e h1
      rw [List.getElem?_set_ne hne]
      exact h.hit b z (by omega) hz
  · obtain ⟨hi, e⟩ := List.getElem?_eq_some_iff.1 hy
    rw [List.take_succ_eq_append_getElem hi, e] at hzn
    rw [List.mem_append, not_or] at hzn
    have hne : y ≠ z := fun ez => hzn.2 (by rw [ez]; simp)
    rw [List.getElem?_set_ne hne]
    exact h.zer z hz hzn.1
/-- A way leads to a place behind its begin. -/
theorem at_lt {M : Wt} {n : Nat} {O T : List Nat} (h : AtI O n n T) (ho : Orw M n O) (hl : O.length = n) {p : Nat × Nat} (hp : p ∈ M) (hp2 : p.2 < n) : ∃ a b, T[p.1]? = some a ∧ T[p.2]? = some b ∧ a < b := by
  have hall : p.2 ∈ O := Classical.byContradiction fun hno => by
    have hnd : (p.2 :: O).Nodup := List.nodup_cons.2 ⟨hno, ho.nd⟩
    have := List.Nodup.length_le_of_subset (l₁ := p.2 :: O) (l₂ := List.range n) hnd fun i hi => by
      rcases List.mem_cons.1 hi with rfl | hi
      · exact List.mem_range.2 hp2
      · exact List.mem_range.2 (ho.lt i hi)
    rw [List.length_cons, List.length_range] at this
    omega
  obtain ⟨b, hb, e⟩ := List.getElem_of_mem hall
  have hb2 : O[b]? = some p.2 := by rw [List.getElem?_eq_getElem hb, e]
  have h1 := ho.pre b p.2 hb2 p.1 hp
  obtain ⟨a, ha, e2⟩ := List.getElem_of_mem h1
  rw [List.length_take] at ha
  rw [List.getElem_take] at e2
  have ha2 : O[a]? = some p.1 := by rw [List.getElem?_eq_getElem (by omega), e2]
  exact ⟨a + 1, b + 1, h.hit a _ (by omega) ha2, h.hit b _ (by omega) hb2, by omega⟩
/-- Does one of the first i ways begin at x and lead back? -/
noncomputable def bkI (M : Wt) (n x i : Nat) : Bool := (M.take i).any fun p => p.1 == x && (rcT M n p.2).contains x
theorem bkI_step {M : Wt} {n x i : Nat} {p : Nat × Nat} (hp : M[i]? = some p) : bkI M n x (i + 1) = (bkI M n x i || (p.1 == x && (rcT M n p.2).contains x)) := by
  obtain ⟨hi, e⟩ := List.getElem?_eq_some_iff.1 hp
  unfold bkI
  rw [List.take_succ_eq_append_getElem hi, e, List.any_append]
  simp
theorem bkI_all {M : Wt} {n x : Nat} (hM : Okw n M) (hw : Wy (eM M) x x) : bkI M n x M.length = true := by
  unfold bkI
  rw [List.take_length, List.any_eq_true]
  have hx : x < n := (hw.lt hM).1
  cases hw with
  | one a => exact ⟨(x, x), eM_mem.1 a, by simp [rcT_mem, hx]⟩
  | @more _ j _ a h => exact ⟨(x, j), eM_mem.1 a, by simp [rcT_mem, hx, h]⟩
theorem any_take {L : List Nat} {x j y : Nat} (h : L[j]? = some y) : (L.take (j + 1)).contains x = ((L.take j).contains x || y == x) := by
  obtain ⟨hi, e⟩ := List.getElem?_eq_some_iff.1 h
  rw [List.take_succ_eq_append_getElem hi, e]
  by_cases e2 : x = y
  · subst e2
    simp
  · have e3 : ¬ y = x := fun h => e2 h.symm
    simp [e2, e3]
theorem orw_at {M : Wt} {n : Nat} {O : List Nat} (ho : Orw M n O) (hl : O.length = n) : ∀ i, i ≤ n → ∃ T, AtI O n i T
  | 0, _ => ⟨_, AtI.init O n⟩
  | i + 1, hi => by
    obtain ⟨T, hT⟩ := orw_at ho hl i (by omega)
    have hy : O[i]? = some O[i] := List.getElem?_eq_getElem (by omega)
    exact ⟨_, (hT.step ho.nd hy (ho.lt _ (List.getElem_mem _))).2⟩
theorem wy_mono {M M' : Wt} (h : ∀ p ∈ M, p ∈ M') {i j : Nat} (hw : Wy (eM M) i j) : Wy (eM M') i j := by
  induction hw with
  | one a => exact .one (eM_mem.2 (h _ (eM_mem.1 a)))
  | more a _ ih => exact .more (eM_mem.2 (h _ (eM_mem.1 a))) ih
theorem acyc_add {M : Wt} {n : Nat} {O : List Nat} (hM : Okw n M) (ho : Orw M n O) (hl : O.length = n) {a b x y : Nat} (ha : O[a]? = some x) (hb : O[b]? = some y) (hab : a < b) : ¬ Cyc (eM (M ++ [(x, y)])) := by
  obtain ⟨T, hT⟩ := orw_at ho hl n (Nat.le_refl _)
  rintro ⟨i, hi⟩
  refine Nat.lt_irrefl _ (wy_rank (fun z => (T[z]?).getD 0) (fun i j hj => ?_) hi)
  rcases List.mem_append.1 (eM_mem.1 hj) with h | h
  · obtain ⟨u, v, h1, h2, h3⟩ := at_lt hT ho hl h (hM _ h).2
    dsimp only at h1 h2
    rw [h1, h2]
    exact h3
  · have e := List.mem_singleton.1 h
    injection e with e1 e2
    subst e1 e2
    have hbn := (List.getElem?_eq_some_iff.1 hb).1
    rw [hT.hit a _ (by omega) ha, hT.hit b _ (by omega) hb]
    show a + 1 < b + 1
    omega
theorem cyc_add {M : Wt} {n x r : Nat} (h : r ∈ rcT M n x) : Cyc (eM (M ++ [(r, x)])) := by
  have h1 : x ∈ eM (M ++ [(r, x)]) r := eM_mem.2 (by simp)
  rcases (rcT_mem.1 h).2 with rfl | hw
  · exact ⟨_, .one h1⟩
  · exact ⟨r, .more h1 (wy_mono (fun p hp => by simp [hp]) hw)⟩
theorem ok_add {M : Wt} {n x y : Nat} (hM : Okw n M) (hx : x < n) (hy : y < n) : Okw n (M ++ [(x, y)]) := by
  intro p hp
  rcases List.mem_append.1 hp with h | h
  · exact hM p h
  · rw [List.mem_singleton.1 h]
    exact ⟨hx, hy⟩
theorem cst_add (M : Wt) (x y : Nat) : cst (M ++ [(x, y)]) = cst M ++ [((x : Int), (y : Int))] := by unfold cst; simp
theorem nt_cst (M : Wt) : ntW (cst M) = M := by
  unfold ntW cst
  rw [List.map_map]
  exact (List.map_congr_left fun p _ => rfl).trans (List.map_id M)
theorem ck_cst {M : Wt} {n : Nat} (hn : n ≤ 4096) (hM : Okw n M) (hl : M.length ≤ 1048576) : ckW n (cst M) = 0 := by
  rw [ckW_eq, if_neg (by rw [cst_len]; omega), if_neg]
  intro h
  obtain ⟨p, hp, hb⟩ := List.any_eq_true.1 h
  unfold cst at hp
  obtain ⟨q, hq, rfl⟩ := List.mem_map.1 hp
  have := hM q hq
  unfold badE at hb
  simp only [Bool.or_eq_true, decide_eq_true_eq] at hb
  omega
/-- Answers of ways that are well. -/
theorem orA_acyc {M : Wt} {n : Nat} (hn : n ≤ 4096) (hM : Okw n M) (hl : M.length ≤ 1048576) (hc : ¬ Cyc (eM M)) : orA n (cst M) = (ordT M n, 0) := by
  rw [orA_ok (ck_cst hn hM hl) (by rw [nt_cst, Int.toNat_natCast]; exact (lpT_none hM).2 hc), nt_cst, Int.toNat_natCast]
theorem orA_cyc {M : Wt} {n : Nat} (hn : n ≤ 4096) (hM : Okw n M) (hl : M.length ≤ 1048576) (hc : Cyc (eM M)) : orA n (cst M) = ([], 9) :=
  orA_loop (ck_cst hn hM hl) (by rw [nt_cst, Int.toNat_natCast]; exact fun h => (lpT_none hM).1 h hc)
theorem lpA_cyc {M : Wt} {n : Nat} (hn : n ≤ 4096) (hM : Okw n M) (hl : M.length ≤ 1048576) (hc : Cyc (eM M)) : ∃ x : Nat, lpA n (cst M) = ((x : Int), true, 0) := by
  cases h : lpT M n with
  | none => exact absurd hc ((lpT_none hM).1 h)
  | some x => exact ⟨x, lpA_yes (ck_cst hn hM hl) (by rw [nt_cst, Int.toNat_natCast]; exact h)⟩
theorem rcA_well {M : Wt} {n x : Nat} (hn : n ≤ 4096) (hM : Okw n M) (hl : M.length ≤ 1048576) (hx : x < n) : rcA n (cst M) x = (rcT M n x, 0) := by
  rw [rcA_ok (ck_cst hn hM hl) (by omega), nt_cst, Int.toNat_natCast, Int.toNat_natCast]
/-- A place among d, from any int. -/
theorem pick_u (n : Int) (d : Nat) (h0 : 0 < d) (h1 : d ≤ 1000000) : ∃ k : Nat, k < d ∧ wrap64 ((IntKind.u64.wrap n).tmod (d : Int)) = (k : Int) := by
  have e : IntKind.u64.wrap n = n % 18446744073709551616 := by simp [IntKind.wrap, IntKind.bits, IntKind.signed]
  have h0' : 0 ≤ IntKind.u64.wrap n := by rw [e]; omega
  rw [Int.tmod_eq_emod_of_nonneg h0']
  generalize IntKind.u64.wrap n = x at h0' ⊢
  have h2 := Int.emod_nonneg x (show (d : Int) ≠ 0 by omega)
  have h3 := Int.emod_lt_of_pos x (show (0 : Int) < d by omega)
  refine ⟨(x % d).toNat, by omega, ?_⟩
  rw [IntWalk.wrap64_in _ ⟨by omega, by omega⟩]
  omega
theorem infoW : (Tryd.prog.info? 87).map (fun i => (i.zero, i.size, i.bytes)) = some (some (.agg #[.int .i64 0, .int .i64 0]), 2, 16) := by kernel_rfl
theorem one_wy (L : List (Int × Int)) : ∀ u ∈ L.flatMap wyC, u.oneCell' = true := fun u hu => by
  obtain ⟨p, _, hp⟩ := List.mem_flatMap.1 hu
  simp only [wyC, List.mem_cons, List.not_mem_nil, or_false] at hp
  rcases hp with rfl | rfl <;> rfl
theorem cst_flat (M : Wt) (x y : Nat) : (cst (M ++ [(x, y)])).flatMap wyC = (cst M).flatMap wyC ++ [.int .i64 (x : Nat), .int .i64 (y : Nat)] := by
  rw [cst_add, List.flatMap_append]
  rfl
end Go.Proofs.YtkfnbapnkmlopaaDoor
/- An append in a region that draws (of stage 3, apart); an element of two ints. -/
namespace Go.Proofs.YtkfnbapnkmlopaaDoor
open Go.RowKit

/-- An append in a region that draws: any number of elements of any size, from nil or any source. -/
theorem step_appK {P : Program} {w : World} {ops : Array Oper} {o : Oper} {a : Go.Act} {K : Go.Act → World → Prop} {Q : Exit → Go.Act → World → Prop} {E : Prop} (hgd : o.guard = none) (s x : Operand) (t : TypeId)
    (ho : o.op = .call { callee := .builtin .append, args := #[s, x], argTypes := #[t, t] })
    {e : TypeId} {z : Value} {size bytes : Nat} (ht : P.underlying t = some (.slice e)) (hinfo : (P.info? e).map (fun i => (i.zero, i.size, i.bytes)) = some (some z, size, bytes)) (hone : z.cells.size = size) (hsz : 0 < size)
    (base : Nat) (v : Value) (n : Nat) (xs : List Value) (hs : a.eval s = v) (hown : w.ownsRow base e size v n xs)
    (A : Option Addr) (m c : Nat) (news : List Value) (hx : a.eval x = .slice A m c) (hl : news.length = m * size) (hr : Rd w A news) (h1 : ∀ u ∈ news, u.oneCell' = true)
    (h63 : n + m ≤ maxLen) (hbytes : (n + m) * bytes ≤ 140737488355328) (hbase : base ≤ w.heap.size)
    (h : ∀ v' w', w'.ownsRow base e size v' (n + m) (xs ++ news) → w.grownBy w' v.ownBlock → (v'.ownBlock = v.ownBlock ∨ v'.ownBlock = some w.heap.size) → K (a.put o.dst v') w') :
    if Region.wanted o (yielded ops a.tmps) = true then Oper.wp P o a w K Q else E := by
  rw [if_pos (by simp [Region.wanted, hgd])]
  have hrun : ∃ v' w', (Builtin.append_ #[t, t] o.type #[v, .slice A m c]).run P w = .ok v' w' ∧ w'.ownsRow base e size v' (n + m) (xs ++ news) ∧ w.grownBy w' v.ownBlock ∧ (v'.ownBlock = v.ownBlock ∨ v'.ownBlock = some w.heap.size) := by
    obtain ⟨i, hi, hz, his, hib⟩ := info_parts hinfo
    rcases A with _ | ad
    · have hm : m = 0 := by
        rcases Nat.eq_zero_or_pos m with h0 | h0
        · exact h0
        · obtain ⟨ad, h, _⟩ := hr (by rw [hl]; exact Nat.mul_pos h0 hsz)
          cases h
      subst hm
      have hn : news = [] := List.eq_nil_of_length_eq_zero (by simpa using hl)
      subst hn
      refine ⟨v, w, ?_, by simpa using hown, World.grownBy.refl w _, .inl rfl⟩
      rcases hown.2 with ⟨rfl, rfl⟩ | ⟨g, cap, cur, rfl, _, _, hnc, _⟩
      · simp [Builtin.append_, run_underlying ht, sizeOf, typeInfo, hi, Builtin.lenOf, Builtin.firstCells]
      · simp [Builtin.append_, run_underlying ht, sizeOf, typeInfo, hi, Builtin.lenOf, Builtin.firstCells, hnc, storeCells]
    · have hcells : ∀ j u, news[j]? = some u → w.cell? (ad.add j) = some u := fun j u hu => by
        have hj := (List.getElem?_eq_some_iff.1 hu).1
        obtain ⟨ad', h, hc⟩ := hr (by omega)
        injection h with h
        subst h
        exact hc j u hu
      obtain ⟨v', w', hrun, h2, h3, _, h5⟩ := run_append_own_at (P := P) w base t o.type e i z size bytes ht hi hz his hib hone hsz v n xs hown ad m c news hl hcells h1 h63 hbytes hbase
      exact ⟨v', w', hrun, h2, h3, h5⟩
  obtain ⟨v', w', hrun, h2, h3, h4⟩ := hrun
  unfold Oper.wp execOp
  simp only [ho, resolve, invoke, builtin, Sem.run_bind, Sem.run_pure, Result.andThen_ok, List.map_toArray, List.map_cons, List.map_nil, hs, hx, hrun]
  exact h v' w' h2 h3 h4
theorem below_alO {w w' : World} (h : Below w.heap.size w w') (o : Obj) : Below w.heap.size w (w'.alloc o) := h.alloc h.size o
theorem rd_oneW (W : World) (x y : Int) : Rd (W.alloc (.cells #[.int .i64 x, .int .i64 y] 87)) (some ⟨W.heap.size, 0, none⟩) [.int .i64 x, .int .i64 y] := Rd.block (MapKept.heap_alloc W (.cells #[.int .i64 x, .int .i64 y] 87)).1
theorem RowW.rd {w : World} {A : Option Addr} {n c : Nat} {L : List (Int × Int)} (h : RowW w (.slice A n c) L) : Rd w A (L.flatMap wyC) := by
  obtain ⟨A', c', h1, _, _, h4⟩ := h
  injection h1 with h1 h1' h1''
  subst h1 h1' h1''
  exact h4
theorem one_two (x y : Int) : ∀ u ∈ [Value.int .i64 x, .int .i64 y], u.oneCell' = true := fun u hu => by
  simp only [List.mem_cons, List.not_mem_nil, or_false] at hu
  rcases hu with rfl | rfl <;> rfl
end Go.Proofs.YtkfnbapnkmlopaaDoor

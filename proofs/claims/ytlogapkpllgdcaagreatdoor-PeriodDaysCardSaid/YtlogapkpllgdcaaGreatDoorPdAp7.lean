/- PdApp, PdMeant, in one text. -/
import Derived.Test.YtlogapkpllgdcaaGreatDoorPdMem
import Derived.Test.YtlogapkpllgdcaaGreatDoorPdInA
/- Appends of elements of any size onto a row of one's own; spans, entries, periods as rows. -/
namespace Go.Proofs.YtlogapkpllgdcaaGreatDoor
open Go.RowKit

/-- A slice type t of elements e, of size cells each. -/
structure ElemK (P : Program) (t e : TypeId) (z : Value) (size bytes : Nat) : Prop where
  ht : P.underlying t = some (.slice e)
  info : (P.info? e).map (fun i => (i.zero, i.size, i.bytes)) = some (some z, size, bytes)
  one : z.cells.size = size
  pos : 0 < size
theorem run_appK {P : Program} {w : World} {t e ty : TypeId} {z : Value} {size bytes : Nat} (hE : ElemK P t e z size bytes) (base : Nat) (v : Value) (n : Nat) (xs : List Value) (hown : w.ownsRow base e size v n xs)
    (A : Option Addr) (m c : Nat) (news : List Value) (hl : news.length = m * size) (hr : Rd w A news) (h1 : ∀ u ∈ news, u.oneCell' = true)
    (h63 : n + m ≤ maxLen) (hbytes : (n + m) * bytes ≤ 140737488355328) (hbase : base ≤ w.heap.size) :
    ∃ v' w', (Builtin.append_ #[t, t] ty #[v, .slice A m c]).run P w = .ok v' w' ∧ w'.ownsRow base e size v' (n + m) (xs ++ news) ∧ w.grownBy w' v.ownBlock ∧ (v'.ownBlock = v.ownBlock ∨ v'.ownBlock = some w.heap.size) := by
  obtain ⟨ht, hinfo, hone, hsz⟩ := hE
  obtain ⟨i, hi, hz, his, hib⟩ := info_parts hinfo
  rcases A with _ | ad
  · have hm : m = 0 := by
      rcases Nat.eq_zero_or_pos m with h0 | h0
      · exact h0
      · obtain ⟨ad, h, _⟩ := hr (by rw [hl]; exact Nat.mul_pos h0 hsz)
        cases h
    subst hm
    have hn : news = [] := List.eq_nil_of_length_eq_zero (by simpa using hl)
    subst hn
    refine ⟨v, w, ?_, by simpa using hown, World.grownBy.refl w _, .inl rfl⟩
    rcases hown.2 with ⟨rfl, rfl⟩ | ⟨g, cap, cur, rfl, _, _, hnc, _⟩
    · simp [Builtin.append_, run_underlying ht, sizeOf, typeInfo, hi, Builtin.lenOf, Builtin.firstCells]
    · simp [Builtin.append_, run_underlying ht, sizeOf, typeInfo, hi, Builtin.lenOf, Builtin.firstCells, hnc, storeCells]
  · have hcells : ∀ j u, news[j]? = some u → w.cell? (ad.add j) = some u := fun j u hu => by
      have hj := (List.getElem?_eq_some_iff.1 hu).1
      obtain ⟨ad', h, hc⟩ := hr (by omega)
      injection h with h
      subst h
      exact hc j u hu
    obtain ⟨v', w', hrun, h2, h3, _, h5⟩ := run_append_own_at (P := P) w base t ty e i z size bytes ht hi hz his hib hone hsz v n xs hown ad m c news hl hcells h1 h63 hbytes hbase
    exact ⟨v', w', hrun, h2, h3, h5⟩
theorem wp_appK {P : Program} {w : World} {o : Oper} {a : Act} {K : Act → World → Prop} {Q : Exit → Act → World → Prop} (s x : Operand) (t : TypeId)
    (ho : o.op = .call { callee := .builtin .append, args := #[s, x], argTypes := #[t, t] })
    {e : TypeId} {z : Value} {size bytes : Nat} (hE : ElemK P t e z size bytes)
    (base : Nat) (v : Value) (n : Nat) (xs : List Value) (hs : a.eval s = v) (hown : w.ownsRow base e size v n xs)
    (A : Option Addr) (m c : Nat) (news : List Value) (hx : a.eval x = .slice A m c) (hl : news.length = m * size) (hr : Rd w A news) (h1 : ∀ u ∈ news, u.oneCell' = true)
    (h63 : n + m ≤ maxLen) (hbytes : (n + m) * bytes ≤ 140737488355328) (hbase : base ≤ w.heap.size)
    (h : ∀ v' w', w'.ownsRow base e size v' (n + m) (xs ++ news) → w.grownBy w' v.ownBlock → (v'.ownBlock = v.ownBlock ∨ v'.ownBlock = some w.heap.size) → K (a.put o.dst v') w') : o.wp P a w K Q := by
  obtain ⟨v', w', hrun, h2, h3, h4⟩ := run_appK (ty := o.type) hE base v n xs hown A m c news hl hr h1 h63 hbytes hbase
  unfold Oper.wp execOp
  simp only [ho, resolve, invoke, builtin, Sem.run_bind, Sem.run_pure, Result.andThen_ok, List.map_toArray, List.map_cons, List.map_nil, hs, hx, hrun]
  exact h v' w' h2 h3 h4
theorem wpList_appK {P : Program} {w : World} {ops : Array Oper} {rest : List Oper} {o : Oper} {a : Act} {Q : Exit → Act → World → Prop} (hgd : o.guard = none) (s x : Operand) (t : TypeId)
    (ho : o.op = .call { callee := .builtin .append, args := #[s, x], argTypes := #[t, t] })
    {e : TypeId} {z : Value} {size bytes : Nat} (hE : ElemK P t e z size bytes)
    (base : Nat) (v : Value) (n : Nat) (xs : List Value) (hs : a.eval s = v) (hown : w.ownsRow base e size v n xs)
    (A : Option Addr) (m c : Nat) (news : List Value) (hx : a.eval x = .slice A m c) (hl : news.length = m * size) (hr : Rd w A news) (h1 : ∀ u ∈ news, u.oneCell' = true)
    (h63 : n + m ≤ maxLen) (hbytes : (n + m) * bytes ≤ 140737488355328) (hbase : base ≤ w.heap.size)
    (h : ∀ v' w', w'.ownsRow base e size v' (n + m) (xs ++ news) → w.grownBy w' v.ownBlock → (v'.ownBlock = v.ownBlock ∨ v'.ownBlock = some w.heap.size) → wpList P ops Q rest (a.put o.dst v') w') : wpList P ops Q (o :: rest) a w :=
  wpList_plain hgd fun _ hK => wp_appK s x t ho hE base v n xs hs hown A m c news hx hl hr h1 h63 hbytes hbase fun v' w' h2 h3 h4 => hK _ _ (h v' w' h2 h3 h4)
theorem step_appK {P : Program} {w : World} {ops : Array Oper} {o : Oper} {a : Act} {K : Act → World → Prop} {Q : Exit → Act → World → Prop} {E : Prop} (hgd : o.guard = none) (s x : Operand) (t : TypeId)
    (ho : o.op = .call { callee := .builtin .append, args := #[s, x], argTypes := #[t, t] })
    {e : TypeId} {z : Value} {size bytes : Nat} (hE : ElemK P t e z size bytes)
    (base : Nat) (v : Value) (n : Nat) (xs : List Value) (hs : a.eval s = v) (hown : w.ownsRow base e size v n xs)
    (A : Option Addr) (m c : Nat) (news : List Value) (hx : a.eval x = .slice A m c) (hl : news.length = m * size) (hr : Rd w A news) (h1 : ∀ u ∈ news, u.oneCell' = true)
    (h63 : n + m ≤ maxLen) (hbytes : (n + m) * bytes ≤ 140737488355328) (hbase : base ≤ w.heap.size)
    (h : ∀ v' w', w'.ownsRow base e size v' (n + m) (xs ++ news) → w.grownBy w' v.ownBlock → (v'.ownBlock = v.ownBlock ∨ v'.ownBlock = some w.heap.size) → K (a.put o.dst v') w') :
    if Region.wanted o (yielded ops a.tmps) = true then Oper.wp P o a w K Q else E := by
  rw [if_pos (by simp [Region.wanted, hgd])]
  exact wp_appK s x t ho hE base v n xs hs hown A m c news hx hl hr h1 h63 hbytes hbase h
/-- What an owned row tells. -/
theorem ownsK_form {w : World} {base size : Nat} {e : TypeId} {v : Value} {n : Nat} {xs : List Value} (h : w.ownsRow base e size v n xs) :
    ∃ A c, v = .slice A n c ∧ n ≤ c ∧ c ≤ maxLen ∧ xs.length = n * size ∧ Rd w A xs := by
  have hl : xs.length = n * size := h.1
  rcases h.2 with ⟨rfl, rfl⟩ | ⟨g, cap, cur, rfl, hb, hh, hc, hm, _, _⟩
  · exact ⟨none, 0, rfl, Nat.le_refl _, Nat.zero_le _, hl, fun hn => absurd hn (by rw [hl]; simp)⟩
  · exact ⟨some ⟨g, 0, none⟩, cap, rfl, hc, hm, hl, fun _ => ⟨_, rfl, h.cells (g := g) rfl⟩⟩
/-- Cells of spans. -/
def spC (s : Spn) : List Value := [.int .i64 s.f, .int .i64 s.t]
theorem flat_len {α : Type} (cells : α → List Value) (k : Nat) (hk : ∀ a, (cells a).length = k) : ∀ l : List α, (l.flatMap cells).length = l.length * k
  | [] => by simp
  | a :: l => by rw [List.flatMap_cons, List.length_append, hk, flat_len cells k hk l, List.length_cons, Nat.add_mul, Nat.one_mul]; omega
theorem flat_get {α : Type} (cells : α → List Value) (k : Nat) (hk : ∀ a, (cells a).length = k) (l : List α) (d : α) (i : Nat) (hi : i < l.length) (j : Nat) (hj : j < k) : (l.flatMap cells)[i * k + j]? = (cells (l.getD i d))[j]? := by
  induction l generalizing i with
  | nil => cases hi
  | cons s T ih =>
    rw [List.flatMap_cons]
    cases i with
    | zero => rw [Nat.zero_mul, Nat.zero_add, List.getElem?_append_left (by rw [hk]; omega)]; rfl
    | succ i =>
      have e1 : (i + 1) * k + j = k + (i * k + j) := by rw [Nat.add_mul, Nat.one_mul]; omega
      rw [List.getElem?_append_right (by rw [hk]; omega), hk, e1, Nat.add_sub_cancel_left, ih i (by simpa using hi)]
      rfl
/-- A row of spans is a slice that holds them. -/
theorem HSp.of_rd {w : World} {A : Option Addr} {c n : Nat} {l : List Spn} (hn : l.length = n) (hc : n ≤ c) (hm : c ≤ maxLen) (h : Rd w A (l.flatMap spC)) : HSp w (.slice A n c) l := by
  subst hn
  refine ⟨A, c, rfl, hc, hm, fun k hk => ?_⟩
  obtain ⟨ad, e, hcell⟩ := h (by rw [flat_len spC 2 (fun _ => rfl)]; omega)
  have h0 := hcell (k * 2 + 0) (.int .i64 (l.getD k dS).f) (by rw [flat_get spC 2 (fun _ => rfl) l dS k hk 0 (by omega)]; rfl)
  have h1 := hcell (k * 2 + 1) (.int .i64 (l.getD k dS).t) (by rw [flat_get spC 2 (fun _ => rfl) l dS k hk 1 (by omega)]; rfl)
  rw [← add_add'] at h1
  exact ⟨ad, _, e, rfl, h0, h1⟩
/-- And the other way round. -/
theorem HSp.rd {w : World} {v : Value} {l : List Spn} (h : HSp w v l) : ∃ A c, v = .slice A l.length c ∧ l.length ≤ c ∧ c ≤ maxLen ∧ Rd w A (l.flatMap spC) := by
  obtain ⟨A, c, rfl, h1, h2, h3⟩ := h
  refine ⟨A, c, rfl, h1, h2, fun hn => ?_⟩
  rw [flat_len spC 2 (fun _ => rfl)] at hn
  obtain ⟨ad, X, e, _⟩ := h3 0 (by omega)
  refine ⟨ad, e, fun j u hu => ?_⟩
  have hj := (List.getElem?_eq_some_iff.1 hu).1
  rw [flat_len spC 2 (fun _ => rfl)] at hj
  have hd : j / 2 < l.length := by omega
  obtain ⟨ad', X, e', hX, c0, c1⟩ := h3 (j / 2) hd
  rw [e] at e'
  injection e' with e'
  subst e' hX
  have h1 := flat_get spC 2 (fun _ => rfl) l dS (j / 2) hd (j % 2) (Nat.mod_lt _ (by omega))
  have ej : j / 2 * 2 + j % 2 = j := by omega
  rw [ej, hu] at h1
  rcases (show j % 2 = 0 ∨ j % 2 = 1 by omega) with hm | hm
  · rw [hm] at h1
    have e2 : j / 2 * 2 = j := by omega
    rw [e2] at c0
    rw [c0, ← (show some u = some _ from h1)]
  · rw [hm] at h1
    have e2 : ad.add j = (ad.add (j / 2 * 2)).add 1 := by rw [add_add']; congr 1; omega
    rw [e2]
    exact c1.trans (show some u = some _ from h1).symm
theorem elS : ElemK Tryz.prog 44 51 (.agg #[.int .i64 0, .int .i64 0]) 2 16 := ⟨Tryz.underlying44, by kernel_rfl, rfl, by decide⟩
theorem spC_one (l : List Spn) : ∀ u ∈ l.flatMap spC, u.oneCell' = true := by
  intro u hu
  obtain ⟨s, _, hs⟩ := List.mem_flatMap.1 hu
  simp only [spC, List.mem_cons, List.not_mem_nil, or_false] at hs
  rcases hs with rfl | rfl <;> rfl
theorem flat_snoc {α : Type} (cells : α → List Value) (l : List α) (a : α) : (l ++ [a]).flatMap cells = l.flatMap cells ++ cells a := by simp
end Go.Proofs.YtlogapkpllgdcaaGreatDoor
/- Contract: meant: the spans of the entries whose rule means a day. -/
namespace Go.Proofs.YtlogapkpllgdcaaGreatDoor
open Go.RowKit

noncomputable def mnt (day : Int) (l : List Ent) : List Spn := l.flatMap fun e => if hitD e.r day = true then e.sp else []
theorem mnt_snoc (day : Int) (l : List Ent) (k : Nat) (hk : k < l.length) : mnt day (l.take (k + 1)) = mnt day (l.take k) ++ (if hitD (l.getD k dE).r day = true then (l.getD k dE).sp else []) := by
  unfold mnt
  rw [List.take_add_one, getD_some hk dE, List.flatMap_append]
  simp
theorem mnt_any (day : Int) (l : List Ent) (j : Nat) : ((mnt day l).any fun s => inS s j) = l.any (hitE day j) := by
  unfold mnt
  rw [List.any_flatMap]
  congr 1
  funext e
  unfold hitE
  cases hitD e.r day <;> simp
theorem mnt_mem {day : Int} {l : List Ent} {s : Spn} (h : s ∈ mnt day l) : ∃ e ∈ l, s ∈ e.sp := by
  obtain ⟨e, he, hs⟩ := List.mem_flatMap.1 h
  refine ⟨e, he, ?_⟩
  split at hs
  · exact hs
  · cases hs
theorem owns_below7 {w w' : World} {base s : Nat} {e : TypeId} {v : Value} {n : Nat} {xs : List Value} (h : w.ownsRow base e s v n xs) (hb : Below w.heap.size w w') : w'.ownsRow base e s v n xs :=
  h.kept (row := none) ⟨hb.os, hb.tape, hb.output, hb.size, fun j hj _ => hb.block j hj⟩ (by cases v.ownBlock <;> simp)
/-- What meant's loop keeps. -/
def MeantR (w : World) (day : Int) (l : List Ent) (v : Value) (k : Nat) (W : World) : Prop :=
  ∃ n : Nat, (mnt day (l.take k)).length = n ∧ n ≤ 32 * k ∧ W.ownsRow w.heap.size 51 2 v n ((mnt day (l.take k)).flatMap spC) ∧ Below w.heap.size w W
set_option maxRecDepth 100000 in
set_option maxHeartbeats 2000000 in
theorem meant_any (l : List Ent) (v : Value) (day : Int) (w : World) (ht : Tab w) (hv : HEn w v l) (ha1 : -70368744177664 ≤ day) (ha2 : day ≤ 70368744177664) (hl : l.length ≤ 64) (hsp : ∀ e ∈ l, e.sp.length ≤ 32) (hmay : ∀ e ∈ l, mayR e.r = true) :
    Calls Tryz.prog 65 #[v, .int .i64 day] w fun e w' => ∃ u, e = .returned u ∧ HSp w' u (mnt day l) ∧ Below w.heap.size w w' := by
  obtain ⟨A, c, S, rfl, _, _, hk⟩ := hv
  have HK := Lib.hid hk
  have HME := Lib.hid (fun r W (hW : Below w.heap.size w W) (h : mayR r = true) => means_any r day W (ht.below hW) ha1 ha2 h)
  have HSP := Lib.hid hsp
  have HMY := Lib.hid hmay
  obtain ⟨n, hn⟩ : ∃ n, l.length = n := ⟨_, rfl⟩
  rw [hn] at hl ⊢
  have HN := Lib.hid hn
  clear hk hsp hmay ht hn
  go_enter Tryz.func65, Tryz.ntmps65
  go_wp2_with fail
  go_loopw [5, 10] (fun u i wr => ∃ k : Nat, k ≤ n ∧ i = .int .i64 k ∧ MeantR w day l u k wr) (fun _ i _ => n - (intOf i).toNat)
  case atStart => exact ⟨0, Nat.zero_le _, rfl, 0, rfl, Nat.zero_le _, World.ownsRow_nil _ _ _ _, Below.refl _ _⟩
  case round =>
    obtain ⟨k, hkn, rfl, m, hm, hmk, hown, hbw⟩ := hrel
    by_cases hlt : k < n
    · have hlt' : k < l.length := by rw [HN.out]; exact hlt
      obtain ⟨⟨ad, X, rfl, hX, hat⟩, hs⟩ := HK.out k hlt'
      have hmem := getD_mem hlt' dE
      have hmay := HMY.out _ hmem
      have hsl := HSP.out _ hmem
      have hsn := mnt_snoc day l k hlt'
      generalize l.getD k dE = e at *
      have hat' := hat.below hbw
      generalize S k = s at *
      obtain ⟨B, c', rfl, hs1, hs2, hs3⟩ := hs.rd
      obtain ⟨q, hq⟩ : ∃ q, e.sp.length = q := ⟨_, rfl⟩
      rw [hq] at hat' hat hs1 hsl
      obtain ⟨c0, c1, c2, c3, c4, c5, c6, c7, c8, c9, c10⟩ := hat'
      have hb1 := hbw.alloc hbw.size (.cells (encs e.r (.slice B q c')) 68)
      have HM := Lib.hid (HME.out e.r (wr.alloc (.cells (encs e.r (.slice B q c')) 68)) hb1 hmay)
      have G0 := Lib.hid (heap_alloc_new wr (.cells (encs e.r (.slice B q c')) 68))
      have HR := Lib.hid (And.intro hm (And.intro hown (And.intro hbw hb1)))
      have HS := Lib.hid (And.intro hs3 (And.intro hq hsn))
      clear hm hown hbw hb1 hs hs1 hs2 hs3 hq hsn hat hmem hmay hlt'
      obtain ⟨r, sp⟩ := e
      obtain ⟨kk, mo, nn, wk, fy, fm, fd, ty, tm, td⟩ := r
      unfold rv at HM
      simp only at *
      obtain ⟨b, hbq⟩ : ∃ b, hitD ⟨kk, mo, nn, wk, fy, fm, fd, ty, tm, td⟩ day = b := ⟨_, rfl⟩
      rw [hbq] at HM
      have HBQ := Lib.hid hbq
      clear hbq
      cases b
      · go_wp2_with fail
        refine HM.out.mono ?_
        rintro e w1 ⟨rfl, hb1⟩
        have hb2 := HR.out.2.2.2.trans (hb1.mono HR.out.2.2.2.size)
        have HF := Lib.hid (show MeantR w day l u5 (k + 1) w1 from ⟨m, by rw [HS.out.2.2, HBQ.out, if_neg (by decide), List.append_nil]; exact HR.out.1, by omega, by rw [HS.out.2.2, HBQ.out, if_neg (by decide), List.append_nil]; exact owns_below7 (HR.out.2.1.alloc _) hb1, hb2⟩)
        clear hb1 hb2 c0 c1 c2 c3 c4 c5 c6 c7 c8 c9 c10
        go_wp2_with fail
        go_roundw
        case rel => exact ⟨k + 1, by omega, by go_num, HF.out⟩
        case measure => simp [intOf]; omega
      · go_wp2_with fail
        refine HM.out.mono ?_
        rintro e w1 ⟨rfl, hb1⟩
        have hb2 := HR.out.2.2.2.trans (hb1.mono HR.out.2.2.2.size)
        have k10 := cell_blk ((hb1.block wr.heap.size (by simp)).trans G0.out) 10 (v := .slice B q c') rfl
        have HB2 := Lib.hid hb2
        have HOW := Lib.hid (owns_below7 (HR.out.2.1.alloc _) hb1)
        have HRD := Lib.hid (HS.out.1.below hb2)
        clear hb1 hb2 c0 c1 c2 c3 c4 c5 c6 c7 c8 c9 c10
        go_wp2_with
          (at_builtin
           refine wpList_appK rfl (.tmp 18) (.tmp 20) 44 rfl elS w.heap.size u5 m _ rfl HOW.out B q c' (sp.flatMap spC) rfl (by rw [flat_len spC 2 (fun _ => rfl), HS.out.2.1]) HRD.out (spC_one sp) (by unfold maxLen; omega) (by omega) HB2.out.size ?_)
        intro v' w' ho hg _
        have hbn := HB2.out.grown hg HB2.out.size (fun k hk => (HOW.out.lt k hk).1)
        have HF := Lib.hid (show MeantR w day l v' (k + 1) w' from ⟨m + q, by rw [HS.out.2.2, HBQ.out, if_pos rfl, List.length_append, HR.out.1, HS.out.2.1], by omega, by rw [HS.out.2.2, HBQ.out, if_pos rfl, List.flatMap_append]; exact ho, hbn⟩)
        clear ho hg hbn k10
        go_wp2_with fail
        go_roundw
        case rel => exact ⟨k + 1, by omega, by go_num, HF.out⟩
        case measure => simp [intOf]; omega
    · obtain rfl : k = n := by omega
      have hfull : l.take k = l := by rw [← HN.out]; exact List.take_length
      rw [hfull] at hown hm
      obtain ⟨A, c, e, h1, h2, h3, h4⟩ := ownsK_form hown
      have HF := Lib.hid (And.intro e (And.intro (HSp.of_rd hm h1 h2 h4) hbw))
      clear hm hown hbw e h1 h2 h3 h4 hfull
      go_wp2_with fail
      go_ret
      exact ⟨_, rfl, by rw [show u5 = _ from HF.out.1]; exact HF.out.2.1, HF.out.2.2⟩
end Go.Proofs.YtlogapkpllgdcaaGreatDoor

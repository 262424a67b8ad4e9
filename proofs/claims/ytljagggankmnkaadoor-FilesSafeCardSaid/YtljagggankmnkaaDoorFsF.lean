/- Package files: Crash and Sync. -/
import Derived.Test.YtljagggankmnkaaDoorFsE
namespace Go.Proofs.YtljagggankmnkaaDoor
open Go.RowKit Go.Maps

/-! ### plain lists -/
def plays {α : Type} (z : α) (l : List (Bs × α)) (T : List (Stp α)) : List (Bs × α) := T.foldl (actF z) l
theorem plays_take {α : Type} (z : α) (l : List (Bs × α)) (T : List (Stp α)) (i : Nat) (h : i < T.length) : plays z l (T.take (i + 1)) = actF z (plays z l (T.take i)) T[i] := by
  unfold plays
  rw [List.take_succ_eq_append_getElem h, List.foldl_append]
  rfl
theorem plays_on2 {α β : Type} (f : α → β) (z : α) : ∀ (T : List (Stp α)) (l : List (Bs × α)), on2 f (plays z l T) = plays (f z) (on2 f l) (T.map (Stp.map f))
  | [], _ => rfl
  | s :: T, l => by
    simp only [plays, List.foldl_cons, List.map_cons]
    have h := plays_on2 f z T (actF z l s)
    rw [plays, plays, on2_act] at h
    exact h
theorem mem_plays {α : Type} {z : α} {p : Bs × α} : ∀ {T : List (Stp α)} {l : List (Bs × α)}, p ∈ plays z l T → (∃ q ∈ l, q.2 = p.2) ∨ (∃ s ∈ T, p.2 = s.b) ∨ p.2 = z
  | [], l, h => .inl ⟨p, h, rfl⟩
  | s :: T, l, h => by
    rcases mem_plays (T := T) (l := actF z l s) h with ⟨q, hq, e⟩ | ⟨t, ht, e⟩ | e
    · rcases mem_act hq with h1 | h1 | h1 | ⟨r, hr, h1⟩
      · exact .inl ⟨q, h1, e⟩
      · exact .inr (.inl ⟨s, by simp, by rw [← e, h1]⟩)
      · exact .inr (.inr (by rw [← e, h1]))
      · exact .inl ⟨r, hr, by rw [h1, e]⟩
    · exact .inr (.inl ⟨t, by simp [ht], e⟩)
    · exact .inr (.inr e)
theorem plays_snoc {α : Type} (z : α) (l : List (Bs × α)) (T : List (Stp α)) (s : Stp α) : plays z l (T ++ [s]) = actF z (plays z l T) s := by
  simp [plays, List.foldl_append]
theorem hist_plays {su no : List (Bs × Bs)} {st : List (Stp Bs)} (h : Hist su st no) : plays [] su st = no := by
  induction h with
  | nil _ _ => rfl
  | snoc s _ _ _ _ ih => rw [plays_snoc, ih]
/-- Each step could be done where it came. -/
theorem hist_step {su no : List (Bs × Bs)} {st : List (Stp Bs)} (h : Hist su st no) : ∀ i, (hi : i < st.length) → (st[i].k ≠ 0 → hasF st[i].nm (plays [] su (st.take i)) = true) ∧ (plays [] su (st.take (i + 1))).length ≤ 64 := by
  induction h with
  | nil _ _ => intro i hi; cases hi
  | @snoc st no s h1 h2 hn h3 ih =>
    intro i hi
    by_cases hl : i < st.length
    · have := ih i hl
      rw [List.getElem_append_left hl, List.take_append_of_le_length (by omega), List.take_append_of_le_length (by omega)]
      exact this
    · have he : i = st.length := by simp at hi; omega
      subst he
      rw [List.getElem_append_right (by omega)]
      simp only [Nat.sub_self, List.getElem_cons_zero]
      rw [List.take_append_of_le_length (by omega), List.take_length, List.take_of_length_le (by simp), plays_snoc, hist_plays h1]
      exact ⟨h2, h3⟩
theorem hist_take {su no : List (Bs × Bs)} {st : List (Stp Bs)} (h : Hist su st no) (i : Nat) (hi : i ≤ st.length) : (plays [] su (st.take i)).length ≤ 64 := by
  cases i with
  | zero => exact h.le.1
  | succ i => exact (hist_step h i hi).2
theorem hist_pre {su no : List (Bs × Bs)} {st : List (Stp Bs)} (h : Hist su st no) : ∀ i, i ≤ st.length → Hist su (st.take i) (plays [] su (st.take i)) := by
  induction h with
  | nil h1 h2 => intro i hi; rw [show i = 0 by simpa using hi]; exact Hist.nil h1 h2
  | @snoc st no s h1 h2 hn h3 ih =>
    intro i hi
    by_cases hl : i ≤ st.length
    · rw [List.take_append_of_le_length hl]; exact ih i hl
    · rw [List.take_of_length_le (by simp at hi ⊢; omega), plays_snoc, hist_plays h1]
      exact Hist.snoc s h1 h2 hn h3
/-- What a crash leaves. -/
def crashF (su : List (Bs × Bs)) (st : List (Stp Bs)) (k q : Nat) : List (Bs × Bs) :=
  match st[k]? with
  | some s => if 0 < q ∧ s.k = 0 then put s.nm (s.b.take q) (plays [] su (st.take k)) else plays [] su (st.take k)
  | none => plays [] su (st.take k)
theorem len_put_any {α : Type} (k : Bs) (a b : α) (l : List (Bs × α)) : (put k a l).length = (put k b l).length := by rw [len_put, len_put]
theorem crashF_le {su no : List (Bs × Bs)} {st : List (Stp Bs)} (h : Hist su st no) (k q : Nat) (hk : k ≤ st.length) : (crashF su st k q).length ≤ 64 := by
  unfold crashF
  split
  · rename_i s hs
    have hl := (List.getElem?_eq_some_iff.1 hs).1
    have he := (List.getElem?_eq_some_iff.1 hs).2
    split
    · rename_i h0
      have h1 := (hist_step h k hl).2
      rw [plays_take _ _ _ _ hl, he] at h1
      have h2 : actF [] (plays [] su (st.take k)) s = put s.nm s.b (plays [] su (st.take k)) := by simp [actF, h0.2]
      rw [h2, len_put_any _ _ (s.b.take q)] at h1
      exact h1
    · exact hist_take h k hk
  · exact hist_take h k hk

theorem plays_len {Vs Vn : List (Bs × Pay)} {T : List (Stp Pay)} (h : Hist (on2 Prod.snd Vs) (T.map (Stp.map Prod.snd)) (on2 Prod.snd Vn)) (i : Nat) (hi : i ≤ T.length) : (plays nilPay Vs (T.take i)).length ≤ 64 := by
  have h1 := hist_take h i (by simpa using hi)
  have h2 : on2 Prod.snd (plays nilPay Vs (T.take i)) = plays [] (on2 Prod.snd Vs) ((T.take i).map (Stp.map Prod.snd)) := plays_on2 Prod.snd nilPay (T.take i) Vs
  rw [← List.map_take, ← h2, on2_len] at h1
  exact h1
theorem plays_hv {w : World} {F : Nat → Prop} {Vs : List (Bs × Pay)} {T : List (Stp Pay)} (hs : ∀ t ∈ Vs, Hv w F t.2) (ht : ∀ s ∈ T, Hv w F s.b) (i : Nat) : ∀ t ∈ plays nilPay Vs (T.take i), Hv w F t.2 := by
  intro t h
  rcases mem_plays h with ⟨q, hq, e⟩ | ⟨s, hs', e⟩ | e
  · rw [← e]; exact hs q hq
  · rw [e]; exact ht s (List.mem_of_mem_take hs')
  · rw [e]; exact Hv.nil _ _
theorem plays_fg (Vs : List (Bs × Pay)) (T : List (Stp Pay)) (i : Nat) : on2 Prod.snd (plays nilPay Vs (T.take i)) = plays [] (on2 Prod.snd Vs) ((T.map (Stp.map Prod.snd)).take i) := by
  rw [plays_on2, List.map_take]; rfl
theorem crashF_plain {su : List (Bs × Bs)} {st : List (Stp Bs)} {k q : Nat} (h : ∀ s, st[k]? = some s → ¬ (0 < q ∧ s.k = 0)) : crashF su st k q = plays [] su (st.take k) := by
  unfold crashF
  split
  · rename_i s hs
    rw [if_neg (h s hs)]
  · rfl
theorem crashF_part {su : List (Bs × Bs)} {st : List (Stp Bs)} {k q : Nat} {s : Stp Bs} (hs : st[k]? = some s) (hq : 0 < q) (h0 : s.k = 0) : crashF su st k q = put s.nm (s.b.take q) (plays [] su (st.take k)) := by
  unfold crashF
  rw [hs]
  simp only [hq, h0, and_self, if_true]
theorem crashF_names {su no : List (Bs × Bs)} {st : List (Stp Bs)} (h : Hist su st no) (k q : Nat) (hk : k ≤ st.length) : ∀ t ∈ crashF su st k q, named t.1 = true := by
  unfold crashF
  split
  · rename_i s hs
    have hl := (List.getElem?_eq_some_iff.1 hs).1
    have he := (List.getElem?_eq_some_iff.1 hs).2
    split
    · rename_i h0
      intro t ht
      have h1 := (hist_pre h (k + 1) hl).names
      rw [plays_take _ _ _ _ hl, he] at h1
      have h2 : actF [] (plays [] su (st.take k)) s = put s.nm s.b (plays [] su (st.take k)) := by simp [actF, h0.2]
      rw [h2] at h1
      rcases mem_put.1 ht with rfl | h3
      · exact h1 (s.nm, s.b) (mem_put.2 (.inl rfl))
      · exact (hist_pre h k hk).names t h3.1
    · exact (hist_pre h k hk).names
  · exact (hist_pre h k hk).names
theorem crash_end {w w2 w3 : World} {B p ba bb : Nat} {F : Nat → Prop} {sv : Value} {V2 : List (Bs × Pay)} (ht : Turn F w F w2) (hm2 : MapIs w2 ba V2) (hc : w2.heap[p]? = some (.cells #[.map (some ba), .map (some bb), sv] 61)) (hb : Below w2.heap.size w2 w3) (hm3 : MapIs w3 w2.heap.size V2)
    (hv : ∀ t ∈ V2, Hv w2 F t.2) (hl : V2.length ≤ 64) (hvn : ∀ t ∈ on2 Prod.snd V2, named t.1 = true) (hFp : F p) (hFa : F ba) (hFl : ∀ i, F i → B ≤ i ∧ i < w.heap.size) (hne : p ≠ ba) (hB : B ≤ w.heap.size) :
    ∃ F', Turn F w F' ((w3.setCell ⟨p, 1, none⟩ (.map (some w2.heap.size))).setCell ⟨p, 2, none⟩ (.slice none 0 0)) ∧ Dk ((w3.setCell ⟨p, 1, none⟩ (.map (some w2.heap.size))).setCell ⟨p, 2, none⟩ (.slice none 0 0)) B p F' ba w2.heap.size (.slice none 0 0) V2 V2 [] := by
  have t1 : Turn F w2 F ((w3.setCell ⟨p, 1, none⟩ (.map (some w2.heap.size))).setCell ⟨p, 2, none⟩ (.slice none 0 0)) := ((Turn.of_below F hb).trans (Turn.setCell _ hFp)).trans (Turn.setCell _ hFp)
  have hlp : p < w2.heap.size := (Array.getElem?_eq_some_iff.1 hc).1
  have hla := hm2.lt
  have hc3 := (hb.block p hlp).trans hc
  have hF' : ∀ i, (i = p ∨ i = ba ∨ i = w2.heap.size) → F i ∨ w2.heap.size ≤ i := by
    rintro i (rfl | rfl | rfl)
    · exact .inl hFp
    · exact .inl hFa
    · exact .inr (Nat.le_refl _)
  have t2 := t1.widen hF'
  have hk : ∀ i, i ≠ p → ((w3.setCell ⟨p, 1, none⟩ (.map (some w2.heap.size))).setCell ⟨p, 2, none⟩ (.slice none 0 0)).heap[i]? = w3.heap[i]? := fun i h => (Below.heap_setCell _ _ _ i h).trans (Below.heap_setCell _ _ _ i h)
  refine ⟨fun i => i = p ∨ i = ba ∨ i = w2.heap.size, ht.trans t2, ?_⟩
  refine { cell := setCell_2 (setCell_1 hc3), ms := hm2.block ((hk ba (Ne.symm hne)).trans (hb.block ba hla)), mn := hm3.block (hk _ (by omega)), row := World.ownsRow_nil _ _ _ _, hs := fun t h => (hv t h).turn t2, hn := fun t h => (hv t h).turn t2, ht := fun s h => (by cases h), foot := fun i => ?_, apart := ⟨hne, by omega, by omega, by simp [Value.ownBlock], by simp [Value.ownBlock], by simp [Value.ownBlock]⟩, low := ⟨(hFl p hFp).1, (hFl ba hFa).1, Nat.le_trans hB ht.size⟩, few := Nat.zero_le _, hist := Hist.nil (by rw [on2_len]; exact hl) hvn }
  simp [Value.ownBlock]
theorem crash_err {p : Nat} (ma mb : Value) (A : Option Addr) (c n : Nat) (k q : Int) (w : World) (hc : w.heap[p]? = some (.cells #[ma, mb, .slice A n c] 61)) (h : k < 0 ∨ (n : Int) < k ∨ q < 0) :
    Calls Tryd.prog 22 #[.pointer (some ⟨p, 0, none⟩), .int .i64 k, .int .i64 q] w fun e w' => e = .returned (errV 1) ∧ w = w' := by
  have c2 := cell_blk hc 2 (v := .slice A n c) rfl
  clear hc
  have e1 : errV 1 = .iface 70 (.int .i64 1) := rfl
  rw [e1]
  clear e1
  cases h1 : decide (k < 0) <;> cases h2 : decide ((n : Int) < k) <;> cases h3 : decide (q < 0)
  case false.false.false => exfalso; simp at h1 h2 h3; omega
  all_goals
    clear h
    go_enter Tryd.func22, Tryd.ntmps22
    go_wp2_with fail
    go_ret
    exact ⟨rfl, rfl⟩
section
variable {B p : Nat} {F : Nat → Prop} {ba bb : Nat} {sv : Value} {Vs Vn : List (Bs × Pay)} {T : List (Stp Pay)}
theorem frz_blk {w : World} {g : Nat} {cs : Array Value} {t : TypeId} (h : w.heap[g]? = some (.cells cs t (0, 0))) (k : Nat) : w.frozen? ⟨g, k, none⟩ = false := by
  simp [World.frozen?, h]
theorem flat_get (T : List (Stp Pay)) (i : Nat) (hi : i < T.length) (j : Nat) (hj : j < 4) : (T.flatMap cellsOf)[i * 4 + j]? = (cellsOf T[i])[j]? := by
  induction T generalizing i with
  | nil => cases hi
  | cons s T ih =>
    have hc : (cellsOf s).length = 4 := rfl
    rw [List.flatMap_cons]
    cases i with
    | zero => rw [Nat.zero_mul, Nat.zero_add, List.getElem?_append_left (by omega)]; rfl
    | succ i =>
      rw [List.getElem?_append_right (by omega), hc, show (i + 1) * 4 + j - 4 = i * 4 + j by omega, ih i (by simpa using hi)]
      rfl
theorem row_cells {w : World} {A : Option Addr} {n c : Nat} {e : TypeId} (h : w.ownsRow B e 4 (.slice A n c) T.length (T.flatMap cellsOf)) (i : Nat) (hi : i < T.length) :
    ∃ g, A = some ⟨g, 0, none⟩ ∧ ∀ j v, j < 4 → (cellsOf T[i])[j]? = some v → w.cell? ⟨g, i * 4 + j, none⟩ = some v := by
  rcases h.2 with ⟨_, e⟩ | ⟨g, cap, cur, e, _, hb, _, _, _, hx⟩
  · omega
  · injection e with e1 e2 e3
    subst e1
    refine ⟨g, rfl, fun j v hj hv => ?_⟩
    have h1 := flat_get T i hi j hj
    rw [← hx, hv, List.getElem?_take_of_lt (by omega)] at h1
    simp [World.cell?, hb]
    simpa using h1
set_option maxHeartbeats 4000000 in
set_option maxRecDepth 100000 in
theorem crash_dk (k q n : Nat) (w : World) (hd : Dk w B p F ba bb sv Vs Vn T) (hn : T.length = n) (hk : k ≤ n) (hB : B ≤ w.heap.size) :
    Calls Tryd.prog 22 #[.pointer (some ⟨p, 0, none⟩), .int .i64 k, .int .i64 q] w fun e w' => ∃ V2 bn F', e = .returned .nilIface ∧ Turn F w F' w' ∧ Dk w' B p F' ba bn (.slice none 0 0) V2 V2 [] ∧ on2 Prod.snd V2 = crashF (on2 Prod.snd Vs) (T.map (Stp.map Prod.snd)) k q := by
  obtain ⟨A, c, rfl, hcm, hnc⟩ : ∃ A c, sv = .slice A n c ∧ c ≤ maxLen ∧ n ≤ c := by
    rcases hd.row.2 with ⟨rfl, e⟩ | ⟨g, cap, cur, rfl, _, _, h, h', _⟩
    · exact ⟨_, _, by rw [← hn, e], Nat.zero_le _, by omega⟩
    · exact ⟨_, _, by rw [hn], h', by omega⟩
  have c0 := cell_blk hd.cell 0 (v := .map (some ba)) rfl
  have c2 := cell_blk hd.cell 2 (v := .slice A n c) rfl
  have h1 : decide ((k : Int) < 0) = false := by simp
  have h2 : decide ((n : Int) < k) = false := by simp; omega
  have h3 : decide ((q : Int) < 0) = false := by simp
  have h4 : (0 : Int) ≤ k := by omega
  have h5 : (k : Int) ≤ c := by omega
  have h6 : decide (n < k) = false := by simp; omega
  have h7 := hk
  have HD := Lib.hid hd
  have HN := Lib.hid (And.intro hn (And.intro hk hB))
  clear hd hn hk hB
  go_enter Tryd.func22, Tryd.ntmps22
  go_wp2_with fail
  have HC := Lib.hid (And.intro c0 c2)
  clear c0 c2 h1 h2 h3 h4 h5 h6
  go_loopw [36] (fun v wr => ∃ i : Nat, v = .int .i64 i ∧ i ≤ k ∧ Turn F w F wr ∧ MapIs wr ba (plays nilPay Vs (T.take i)) ∧ wr.heap[p]? = some (.cells #[.map (some ba), .map (some bb), .slice A n c] 61) ∧ wr.ownsRow B 76 4 (.slice A n c) T.length (T.flatMap cellsOf)) (fun v _ => k - (intOf v).toNat)
  case atStart => exact ⟨0, rfl, Nat.zero_le _, Turn.refl _ _, HD.out.ms, HD.out.cell, HD.out.row⟩
  case round =>
    obtain ⟨i, rfl, hik, ht, hm, hc, hr⟩ := hrel
    have HT := Lib.hid (And.intro ht (And.intro hm (And.intro hc hr)))
    have cc0 := cell_blk hc 0 (v := .map (some ba)) rfl
    have cc2 := cell_blk hc 2 (v := .slice A n c) rfl
    clear ht hm hc hr
    rcases Nat.lt_or_ge i k with hlt | hge
    · have hiT : i < T.length := by have := HN.out.1; omega
      obtain ⟨g, rfl, hcell⟩ := row_cells HT.out.2.2.2 i hiT
      obtain ⟨s, hs⟩ : ∃ s, T[i] = s := ⟨_, rfl⟩
      rw [hs] at hcell
      obtain ⟨x0, x1, x2, A3, n3, c3, ha⟩ : ∃ x0 x1 x2 A3 n3 c3, cellsOf s = [.int .i64 x0, .string x1, .string x2, .slice A3 n3 c3] := by
        obtain ⟨A3, c3, e, _⟩ := (HD.out.ht s (hs ▸ List.getElem_mem hiT)).1
        exact ⟨_, _, _, A3, _, c3, by rw [cellsOf, e]⟩
      rw [ha] at hcell
      have k0 : wr.cell? ⟨g, i * 4, none⟩ = some (.int .i64 x0) := hcell 0 _ (by omega) rfl
      have k1 : wr.cell? ⟨g, i * 4 + 1, none⟩ = some (.string x1) := hcell 1 _ (by omega) rfl
      have k2 : wr.cell? ⟨g, i * 4 + 2, none⟩ = some (.string x2) := hcell 2 _ (by omega) rfl
      have k3 : wr.cell? ⟨g, i * 4 + 3, none⟩ = some (.slice A3 n3 c3) := hcell 3 _ (by omega) rfl
      have HS := Lib.hid (And.intro hs (And.intro ha hiT))
      have hi0 : (0 : Int) ≤ (i : Int) := by omega
      have hi1 : (i : Int) < (k : Int) := by omega
      have hi2 : (k : Int) ≤ 4096 := by have := HD.out.few; have := HN.out.1; omega
      clear hcell hs ha
      have hbz := (MapKept.heap_alloc wr (.cells #[.int .i64 0, .string ⟨#[]⟩, .string ⟨#[]⟩, .slice none 0 0] 76)).1
      have z0 := cell_blk hbz 0 (v := .int .i64 0) rfl
      have z1 := cell_blk hbz 1 (v := .string ⟨#[]⟩) rfl
      have z2 := cell_blk hbz 2 (v := .string ⟨#[]⟩) rfl
      have z3 := cell_blk hbz 3 (v := .slice none 0 0) rfl
      have y0 := frz_blk hbz 0
      have y1 := frz_blk hbz 1
      have y2 := frz_blk hbz 2
      have y3 := frz_blk hbz 3
      clear hbz
      go_wp2_with fail
      clear z0 z1 z2 z3 y0 y1 y2 y3 k0 k1 k2 k3 cc2
      have hb0 := (MapKept.heap_alloc wr (.cells #[.int .i64 x0, .string x1, .string x2, .slice A3 n3 c3] 76)).1
      have hw0 := (Below.refl wr.heap.size wr).alloc (Nat.le_refl _) (.cells #[.int .i64 x0, .string x1, .string x2, .slice A3 n3 c3] 76)
      generalize wr.alloc (.cells #[.int .i64 x0, .string x1, .string x2, .slice A3 n3 c3] 76) = w0 at hb0 hw0 ⊢
      have hc0 := (hw0.block p (Array.getElem?_eq_some_iff.1 HT.out.2.2.1).1).trans HT.out.2.2.1
      have d0 : w0.drew.cell? ⟨p, 0, none⟩ = _ := cell_blk hc0 0 (v := .map (some ba)) rfl
      have k0 : w0.drew.cell? ⟨wr.heap.size, 0, none⟩ = _ := cell_blk hb0 0 (v := .int .i64 x0) rfl
      have k1 : w0.drew.cell? ⟨wr.heap.size, 1, none⟩ = _ := cell_blk hb0 1 (v := .string x1) rfl
      have k2 : w0.drew.cell? ⟨wr.heap.size, 2, none⟩ = _ := cell_blk hb0 2 (v := .string x2) rfl
      have k3 : w0.drew.cell? ⟨wr.heap.size, 3, none⟩ = _ := cell_blk hb0 3 (v := .slice A3 n3 c3) rfl
      have e0 : w0.cell? ⟨p, 0, none⟩ = _ := d0
      have e1 : w0.cell? ⟨wr.heap.size, 0, none⟩ = _ := k0
      have e2 : w0.cell? ⟨wr.heap.size, 1, none⟩ = _ := k1
      have e3 : w0.cell? ⟨wr.heap.size, 2, none⟩ = _ := k2
      have e4 : w0.cell? ⟨wr.heap.size, 3, none⟩ = _ := k3
      have hm0 : MapIs w0 ba _ := HT.out.2.1.block (hw0.block _ HT.out.2.1.lt)
      have hsd := (HD.out.ht s (HS.out.1 ▸ List.getElem_mem HS.out.2.2))
      have hon := on_is s hsd.2.1 ba (plays nilPay Vs (T.take i)) w0.drew hm0 (by have := plays_len HD.out.hist i (by have := HS.out.2.2; omega); omega) (by have := hsd.2.2.1; omega) (by have := hsd.2.2.2; omega)
      have hsv : stepV s = .agg #[.int .i64 x0, .string x1, .string x2, .slice A3 n3 c3] := by rw [stepV_cells, HS.out.2.1]
      rw [hsv] at hon
      have HON := Lib.hid hon
      have HW0 := Lib.hid (And.intro hw0 (And.intro hb0 hc0))
      clear hon hsv hsd hm0 hw0 hb0 hc0
      go_still_tail 5, (by kernel_rfl)
      change wpList _ _ _ _ _ w0.drew
      go_wp2_with fail
      refine HON.out.mono ?_
      clear HON d0 k0 k1 k2 k3 e0 e1 e2 e3 e4
      rintro e w1 ⟨rfl, hm1, hg1⟩
      have HY := Lib.hid (And.intro hm1 hg1)
      clear hm1 hg1
      go_wp2_with fail
      go_roundw
      case rel =>
        refine ⟨i + 1, by go_num, by omega, ?_, ?_, ?_, ?_⟩
        all_goals
          have hlt := HD.out.lt
          have hap := HD.out.apart
          have hF := HD.out.foot
          have hg := HY.out.2
          have hz : wr.heap.size ≤ w0.heap.size := HW0.out.1.size
        · refine ((HT.out.1.trans (Turn.of_below F HW0.out.1)).trans (Turn.sameHeap rfl rfl rfl rfl : Turn F w0 F w0.drew)).trans (Turn.of_grown hg (fun j e => ?_))
          injection e with e
          subst e
          exact (hF _).2 (.inr (.inl rfl))
        · have h1 := plays_take nilPay Vs T i HS.out.2.2
          rw [HS.out.1] at h1
          rw [h1]
          exact HY.out.1
        · refine (hg.block p ?_ ?_).trans HW0.out.2.2
          · exact (Array.getElem?_eq_some_iff.1 HW0.out.2.2).1
          · intro h
            injection h with h
            exact hap.1 h
        · refine ownsRow_block HT.out.2.2.2 (fun j hj => ?_)
          have hj2 := (HT.out.2.2.2.lt j hj).2
          refine (hg.block j (by show j < w0.heap.size; omega) (fun h => ?_)).trans (HW0.out.1.block j hj2)
          injection h with h
          subst h
          exact hap.2.2.2.2.1 hj
      case measure =>
        simp [intOf]
        omega
    · obtain rfl : i = k := by omega
      have hnl : ¬ ((i : Int) < (i : Int)) := by omega
      by_cases hcut : i < n ∧ 0 < q
      · have hiT : i < T.length := by have := HN.out.1; omega
        obtain ⟨g, rfl, hcell⟩ := row_cells HT.out.2.2.2 i hiT
        obtain ⟨s, hs⟩ : ∃ s, T[i] = s := ⟨_, rfl⟩
        rw [hs] at hcell
        have hsd := HD.out.ht s (hs ▸ List.getElem_mem hiT)
        obtain ⟨A3, c3, e3, hn3, hc3, hl3, hr3, ha3⟩ := hsd.1.turn HT.out.1
        obtain ⟨n3, hn3e⟩ : ∃ n3, s.b.2.length = n3 := ⟨_, rfl⟩
        rw [hn3e] at e3 hn3 hl3
        obtain ⟨sk, snm, sto, ⟨sv, sl⟩⟩ := s
        dsimp only at e3 hn3 hl3 hr3 hn3e hsd
        subst e3
        have ha : cellsOf ⟨sk, snm, sto, (.slice A3 n3 c3, sl)⟩ = [.int .i64 sk, .string (str snm), .string (str sto), .slice A3 n3 c3] := rfl
        rw [ha] at hcell
        have k0 : wr.cell? ⟨g, i * 4, none⟩ = some (.int .i64 sk) := hcell 0 _ (by omega) rfl
        have k1 : wr.cell? ⟨g, i * 4 + 1, none⟩ = some (.string (str snm)) := hcell 1 _ (by omega) rfl
        have k2 : wr.cell? ⟨g, i * 4 + 2, none⟩ = some (.string (str sto)) := hcell 2 _ (by omega) rfl
        have k3 : wr.cell? ⟨g, i * 4 + 3, none⟩ = some (.slice A3 n3 c3) := hcell 3 _ (by omega) rfl
        have ht1 : decide (i < n) = true := by simp; omega
        have ht2 : decide (0 < q) = true := by simp; omega
        have ht3 := hcut.1
        have ht4 := hcut.2
        have ht5 : (0 : Int) ≤ i := by omega
        have ht6 : (i : Int) < n := by omega
        have HS := Lib.hid (And.intro hs (And.intro hiT (And.intro hn3 (And.intro hl3 (And.intro hr3 (And.intro hn3e hsd.2))))))
        have hst : (T.map (Stp.map Prod.snd))[i]? = some ⟨sk, snm, sto, sl⟩ := by simp [List.getElem?_eq_getElem hiT, hs, Stp.map]
        have HST := Lib.hid hst
        clear hcell ha hs hn3 hl3 hr3 hn3e hsd hc3 ha3 hst hcut
        go_wp2_with fail
        have d0 : wr.drew.cell? ⟨p, 0, none⟩ = _ := cc0
        have d2 : wr.drew.cell? ⟨p, 2, none⟩ = _ := cc2
        have l0 : wr.drew.cell? ⟨g, i * 4, none⟩ = _ := k0
        have l1 : wr.drew.cell? ⟨g, i * 4 + 1, none⟩ = _ := k1
        have l2 : wr.drew.cell? ⟨g, i * 4 + 2, none⟩ = _ := k2
        have l3 : wr.drew.cell? ⟨g, i * 4 + 3, none⟩ = _ := k3
        go_still_tail 12, (by kernel_rfl)
        change wpList _ _ _ _ _ wr.drew
        go_wp2_with fail
        by_cases h0 : sk = 0
        · subst h0
          refine (cut_write ba (plays nilPay Vs (T.take i)) snm sto sl A3 c3 n3 q (min q n3) wr.drew HT.out.2.1 (by have := plays_len HD.out.hist i (by have := HS.out.2.1; omega); omega) (by have := HS.out.2.2.2.2.2.2.2.1; omega) HS.out.2.2.2.2.2.1 HS.out.2.2.2.1 HS.out.2.2.1 HS.out.2.2.2.2.1 rfl).mono ?_
          rintro e w2 ⟨v', rfl, hm2, hg2, hv2⟩
          have htk : sl.take (min q n3) = sl.take q := by
            have := HS.out.2.2.2.2.2.1
            rw [List.take_eq_take_iff]
            omega
          rw [htk] at hm2 hv2
          have hQ : on2 Prod.snd (put snm ((v', sl.take q) : Pay) (plays nilPay Vs (T.take i))) = crashF (on2 Prod.snd Vs) (T.map (Stp.map Prod.snd)) i q := by
            rw [crashF_part HST.out ht4 rfl, on2_put, plays_fg]
          have hlt := HD.out.lt
          have t2 : Turn F w F w2 := (HT.out.1.trans (Turn.sameHeap rfl rfl rfl rfl : Turn F wr F wr.drew)).trans (Turn.of_grown hg2 (fun j e => by injection e with e; subst e; exact (HD.out.foot _).2 (.inr (.inl rfl))))
          have t3 : Turn F wr F w2 := (Turn.sameHeap rfl rfl rfl rfl : Turn F wr F wr.drew).trans (Turn.of_grown hg2 (fun j e => by injection e with e; subst e; exact (HD.out.foot _).2 (.inr (.inl rfl))))
          have hp2 : w2.heap[p]? = some (.cells #[.map (some ba), .map (some bb), .slice (some ⟨g, 0, none⟩) n c] 61) := (hg2.block p (Array.getElem?_eq_some_iff.1 HT.out.2.2.1).1 (by intro h; injection h with h; exact HD.out.apart.1 h)).trans HT.out.2.2.1
          have hall : ∀ t ∈ put snm ((v', sl.take q) : Pay) (plays nilPay Vs (T.take i)), Hv w2 F t.2 := by
            intro t ht
            rcases mem_put.1 ht with rfl | ⟨ht, _⟩
            · exact hv2.mono (Nat.le_refl _) (fun _ _ _ => rfl) (fun j hj => .inl (Nat.lt_of_lt_of_le (hlt j hj).2 HT.out.1.size))
            · exact (plays_hv HD.out.hs (fun s h => (HD.out.ht s h).1) i t ht).turn t2
          have hlen : (put snm ((v', sl.take q) : Pay) (plays nilPay Vs (T.take i))).length ≤ 64 := by
            have h1 := crashF_le HD.out.hist i q (by have := HS.out.2.1; simp; omega)
            rw [← hQ, on2_len] at h1
            exact h1
          have HZ := Lib.hid (And.intro t2 (And.intro hm2 (And.intro hp2 (And.intro hall (And.intro hlen hQ)))))
          have q0 := cell_blk hp2 0 (v := .map (some ba)) rfl
          clear hm2 hg2 hv2 htk hQ hlt t2 t3 hp2 hall hlen d0 d2 l0 l1 l2 l3 k0 k1 k2 k3 cc0 cc2
          go_wp2_with fail
          refine (clone_is ba (put snm ((v', sl.take q) : Pay) (plays nilPay Vs (T.take i))) w2 HZ.out.2.1).mono ?_
          rintro e w3 ⟨rfl, hm3, hb3⟩
          have hc3 := (hb3.block p (Array.getElem?_eq_some_iff.1 HZ.out.2.2.1).1).trans HZ.out.2.2.1
          have e1 := cell_blk hc3 1 (v := .map (some bb)) rfl
          have e2 := cell_blk hc3 2 (v := .slice (some ⟨g, 0, none⟩) n c) rfl
          have f1 := frz_blk hc3 1
          have f2 := frz_blk hc3 2
          have HX := Lib.hid (And.intro hm3 hb3)
          clear hm3 hb3 hc3
          go_wp2_with fail
          go_ret
          obtain ⟨F', g1, g2⟩ := crash_end HZ.out.1 HZ.out.2.1 HZ.out.2.2.1 HX.out.2 HX.out.1 HZ.out.2.2.2.1 HZ.out.2.2.2.2.1 (by rw [HZ.out.2.2.2.2.2]; exact crashF_names HD.out.hist i q (by have := HN.out.1; have := HN.out.2.1; simp; omega)) ((HD.out.foot p).2 (.inl rfl)) ((HD.out.foot ba).2 (.inr (.inl rfl))) HD.out.lt HD.out.apart.1 HN.out.2.2
          exact ⟨_, _, F', rfl, g1, g2, HZ.out.2.2.2.2.2⟩
        · refine (cut_other ba sk (by have := HS.out.2.2.2.2.2.2.1; omega) (str snm) (str sto) (.slice A3 n3 c3) q wr.drew).mono ?_
          rintro e w2 ⟨rfl, hb2⟩
          have hQ : crashF (on2 Prod.snd Vs) (T.map (Stp.map Prod.snd)) i q = _ := crashF_plain (fun s hs h => by rw [HST.out] at hs; injection hs with hs; subst hs; exact h0 h.2)
          have t3 : Turn F wr F w2 := (Turn.sameHeap rfl rfl rfl rfl : Turn F wr F wr.drew).trans (Turn.of_below F hb2)
          have t2 : Turn F w F w2 := HT.out.1.trans t3
          have hp2 : w2.heap[p]? = some (.cells #[.map (some ba), .map (some bb), .slice (some ⟨g, 0, none⟩) n c] 61) := (hb2.block p (Array.getElem?_eq_some_iff.1 HT.out.2.2.1).1).trans HT.out.2.2.1
          have HZ := Lib.hid (And.intro t2 (And.intro (HT.out.2.1.block (hb2.block _ HT.out.2.1.lt)) (And.intro hp2 (And.intro (fun t h => (plays_hv HD.out.hs (fun s h => (HD.out.ht s h).1) i t h).turn t2 : ∀ t ∈ plays nilPay Vs (T.take i), Hv w2 F t.2) (And.intro (plays_len HD.out.hist i (by have := HS.out.2.1; omega)) (show on2 Prod.snd (plays nilPay Vs (T.take i)) = crashF (on2 Prod.snd Vs) (T.map (Stp.map Prod.snd)) i q by rw [hQ]; exact plays_fg Vs T i))))))
          have q0 := cell_blk hp2 0 (v := .map (some ba)) rfl
          clear hb2 hQ t2 t3 hp2 d0 d2 l0 l1 l2 l3 k0 k1 k2 k3 cc0 cc2
          go_wp2_with fail
          refine (clone_is ba (plays nilPay Vs (T.take i)) w2 HZ.out.2.1).mono ?_
          rintro e w3 ⟨rfl, hm3, hb3⟩
          have hc3 := (hb3.block p (Array.getElem?_eq_some_iff.1 HZ.out.2.2.1).1).trans HZ.out.2.2.1
          have e1 := cell_blk hc3 1 (v := .map (some bb)) rfl
          have e2 := cell_blk hc3 2 (v := .slice (some ⟨g, 0, none⟩) n c) rfl
          have f1 := frz_blk hc3 1
          have f2 := frz_blk hc3 2
          have HX := Lib.hid (And.intro hm3 hb3)
          clear hm3 hb3 hc3
          go_wp2_with fail
          go_ret
          obtain ⟨F', g1, g2⟩ := crash_end HZ.out.1 HZ.out.2.1 HZ.out.2.2.1 HX.out.2 HX.out.1 HZ.out.2.2.2.1 HZ.out.2.2.2.2.1 (by rw [HZ.out.2.2.2.2.2]; exact crashF_names HD.out.hist i q (by have := HN.out.1; have := HN.out.2.1; simp; omega)) ((HD.out.foot p).2 (.inl rfl)) ((HD.out.foot ba).2 (.inr (.inl rfl))) HD.out.lt HD.out.apart.1 HN.out.2.2
          exact ⟨_, _, F', rfl, g1, g2, HZ.out.2.2.2.2.2⟩
      · have HQ := Lib.hid (crashF_plain (su := on2 Prod.snd Vs) (st := T.map (Stp.map Prod.snd)) (k := i) (q := q) (fun s hs h => hcut ⟨by have := (List.getElem?_eq_some_iff.1 hs).1; have := HN.out.1; simp at *; omega, h.1⟩))
        have HZ := Lib.hid (And.intro HT.out.1 (And.intro HT.out.2.1 (And.intro HT.out.2.2.1 (And.intro (fun t h => (plays_hv HD.out.hs (fun s h => (HD.out.ht s h).1) i t h).turn HT.out.1 : ∀ t ∈ plays nilPay Vs (T.take i), Hv wr F t.2) (And.intro (plays_len HD.out.hist i (by have := HN.out.1; have := HN.out.2.1; omega)) (show on2 Prod.snd (plays nilPay Vs (T.take i)) = crashF (on2 Prod.snd Vs) (T.map (Stp.map Prod.snd)) i q by rw [HQ.out]; exact plays_fg Vs T i))))))
        have HCUT := Lib.hid hcut
        clear hcut
        go_wp2_with fail
        all_goals first
          | (exfalso; exact HCUT.out ⟨by assumption, by assumption⟩)
          | skip
        all_goals
          refine (clone_is ba (plays nilPay Vs (T.take i)) wr HZ.out.2.1).mono ?_
          rintro e w3 ⟨rfl, hm3, hb3⟩
          have hc3 := (hb3.block p (Array.getElem?_eq_some_iff.1 HZ.out.2.2.1).1).trans HZ.out.2.2.1
          have e1 := cell_blk hc3 1 (v := .map (some bb)) rfl
          have e2 := cell_blk hc3 2 (v := .slice A n c) rfl
          have f1 := frz_blk hc3 1
          have f2 := frz_blk hc3 2
          have HX := Lib.hid (And.intro hm3 hb3)
          clear hm3 hb3 hc3
          go_wp2_with fail
          go_ret
          obtain ⟨F', g1, g2⟩ := crash_end HZ.out.1 HZ.out.2.1 HZ.out.2.2.1 HX.out.2 HX.out.1 HZ.out.2.2.2.1 HZ.out.2.2.2.2.1 (by rw [HZ.out.2.2.2.2.2]; exact crashF_names HD.out.hist i q (by have := HN.out.1; have := HN.out.2.1; simp; omega)) ((HD.out.foot p).2 (.inl rfl)) ((HD.out.foot ba).2 (.inr (.inl rfl))) HD.out.lt HD.out.apart.1 HN.out.2.2
          exact ⟨_, _, F', rfl, g1, g2, HZ.out.2.2.2.2.2⟩
end
end Go.Proofs.YtljagggankmnkaaDoor

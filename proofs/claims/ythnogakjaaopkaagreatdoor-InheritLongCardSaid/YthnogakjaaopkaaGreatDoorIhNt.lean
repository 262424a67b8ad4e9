/- IhNs, IhSu, IhTw, in one text. -/
import Derived.Test.YthnogakjaaopkaaGreatDoorIhNn
import Derived.Test.YthnogakjaaopkaaGreatDoorIhRV
import Derived.Test.YthnogakjaaopkaaGreatDoorIhSi
/- Plain: all names of blocks, in order; a block's values by the document's way are the program's. -/
namespace Go.Proofs.YthnogakjaaopkaaGreatDoor
open Go.RowKit

theorem bl_total {a b : Tx} (h : Op.bytesLess a b = false) (hne : a ≠ b) : Op.bytesLess b a = true := by
  rw [Go.Proofs.bytesLess_eq] at *
  have h1 : ¬ a < b := of_decide_eq_false h
  refine decide_eq_true ?_
  rcases Decidable.em (b < a) with h2 | h2
  · exact h2
  · exact absurd (List.le_antisymm (List.not_lt.1 h2) (List.not_lt.1 h1)) hne
def SrtN (out : List Tx) : Prop := out.Pairwise fun a b => Op.bytesLess a b = true
theorem tw_split (p : Tx → Bool) (out : List Tx) : out.take (out.takeWhile p).length = out.takeWhile p ∧ out.drop (out.takeWhile p).length = out.dropWhile p := by
  have h := List.takeWhile_append_dropWhile (p := p) (l := out)
  have h1 : (out.takeWhile p ++ out.dropWhile p).take (out.takeWhile p).length = out.takeWhile p := List.take_left
  have h2 : (out.takeWhile p ++ out.dropWhile p).drop (out.takeWhile p).length = out.dropWhile p := List.drop_left
  rw [h] at h1 h2
  exact ⟨h1, h2⟩
theorem insN_mem (out : List Tx) (s t : Tx) : t ∈ insN out s ↔ t ∈ out ∨ (t = s ∧ three s = false) := by
  unfold insN
  cases h3 : three s with
  | true => simp
  | false =>
    rw [if_neg (by decide)]
    by_cases h : out[(out.takeWhile fun t => Op.bytesLess t s).length]? = some s
    · rw [if_pos h]
      refine ⟨.inl, ?_⟩
      rintro (h1 | ⟨rfl, _⟩)
      · exact h1
      · exact List.mem_of_getElem? h
    · rw [if_neg h]
      have e := List.take_append_drop (out.takeWhile fun t => Op.bytesLess t s).length out
      rw [List.mem_append, List.mem_cons]
      have e2 : t ∈ out ↔ t ∈ out.take (out.takeWhile fun t => Op.bytesLess t s).length ∨ t ∈ out.drop (out.takeWhile fun t => Op.bytesLess t s).length := by
        rw [← List.mem_append, e]
      rw [e2]
      constructor
      · rintro (h1 | rfl | h1)
        · exact .inl (.inl h1)
        · exact .inr ⟨rfl, rfl⟩
        · exact .inl (.inr h1)
      · rintro ((h1 | h1) | ⟨rfl, _⟩)
        · exact .inl h1
        · exact .inr (.inr h1)
        · exact .inr (.inl rfl)
theorem dropWhile_headN (p : Tx → Bool) : ∀ (out : List Tx) (x : Tx) (r : List Tx), out.dropWhile p = x :: r → p x = false
  | [], x, r, h => by cases h
  | a :: out, x, r, h => by
    rw [List.dropWhile_cons] at h
    cases hp : p a with
    | true => rw [hp] at h; exact dropWhile_headN p out x r h
    | false =>
      rw [hp] at h
      simp only [Bool.false_eq_true, if_false] at h
      injection h with h1
      rw [← h1]
      exact hp
theorem takeWhile_allN (p : Tx → Bool) : ∀ (out : List Tx) (x : Tx), x ∈ out.takeWhile p → p x = true
  | [], x, h => by cases h
  | a :: out, x, h => by
    rw [List.takeWhile_cons] at h
    cases hp : p a with
    | true =>
      rw [hp] at h
      rcases List.mem_cons.1 h with rfl | h
      · exact hp
      · exact takeWhile_allN p out x h
    | false => rw [hp] at h; cases h
theorem insN_srt {out : List Tx} (h : SrtN out) (s : Tx) : SrtN (insN out s) := by
  unfold insN
  split
  · exact h
  · split
    · exact h
    · rename_i hno
      obtain ⟨e1, e2⟩ := tw_split (fun t => Op.bytesLess t s) out
      have hsp : SrtN (out.takeWhile (fun t => Op.bytesLess t s) ++ out.dropWhile fun t => Op.bytesLess t s) := by rw [List.takeWhile_append_dropWhile]; exact h
      obtain ⟨p1, p2, p3⟩ := List.pairwise_append.1 hsp
      rw [e1, e2]
      have hd : ∀ x ∈ out.dropWhile (fun t => Op.bytesLess t s), Op.bytesLess s x = true := by
        cases hq : out.dropWhile (fun t => Op.bytesLess t s) with
        | nil => intro x hx; cases hx
        | cons y r =>
          have hy : Op.bytesLess y s = false := dropWhile_headN _ out y r hq
          have hne : y ≠ s := by
            rintro rfl
            refine hno ?_
            have := List.getElem?_drop (xs := out) (i := (out.takeWhile fun t => Op.bytesLess t y).length) (j := 0)
            rw [e2, hq, Nat.add_zero] at this
            rw [← this]
            rfl
          have hsy := bl_total hy hne
          intro x hx
          rcases List.mem_cons.1 hx with rfl | hx
          · exact hsy
          · rw [hq] at p2
            exact bl_trans hsy ((List.pairwise_cons.1 p2).1 x hx)
      refine List.pairwise_append.2 ⟨p1, List.pairwise_cons.2 ⟨hd, p2⟩, fun a ha b hb => ?_⟩
      have has := takeWhile_allN _ out a ha
      rcases List.mem_cons.1 hb with rfl | hb
      · exact has
      · exact bl_trans has (hd b hb)
theorem foldN_mem : ∀ (q out : List Tx) (t : Tx), t ∈ q.foldl insN out ↔ t ∈ out ∨ (t ∈ q ∧ three t = false)
  | [], out, t => by simp
  | s :: q, out, t => by
    rw [List.foldl_cons, foldN_mem q, insN_mem, List.mem_cons]
    constructor
    · rintro ((h | ⟨rfl, h⟩) | ⟨h1, h2⟩)
      · exact .inl h
      · exact .inr ⟨.inl rfl, h⟩
      · exact .inr ⟨.inr h1, h2⟩
    · rintro (h | ⟨rfl | h1, h2⟩)
      · exact .inl (.inl h)
      · exact .inl (.inr ⟨rfl, h2⟩)
      · exact .inr ⟨h1, h2⟩
theorem foldN_srt : ∀ (q : List Tx) {out : List Tx}, SrtN out → SrtN (q.foldl insN out)
  | [], _, h => h
  | s :: q, _, h => by
    rw [List.foldl_cons]
    exact foldN_srt q (insN_srt h s)
theorem nmsT_srt (l : List MB) : SrtN (nmsT l) := foldN_srt _ List.Pairwise.nil
theorem nmsT_mem {l : List MB} {t : Tx} : t ∈ nmsT l ↔ (∃ c ∈ l, ∃ f ∈ c.2.2, f.2.1 = t) ∧ three t = false := by
  unfold nmsT
  rw [foldN_mem]
  unfold nmsA nmsB
  simp only [List.mem_flatMap, List.mem_map, List.not_mem_nil, false_or]
/-- What a block defines, by the document's way: name by name. -/
def rfF (l : List MB) (i : Nat) (q : List Tx) : List MF := q.filterMap fun nm => (gotT l nm i).map fun v => (v.2, nm, v.1)
theorem tooL_names {l : List MB} {i : Nat} : tooL l i ↔ ∃ nm ∈ nmsT l, (gotC (gotT l nm i)).2.2.1 = true ∧ (gotC (gotT l nm i)).2.2.2 = true := by
  have hl : ∀ g, ((gotC g).2.2.1 = true ∧ (gotC g).2.2.2 = true) ↔ ∃ v, g = some v ∧ 4096 < v.1.length := by
    intro g
    cases g with
    | none => simp [gotC, gt0]
    | some p =>
      unfold gotC
      dsimp only
      by_cases h : 4096 < p.1.length
      · rw [if_pos h]; simp [h]
      · rw [if_neg h]; simp [h]
  constructor
  · rintro ⟨c, hc, f, hf, h3, hv⟩
    exact ⟨f.2.1, nmsT_mem.2 ⟨⟨c, hc, f, hf, rfl⟩, h3⟩, (hl _).2 hv⟩
  · rintro ⟨nm, hn, hg⟩
    obtain ⟨⟨c, hc, f, hf, rfl⟩, h3⟩ := nmsT_mem.1 hn
    exact ⟨c, hc, f, hf, h3, (hl _).1 hg⟩
theorem filterMap_congrN {α β : Type} {f g : α → Option β} : ∀ {q : List α}, (∀ x ∈ q, f x = g x) → q.filterMap f = q.filterMap g
  | [], _ => rfl
  | x :: q, h => by rw [List.filterMap_cons, List.filterMap_cons, h x (by simp), filterMap_congrN fun y hy => h y (by simp [hy])]
theorem rfF_fl {l : List MB} {i : Nat} (h : ¬ Cyc (edg l)) (hi : i < l.length) (hno : ¬ tooL l i) : IsFl (fun s => gotP l s i) (rfF l i (nmsT l)) := by
  have key : ∀ nm, three nm = false → (gotT l nm i).map (fun v => (v.2, nm, v.1)) = gotP l nm i := fun nm h3 => by
    rw [← gotP_val h h3 hi hno]
    cases hg : gotP l nm i with
    | none => rfl
    | some f =>
      have := (gotP_name h hi hg).2.1
      obtain ⟨fa, fn, fv⟩ := f
      dsimp only at this
      subst this
      rfl
  refine ⟨(nmsT l).filterMap fun nm => (gotP l nm i).map fun f => (nm, f), ⟨⟨?_, ?_⟩, ?_⟩, ?_, ?_⟩
  · rw [List.pairwise_filterMap]
    refine (nmsT_srt l).imp ?_
    rintro a b hab p hp q hq
    obtain ⟨f, _, rfl⟩ := Option.map_eq_some_iff.1 hp
    obtain ⟨g, _, rfl⟩ := Option.map_eq_some_iff.1 hq
    rintro rfl
    rw [bl_irrefl] at hab
    cases hab
  · intro p hp
    obtain ⟨nm, _, hp⟩ := List.mem_filterMap.1 hp
    obtain ⟨f, hf, rfl⟩ := Option.map_eq_some_iff.1 hp
    exact hf
  · intro k f hf
    obtain ⟨h3, _, c, hc, g, hg, rfl, _⟩ := gotP_name h hi hf
    exact List.mem_filterMap.2 ⟨_, nmsT_mem.2 ⟨⟨c, hc, g, hg, rfl⟩, h3⟩, by have h := hf; dsimp only at h; rw [h]; rfl⟩
  · unfold SrtV
    rw [List.pairwise_filterMap]
    refine (nmsT_srt l).imp ?_
    rintro a b hab p hp q hq
    obtain ⟨f, _, rfl⟩ := Option.map_eq_some_iff.1 hp
    obtain ⟨g, _, rfl⟩ := Option.map_eq_some_iff.1 hq
    exact hab
  · unfold rfF
    rw [List.map_filterMap]
    exact filterMap_congrN fun nm hn => by
      rw [key nm (nmsT_mem.1 hn).2]
      cases gotP l nm i <;> rfl
theorem rsB_doc {l : List MB} {i : Nat} {b : MB} (h : ¬ Cyc (edg l)) (hb : l[i]? = some b) (hno : ¬ tooL l i) : rsB l i = if regB b = true then some (b.1, b.2.1, rfF l i (nmsT l)) else none := by
  unfold rsB
  rw [hb, Option.bind_some, flC_eq (rfF_fl h (List.getElem?_eq_some_iff.1 hb).1 hno)]
end Go.Proofs.YthnogakjaaopkaaGreatDoor
/- Plain: the blocks that the laws' sure asks of. -/
namespace Go.Proofs.YthnogakjaaopkaaGreatDoor
open Go.RowKit

def suB0 : MB := (1, [120], [(2, nmN, [116]), (3, [97], [49]), (4, nmR, [48])])
def suB1 : MB := (5, [120], [(6, nmU, [116]), (7, [97], [43, 50])])
def suL : List MB := [suB0, suB1]
theorem su_edg0 : edg suL 0 = [] := by decide
theorem su_edg1 : edg suL 1 = [0] := by decide
theorem su_no : ∀ j, j < suL.length → ¬ Wy (edg suL) j j := by
  have h0 : ∀ k, ¬ Wy (edg suL) 0 k := by
    intro k h
    obtain ⟨j, hj, _⟩ := h.head
    rw [su_edg0] at hj
    cases hj
  intro j hj h
  have : j = 0 ∨ j = 1 := by
    have : suL.length = 2 := rfl
    omega
  rcases this with rfl | rfl
  · exact h0 _ h
  · cases h with
    | one h1 => rw [su_edg1] at h1; simp at h1
    | more h1 h2 =>
      rw [su_edg1] at h1
      rw [List.mem_singleton.1 h1] at h2
      exact h0 _ h2
theorem su_got0 : gotT suL [97] 0 = some ([49], 3) := by
  rw [gotT_eq (no_cyc su_no) [97] (b := suB0) rfl, su_edg0]
  decide
theorem su_got1 : gotT suL [97] 1 = some ([49, 44, 50], 7) := by
  rw [gotT_eq (no_cyc su_no) [97] (b := suB1) rfl, su_edg1, List.map_cons, List.map_nil, su_got0]
  decide
theorem su_nms : nmsT suL = [[97]] := by decide
theorem su_long : ∀ j, j < suL.length → ¬ tooL suL j := by
  intro j hj h
  have : j = 0 ∨ j = 1 := by
    have : suL.length = 2 := rfl
    omega
  obtain ⟨nm, hn, _, h2⟩ := tooL_names.1 h
  rw [su_nms] at hn
  rw [List.mem_singleton.1 hn] at h2
  rcases this with rfl | rfl
  · rw [su_got0] at h2; revert h2; decide
  · rw [su_got1] at h2; revert h2; decide
theorem su_chk : chkI suL = none := by
  refine chk5 ?_ ?_ su_no su_long
  · intro j c hc
    have hj : j < 2 := (List.getElem?_eq_some_iff.1 hc).1
    have : j = 0 ∨ j = 1 := by omega
    rcases this with rfl | rfl
    · have e : suB0 = c := Option.some.inj hc
      rw [← e]; decide
    · have e : suB1 = c := Option.some.inj hc
      rw [← e]; decide
  · intro j c hc
    have hj : j < 2 := (List.getElem?_eq_some_iff.1 hc).1
    have : j = 0 ∨ j = 1 := by omega
    rcases this with rfl | rfl
    · have e : suB0 = c := Option.some.inj hc
      rw [← e]; decide
    · have e : suB1 = c := Option.some.inj hc
      rw [← e]; decide
theorem su_rs : rsK suL suL.length = [(5, [120], [(7, [97], [49, 44, 50])])] := by
  have e0 : rsB suL 0 = none := by
    rw [rsB_doc (no_cyc su_no) (b := suB0) rfl (su_long 0 (by decide))]
    decide
  have e1 : rsB suL 1 = some (5, [120], [(7, [97], [49, 44, 50])]) := by
    rw [rsB_doc (no_cyc su_no) (b := suB1) rfl (su_long 1 (by decide)), su_nms]
    unfold rfF
    rw [List.filterMap_cons, su_got1, if_pos (by decide)]
    rfl
  show rsK suL 2 = _
  rw [rsK_succ, rsK_succ, e0, e1]
  rfl
end Go.Proofs.YthnogakjaaopkaaGreatDoor
/- Plain: what is resolved, resolved again; a field of a block's own. -/
namespace Go.Proofs.YthnogakjaaopkaaGreatDoor
open Go.RowKit

/-- Blocks as they are resolved, of which no value would be read anew. -/
def PlnB (b : MB) : Prop := (∀ f ∈ b.2.2, three f.2.1 = false ∧ f.2.2 ≠ nmZ ∧ f.2.2.head? ≠ some 43 ∧ f.2.2.length ≤ 4096) ∧ b.2.2.Pairwise fun f g => Op.bytesLess f.2.1 g.2.1 = true
theorem find_srt : ∀ {L : List MF}, (L.Pairwise fun f g => Op.bytesLess f.2.1 g.2.1 = true) → ∀ f ∈ L, L.find? (fun g => g.2.1 == f.2.1) = some f
  | [], _, f, hf => by cases hf
  | g :: L, h, f, hf => by
    obtain ⟨h1, h2⟩ := List.pairwise_cons.1 h
    rcases List.mem_cons.1 hf with rfl | hf
    · exact List.find?_cons_of_pos (p := fun g : MF => g.2.1 == f.2.1) (by simp)
    · have hne : ¬ (g.2.1 == f.2.1) = true := by
        intro e
        have e2 : g.2.1 = f.2.1 := by simpa using e
        have h3 := h1 f hf
        rw [e2, bl_irrefl] at h3
        cases h3
      have hfe : List.find? (fun x : MF => x.2.1 == f.2.1) (g :: L) = L.find? (fun x => x.2.1 == f.2.1) := List.find?_cons_of_neg hne
      rw [hfe]
      exact find_srt h2 f hf
theorem pln_three {b : MB} (h : PlnB b) {k : Tx} (hk : three k = true) : ownF b k = none := by
  unfold ownF
  refine List.find?_eq_none.2 fun f hf e => ?_
  have e2 : f.2.1 = k := by simpa using e
  have := (h.1 f hf).1
  rw [e2, hk] at this
  cases this
theorem pln_uses {R : List MB} (h : ∀ b ∈ R, PlnB b) (i : Nat) : usesT R i = ([], 0) := by
  unfold usesT
  cases hb : R[i]? with
  | none => rfl
  | some b =>
    dsimp only
    unfold usesB
    rw [pln_three (h b (List.mem_of_getElem? hb)) (by decide)]
theorem pln_no {R : List MB} (h : ∀ b ∈ R, PlnB b) : ∀ j, j < R.length → ¬ Wy (edg R) j j := by
  intro j _ hw
  obtain ⟨m, hm, _⟩ := hw.head
  unfold edg at hm
  rw [pln_uses h] at hm
  cases hm
theorem pln_got {R : List MB} (h : ∀ b ∈ R, PlnB b) {i : Nat} {b : MB} (hb : R[i]? = some b) (k : Tx) : gotP R k i = ownF b k := by
  have hp := h b (List.mem_of_getElem? hb)
  rw [gotP_eq (no_cyc (pln_no h)) k hb]
  cases hk : three k with
  | true => rw [if_pos rfl, pln_three hp hk]
  | false =>
    rw [if_neg (by decide)]
    have e : edg R i = [] := by unfold edg; rw [pln_uses h]
    rw [e]
    cases ho : ownF b k with
    | none => rfl
    | some f =>
      obtain ⟨_, h2, h3, _⟩ := hp.1 f (ownF_name ho).2
      unfold ownP
      dsimp only
      rw [if_neg h2, if_neg h3]
theorem pln_long {R : List MB} (h : ∀ b ∈ R, PlnB b) : ∀ j, j < R.length → ¬ tooL R j := by
  intro j hj ht
  obtain ⟨k, f, hf, hl⟩ := (tooL_P (no_cyc (pln_no h)) hj).1 ht
  have hb : R[j]? = some R[j] := List.getElem?_eq_getElem hj
  rw [pln_got h hb] at hf
  have := ((h _ (List.getElem_mem hj)).1 f (ownF_name hf).2).2.2.2
  omega
theorem pln_chk {R : List MB} (h : ∀ b ∈ R, PlnB b) : chkI R = none := by
  refine chk5 (fun j b hb => ?_) (fun j b hb => ?_) (pln_no h) (pln_long h)
  · have hp := h b (List.mem_of_getElem? hb)
    unfold wrgN
    rw [pln_three hp (by decide)]
    dsimp only
    unfold wrgN.wrgR
    rw [pln_three hp (by decide)]
  · have hp := h b (List.mem_of_getElem? hb)
    unfold wrgU usesB
    rw [pln_three hp (by decide)]
    rfl
theorem pln_rsB {R : List MB} (h : ∀ b ∈ R, PlnB b) {i : Nat} {b : MB} (hb : R[i]? = some b) : rsB R i = some b := by
  have hp := h b (List.mem_of_getElem? hb)
  have hf : IsFl (fun s => gotP R s i) b.2.2 := by
    have e : (fun s => gotP R s i) = ownF b := funext fun s => pln_got h hb s
    rw [e]
    refine ⟨b.2.2.map fun f => (f.2.1, f), ⟨⟨?_, ?_⟩, ?_⟩, ?_, ?_⟩
    · rw [List.pairwise_map]
      refine hp.2.imp ?_
      intro f g hfg e
      dsimp only at e
      rw [e, bl_irrefl] at hfg
      cases hfg
    · intro p hq
      obtain ⟨f, hf, rfl⟩ := List.mem_map.1 hq
      exact find_srt hp.2 f hf
    · intro k f hf
      obtain ⟨h1, h2⟩ := ownF_name hf
      exact List.mem_map.2 ⟨f, h2, by rw [h1]⟩
    · unfold SrtV
      rw [List.pairwise_map]
      exact hp.2
    · rw [List.map_map]
      exact (List.map_id _).symm
  unfold rsB
  rw [hb, Option.bind_some, flC_eq hf]
  have hr : regB b = true := by
    unfold regB
    rw [pln_three hp (by decide)]
  rw [if_pos hr]
theorem pln_rs {R : List MB} (h : ∀ b ∈ R, PlnB b) : rsK R R.length = R := by
  have key : ∀ k, k ≤ R.length → rsK R k = R.take k := by
    intro k
    induction k with
    | zero => intro _; rfl
    | succ k ih =>
      intro hk
      have hb : R[k]? = some R[k] := List.getElem?_eq_getElem (by omega)
      rw [rsK_succ, ih (by omega), pln_rsB h hb, List.take_succ_eq_append_getElem (by omega)]
      rfl
  rw [key _ (Nat.le_refl _), List.take_length]
/-- What Resolve answers: sorted, of no longer values, and of none of the three names. -/
theorem rs_fields {l : List MB} (h : chkI l = none) {b : MB} (hb : b ∈ rsK l l.length) : (∀ f ∈ b.2.2, three f.2.1 = false ∧ f.2.2.length ≤ 4096) ∧ b.2.2.Pairwise fun f g => Op.bytesLess f.2.1 g.2.1 = true := by
  obtain ⟨hc, hno⟩ := chk_none h
  unfold rsK at hb
  obtain ⟨i, hi, hb⟩ := List.mem_filterMap.1 hb
  have hil : i < l.length := List.mem_range.1 hi
  rw [rsB_doc hc (List.getElem?_eq_getElem hil) (hno i hil)] at hb
  split at hb
  · have e := Option.some.inj hb
    subst e
    dsimp only
    obtain ⟨xs, ⟨⟨h1, h2⟩, h3⟩, h4, h5⟩ := rfF_fl hc hil (hno i hil)
    rw [h5]
    have hnm : ∀ p ∈ xs, p.2.2.1 = p.1 := fun p hp => (gotP_name hc hil (h2 p hp)).2.1
    constructor
    · intro f hf
      obtain ⟨p, hp, rfl⟩ := List.mem_map.1 hf
      obtain ⟨g1, g2, _⟩ := gotP_name hc hil (h2 p hp)
      refine ⟨by rw [g2]; exact g1, ?_⟩
      rcases Nat.lt_or_ge 4096 p.2.2.2.length with hl | hl
      · exact absurd ((tooL_P hc hil).2 ⟨_, _, h2 p hp, hl⟩) (hno i hil)
      · exact hl
    · rw [List.pairwise_map]
      refine List.Pairwise.imp_of_mem ?_ h4
      intro p q hp hq hpq
      rw [hnm p hp, hnm q hq]
      exact hpq
  · cases hb
/-! A field of a block's own. -/
theorem sgl_own {b : MB} (h : Sgl b) {j : Nat} {f : MF} (hf : b.2.2[j]? = some f) : ownF b f.2.1 = some f := by
  have h1 := h j f hf
  rcases fnd_cases f.2.1 b.2.2 0 with ⟨h2, _⟩ | ⟨m, g, h2, h3, h4⟩
  · rw [h1] at h2; omega
  · rw [h1] at h2
    have e : j = m := by omega
    subst e
    rw [hf] at h3
    have e2 := Option.some.inj h3
    subst e2
    exact h4
theorem own_null {l : List MB} (h : ¬ Cyc (edg l)) {k : Nat} {b : MB} (hb : l[k]? = some b) {f : MF} (ho : ownF b f.2.1 = some f) (hz : f.2.2 = nmZ) : gotP l f.2.1 k = none := by
  rw [gotP_eq h _ hb, ho]
  unfold ownP
  dsimp only
  rw [if_pos hz]
  split <;> rfl
theorem own_plain {l : List MB} (h : ¬ Cyc (edg l)) {k : Nat} {b : MB} (hb : l[k]? = some b) {f : MF} (ho : ownF b f.2.1 = some f) (h3 : three f.2.1 = false) (hz : f.2.2 ≠ nmZ) (hp : f.2.2.head? ≠ some 43) : gotP l f.2.1 k = some f := by
  rw [gotP_eq h _ hb, ho, h3, if_neg (by decide)]
  unfold ownP
  dsimp only
  rw [if_neg hz, if_neg hp]
theorem own_plus {l : List MB} (h : ¬ Cyc (edg l)) (hno : ∀ i, i < l.length → ¬ tooL l i) {k : Nat} {b : MB} (hb : l[k]? = some b) {f : MF} (ho : ownF b f.2.1 = some f) (h3 : three f.2.1 = false) (hp : f.2.2.head? = some 43) :
    ∃ p : Tx, gotP l f.2.1 k = some (f.1, f.2.1, p ++ f.2.2.tail) := by
  have hz : f.2.2 ≠ nmZ := by
    intro e
    rw [e] at hp
    revert hp
    decide
  rw [gotP_eq h _ hb, ho, h3, if_neg (by decide)]
  unfold ownP
  dsimp only
  rw [if_neg hz, if_pos hp]
  obtain ⟨g, hg⟩ : ∃ g, fstS ((edg l k).map (gotP l f.2.1)) = g := ⟨_, rfl⟩
  rw [hg]
  have hgl : (valF g).length ≤ 4096 := by
    cases g with
    | none => simp [valF]
    | some q =>
      obtain ⟨j, hj, hj2⟩ := List.mem_map.1 (fstS_mem hg)
      have hjl := edg_lt hj
      show q.2.2.length ≤ 4096
      rcases Nat.lt_or_ge 4096 q.2.2.length with hl | hl
      · exact absurd ((tooL_P h hjl).2 ⟨_, _, hj2, hl⟩) (hno j hjl)
      · exact hl
  unfold joinP
  by_cases h0 : valF g = []
  · rw [if_pos h0]
    exact ⟨[], rfl⟩
  · rw [if_neg h0]
    by_cases hr : f.2.2.tail = []
    · rw [if_pos (.inl hr)]
      exact ⟨valF g, by rw [hr, List.append_nil]⟩
    · rw [if_neg (by rintro (e | e); exact hr e; omega)]
      exact ⟨valF g ++ [44], by rw [List.append_assoc]; rfl⟩
end Go.Proofs.YthnogakjaaopkaaGreatDoor

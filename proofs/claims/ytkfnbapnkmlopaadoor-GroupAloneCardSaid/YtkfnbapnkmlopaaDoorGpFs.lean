/- GpFd, GpSo, in one text. -/
import Derived.Test.YtkfnbapnkmlopaaDoorGpTq
import Derived.Test.YtkfnbapnkmlopaaDoorGpSa
import Derived.Test.YtkfnbapnkmlopaaDoorGpPl
/- Contract: find: the places that a list of names stands for. -/
namespace Go.Proofs.YtkfnbapnkmlopaaDoor
open Go.RowKit Go.Maps

/-- The places that names stand for. -/
def fdS (L l : List Tx) (p : Nat) : Bool := l.any fun s => decide (ixI L s = p)
def noS (L l : List Tx) : Bool := l.any fun s => decide (ixI L s < 0)
theorem fdS_lt {L l : List Tx} {p : Nat} (h : fdS L l p = true) : p < L.length := by
  unfold fdS at h
  obtain ⟨s, _, e⟩ := List.any_eq_true.1 h
  exact ixI_lt (of_decide_eq_true e)
theorem fdS_snoc (L l : List Tx) (s : Tx) (p : Nat) (h : ixI L s = p) : (fun q => fdS L l q || decide (q = p)) = fdS L (l ++ [s]) := funext fun q => by
  unfold fdS
  rw [List.any_append, List.any_cons, List.any_nil, Bool.or_false, h]
  congr 1
  rw [decide_eq_decide]
  omega
/-- What find answers. -/
def FdE (L l : List Tx) (w : World) (e : Ending) (w' : World) : Prop := Below w.heap.size w w' ∧ if noS L l = true then e = .returned (.tuple #[.map none, errE 8]) else ∃ bs, e = .returned (.tuple #[.map (some bs), .nilIface]) ∧ w.heap.size ≤ bs ∧ SetM w' bs (fdS L l)
set_option maxRecDepth 100000 in
set_option maxHeartbeats 4000000 in
theorem find13_any (b : Nat) (v : Value) (L l : List Tx) (w : World) (hb : NamB w b L) (hv : RowS w v l) (hL : L.length ≤ 1024) (hS : ∀ s ∈ l, SmN s) :
    Calls Tryd.prog 35 #[.map (some b), v] w (FdE L l w) := by
  obtain ⟨A, c, rfl, hr⟩ := hv.form
  obtain ⟨n, hn⟩ : ∃ n, l.length = n := ⟨_, rfl⟩
  have hn9 : n ≤ 9223372036854775807 := by
    have h1 := hr.at9.2.1
    have h2 := hr.at9.2.2.1
    unfold maxLen at h2
    omega
  rw [hn] at hr ⊢
  have hmm := @run_makeMap Tryd.prog
  have hb0 := (Below.refl w.heap.size w).alloc (Nat.le_refl _) (.map #[] 0)
  have hN0 := SetM.made w
  have hblt := hb.lt
  obtain ⟨m, hm⟩ : ∃ b, w.heap.size = b := ⟨_, rfl⟩
  obtain ⟨w1, hw1⟩ : ∃ y, w.alloc (.map #[] 0) = y := ⟨_, rfl⟩
  rw [hm, hw1] at hN0
  rw [hw1] at hb0
  have HR := Lib.hid (And.intro hr (And.intro hn (And.intro hS (And.intro hb hm))))
  have H0 := Lib.hid (And.intro hN0 hb0)
  clear hr hv hn hS hN0 hb0 hb hblt
  go_enter Tryd.func35, Tryd.ntmps35
  go_wp2_with fail
  clear hmm hw1 hm
  go_loopw [14] (fun iv wr => ∃ i : Nat, iv = .int .i64 i ∧ i ≤ n ∧ SetM wr m (fdS L (l.take i)) ∧ Below w.heap.size w wr ∧ noS L (l.take i) = false) (fun iv _ => n - (intOf iv).toNat)
  case atStart => exact ⟨0, rfl, Nat.zero_le _, H0.out.1.same fun p => rfl, H0.out.2, rfl⟩
  case round =>
    obtain ⟨i, rfl, hi, hN, hb, hno⟩ := hrel
    by_cases hin : i < n
    · have q0 : (0 : Int) ≤ i := by omega
      have q1 : (i : Int) < n := by omega
      obtain ⟨ad, s, rfl, hat, k0⟩ := (HR.out.1.below hb).at9.2.2.2 i hin
      have hsm := HR.out.2.2.1 s (List.mem_of_getElem? hat)
      have hlk := (HR.out.2.2.2.1.below hb).look hsm
      have htk : l.take (i + 1) = l.take i ++ [s] := by
        obtain ⟨h1, h2⟩ := List.getElem?_eq_some_iff.1 hat
        rw [List.take_succ_eq_append_getElem h1, h2]
      obtain ⟨S, hSe⟩ : ∃ S, str s = S := ⟨_, rfl⟩
      rw [hSe] at k0 hlk
      have HK := Lib.hid (And.intro hN (And.intro hb (And.intro hno (And.intro hat htk))))
      clear hN hb hno hat htk hsm hSe
      by_cases h0 : 0 ≤ ixI L s
      · rw [if_pos h0, decide_eq_true h0] at hlk
        obtain ⟨p, hp⟩ : ∃ p : Nat, ixI L s = p := ⟨(ixI L s).toNat, by omega⟩
        have hpl := ixI_lt hp
        rw [hp] at hlk
        have hadd := add_any m p _ wr (by omega) HK.out.1
        rw [fdS_snoc L _ s p hp, ← HK.out.2.2.2.2] at hadd
        have HA := Lib.hid hadd
        have HP := Lib.hid hp
        clear hadd h0 hp
        go_wp2_with fail
        with_reducible refine HA.out.mono ?_
        rintro e w2 ⟨rfl, hs2, hg2⟩
        have H2 := Lib.hid (And.intro hs2 hg2)
        clear hs2 hg2 hlk
        go_wp2_with fail
        refine ⟨⟨i + 1, by go_num, hin, H2.out.1, Below.grown HK.out.2.1 H2.out.2 HK.out.2.1.size (fun g hg => by injection hg with hg; rw [← hg]; exact Nat.le_of_eq HR.out.2.2.2.2), ?_⟩, by simp [intOf]; omega⟩
        rw [HK.out.2.2.2.2]
        have h1 := HK.out.2.2.1
        have h2 := HP.out
        unfold noS at h1 ⊢
        rw [List.any_append, h1, List.any_cons, List.any_nil, h2, decide_eq_false (by omega)]
        rfl
      · rw [if_neg h0, decide_eq_false h0] at hlk
        have hnos : noS L l = true := by
          unfold noS
          rw [List.any_eq_true]
          exact ⟨s, List.mem_of_getElem? HK.out.2.2.2.1, decide_eq_true (by omega)⟩
        have HF := Lib.hid hnos
        clear hnos h0
        go_wp2_with fail
        go_ret2
        refine ⟨HK.out.2.1, ?_⟩
        rw [if_pos HF.out]
        rfl
    · obtain rfl : n = i := by omega
      rw [List.take_of_length_le (by rw [HR.out.2.1]; exact Nat.le_refl _)] at hN hno
      have HF := Lib.hid (And.intro hN (And.intro hb hno))
      clear hN hb hno
      go_wp2_with fail
      go_ret2
      refine ⟨HF.out.2.1, ?_⟩
      rw [if_neg (by rw [HF.out.2.2]; decide)]
      exact ⟨m, rfl, Nat.le_of_eq HR.out.2.2.2.2, HF.out.1⟩
end Go.Proofs.YtkfnbapnkmlopaaDoor
/- Sets in a row of one's own; what the looks know of who is whose member. -/
namespace Go.Proofs.YtkfnbapnkmlopaaDoor
open Go.RowKit

theorem elSt : Elem Tryd.prog 58 65 (.map none) 8 := ⟨Tryd.underlying58, by kernel_rfl, rfl⟩
/-- n sets, each in a block of its own. -/
structure StsO (W : World) (B : Nat) (v : Value) (n : Nat) (bl : Nat → Nat) (F : Nat → Nat → Bool) : Prop where
  own : W.ownsRow B 65 1 v n ((List.range n).map fun i => .map (some (bl i)))
  st : ∀ i, i < n → SetM W (bl i) (F i)
  inj : ∀ i j, i < n → j < n → bl i = bl j → i = j
  ge : ∀ i, i < n → B ≤ bl i
theorem SetM.obj {w : World} {b : Nat} {f : Nat → Bool} (h : SetM w b f) : ∃ es c, w.heap[b]? = some (.map es c) := by
  obtain ⟨_, ⟨_, ⟨es, c, h1, _⟩, _⟩, _⟩ := h
  exact ⟨es, c, h1⟩
theorem NamB.obj {w : World} {b : Nat} {L : List Tx} (h : NamB w b L) : ∃ es c, w.heap[b]? = some (.map es c) := by
  obtain ⟨_, _, ⟨es, c, h1, _⟩, _⟩ := h
  exact ⟨es, c, h1⟩
theorem own_map {W : World} {B k n b : Nat} {e : TypeId} {v : Value} {xs : List Value} {es : Array MapEntry} {c : Nat} (h : W.ownsRow B e k v n xs) (hb : W.heap[b]? = some (.map es c)) : v.ownBlock ≠ some b := fun hv => by
  obtain ⟨cur, fr, h1⟩ := own_typed h b hv
  rw [hb] at h1
  cases h1
theorem own_other {W : World} {B k k' n n' : Nat} {e e' : TypeId} {v v' : Value} {xs xs' : List Value} (h : W.ownsRow B e k v n xs) (h' : W.ownsRow B e' k' v' n' xs') (hne : e ≠ e') : ∀ b, v.ownBlock = some b → v'.ownBlock ≠ some b := fun b hb hb' => by
  obtain ⟨c1, f1, e1⟩ := own_typed h b hb
  obtain ⟨c2, f2, e2⟩ := own_typed h' b hb'
  rw [e1] at e2
  injection e2 with e2
  injection e2 with _ e2
  exact hne e2
section
variable {W W' : World} {B n : Nat} {v : Value} {bl : Nat → Nat} {F : Nat → Nat → Bool}
theorem StsO.block (h : StsO W B v n bl F) (hk : ∀ b, v.ownBlock = some b → W'.heap[b]? = W.heap[b]?) (hs : ∀ i, i < n → W'.heap[bl i]? = W.heap[bl i]?) : StsO W' B v n bl F :=
  ⟨own_block9 h.own hk, fun i hi => (h.st i hi).block (hs i hi), h.inj, h.ge⟩
theorem StsO.lt (h : StsO W B v n bl F) {i : Nat} (hi : i < n) : bl i < W.heap.size := (h.st i hi).lt
theorem StsO.below (h : StsO W B v n bl F) (hb : Below W.heap.size W W') : StsO W' B v n bl F :=
  h.block (fun b hv => hb.block b (h.own.lt b hv).2) fun _ hi => hb.block _ (h.lt hi)
/-- What a step leaves alone that writes one block of another kind, or one ahead of all these. -/
theorem StsO.kept (h : StsO W B v n bl F) {row : Option Nat} (hg : W.grownBy W' row) (hr : ∀ b, row = some b → b < B ∨ (v.ownBlock ≠ some b ∧ ∀ i, i < n → bl i ≠ b)) : StsO W' B v n bl F :=
  h.block (fun b hv => hg.block b (h.own.lt b hv).2 fun e => by
    rcases hr b e.symm with h1 | h1
    · have := (h.own.lt b hv).1; omega
    · exact h1.1 hv) fun i hi => hg.block _ (h.lt hi) fun e => by
    rcases hr _ e.symm with h1 | h1
    · have := h.ge i hi; omega
    · exact h1.2 i hi rfl
theorem StsO.same (h : StsO W B v n bl F) {F' : Nat → Nat → Bool} (he : ∀ i, i < n → ∀ p, F' i p = F i p) : StsO W B v n bl F' :=
  ⟨h.own, fun i hi => (h.st i hi).same (he i hi), h.inj, h.ge⟩
theorem StsO.nil (W : World) (B : Nat) (bl : Nat → Nat) (F : Nat → Nat → Bool) : StsO W B (.slice none 0 0) 0 bl F :=
  ⟨World.ownsRow_nil _ _ _ _, fun i hi => absurd hi (Nat.not_lt_zero i), fun i _ hi => absurd hi (Nat.not_lt_zero i), fun i hi => absurd hi (Nat.not_lt_zero i)⟩
/-- One set more. -/
theorem StsO.push (h : StsO W B v n bl F) {v' : Value} {b : Nat} {f : Nat → Bool} (hb : SetM W b f) (hB : B ≤ b) (hnew : ∀ i, i < n → bl i ≠ b)
    (ho : W'.ownsRow B 65 1 v' (n + 1) (((List.range n).map fun i => Value.map (some (bl i))) ++ [.map (some b)])) (hg : W.grownBy W' v.ownBlock) :
    StsO W' B v' (n + 1) (fun i => if i = n then b else bl i) (fun i => if i = n then f else F i) := by
  have hst : ∀ c f, SetM W c f → SetM W' c f := fun c f hc => by
    obtain ⟨es, k, e⟩ := hc.obj
    exact hc.block (hg.block c hc.lt fun e2 => own_map h.own e e2.symm)
  refine ⟨?_, fun i hi => ?_, fun i j hi hj e => ?_, fun i hi => ?_⟩
  · have e : ((List.range (n + 1)).map fun i => Value.map (some (if i = n then b else bl i))) = ((List.range n).map fun i => Value.map (some (bl i))) ++ [.map (some b)] := by
      rw [List.range_succ, List.map_append, List.map_singleton, if_pos rfl]
      congr 1
      exact List.map_congr_left fun i hi => by rw [if_neg (by have := List.mem_range.1 hi; omega)]
    rw [e]
    exact ho
  · by_cases e : i = n
    · rw [if_pos e, if_pos e]; exact hst _ _ hb
    · rw [if_neg e, if_neg e]; exact hst _ _ (h.st i (by omega))
  · by_cases e1 : i = n
    · by_cases e2 : j = n
      · omega
      · rw [if_pos e1, if_neg e2] at e
        exact absurd e.symm (hnew j (by omega))
    · by_cases e2 : j = n
      · rw [if_neg e1, if_pos e2] at e
        exact absurd e (hnew i (by omega))
      · rw [if_neg e1, if_neg e2] at e
        exact h.inj i j (by omega) (by omega) e
  · split
    · exact hB
    · exact h.ge i (by omega)
/-- One set has turned. -/
theorem StsO.turn (h : StsO W B v n bl F) {i : Nat} (hi : i < n) {f : Nat → Bool} (hs : SetM W' (bl i) f) (hg : W.grownBy W' (some (bl i))) : StsO W' B v n bl (fun a => if a = i then f else F a) := by
  obtain ⟨es, c, e⟩ := (h.st i hi).obj
  refine ⟨own_block9 h.own fun b hv => hg.block b (h.own.lt b hv).2 fun e2 => own_map h.own e (by rw [hv, e2]), fun a ha => ?_, h.inj, h.ge⟩
  by_cases ea : a = i
  · subst ea
    rw [if_pos rfl]
    exact hs
  · rw [if_neg ea]
    exact (h.st a ha).block (hg.block _ (h.lt ha) fun e2 => ea (h.inj a i ha hi (by injection e2)))
theorem StsO.ld (h : StsO W B v n bl F) : ∃ A c, v = .slice A n c ∧ n ≤ c ∧ c ≤ maxLen ∧ ∀ i, i < n → ∃ ad, A = some ad ∧ W.cell? (ad.add i) = some (.map (some (bl i))) := by
  obtain ⟨A, c, rfl, h1, h2, _, h3, _⟩ := owns_form h.own
  refine ⟨A, c, rfl, h1, h2, fun i hi => ?_⟩
  obtain ⟨ad, e, hc⟩ := h3 (by simp; omega)
  exact ⟨ad, e, hc i _ (by rw [List.getElem?_map, List.getElem?_range hi]; rfl)⟩
end
theorem LsO.kept {W W' : World} {B : Nat} {v : Value} {LL : List (List Nat)} {Z : List Value} (h : LsO W B v LL Z) {row : Option Nat} (hg : W.grownBy W' row) (hr : ∀ b, row = some b → b < B ∨ ∃ es c, W.heap[b]? = some (.map es c)) : LsO W' B v LL Z := by
  have hb : ∀ {k n : Nat} {e : TypeId} {u : Value} {xs : List Value}, W.ownsRow B e k u n xs → W'.ownsRow B e k u n xs := fun hu => own_block9 hu fun b hv => hg.block b (hu.lt b hv).2 fun e => by
    rcases hr b e.symm with h1 | ⟨es, c, h1⟩
    · have := (hu.lt b hv).1; omega
    · exact own_map hu h1 hv
  exact ⟨hb h.own, h.len, fun i u hu => hb (h.row i u hu)⟩
theorem LsO.grownT {W W' : World} {B k n : Nat} {v u : Value} {e : TypeId} {xs : List Value} {LL : List (List Nat)} {Z : List Value} (h : LsO W B v LL Z) (hg : W.grownBy W' u.ownBlock) (hu : W.ownsRow B e k u n xs) (h1 : e ≠ 48) (h2 : e ≠ 3) : LsO W' B v LL Z :=
  ⟨own_block9 h.own fun b hv => hg.block b (h.own.lt b hv).2 fun e2 => own_other hu h.own h1 b e2.symm hv, h.len, fun i y hy => own_block9 (h.row i y hy) fun b hv => hg.block b ((h.row i y hy).lt b hv).2 fun e2 => own_other hu (h.row i y hy) h2 b e2.symm hv⟩
end Go.Proofs.YtkfnbapnkmlopaaDoor

/- Contract: the document's Words. -/
import Derived.Test.YtpldkbadepfjbaaDoorLxR
namespace Go.Proofs.YtpldkbadepfjbaaDoor
open Go.RowKit

def txC (l : Tx) : Value := .string (str l)
def RdS (w : World) (A : Option Addr) (L : List Tx) : Prop := Rd w A (L.map txC)
/-- A slice of strings. -/
def RowS (w : World) (v : Value) (L : List Tx) : Prop := ∃ A c, v = .slice A L.length c ∧ L.length ≤ c ∧ c ≤ maxLen ∧ RdS w A L
theorem RowS.below {w w' : World} {v : Value} {L : List Tx} (h : RowS w v L) (hb : Below w.heap.size w w') : RowS w' v L := by
  obtain ⟨A, c, e, h1, h2, h3⟩ := h
  exact ⟨A, c, e, h1, h2, Rd.below h3 hb⟩
theorem RowS.owned {w : World} {base : Nat} {e : TypeId} {v : Value} {n : Nat} {L : List Tx} (hn : L.length = n) (h : w.ownsRow base e 1 v n (L.map txC)) : RowS w v L := by
  obtain ⟨A, c, rfl, h1, h2, _, h3, _⟩ := owns_form h
  subst hn
  exact ⟨A, c, rfl, h1, h2, h3⟩
theorem elStr : Elem Tryd.prog 36 9 (.string .empty) 16 := ⟨Tryd.underlying36, by kernel_rfl, rfl⟩
/-- A byte of a string, and the piece that it is. -/
theorem at_facts (l : Tx) (n k : Nat) (hn : l.length = n) (hk : k < n) : ∃ x r, l.drop k = x :: r ∧ l.drop (k + 1) = r ∧ ∃ S, str l = S ∧ ∃ hs : S.size = n, S[k]'(hs ▸ hk) = x ∧ S.extract k (k + 1) = str [x] := by
  subst hn
  refine ⟨l[k], l.drop (k + 1), List.drop_eq_getElem_cons hk, rfl, _, rfl, rfl, rfl, ?_⟩
  rw [str_cut, List.drop_eq_getElem_cons hk]
  congr 1
  rw [Nat.add_sub_cancel_left]
  rfl
theorem slice_run (S D : ByteArray) (k n : Nat) (hs : S.size = n) (hk : k < n) (_ : n ≤ 4611686018427387904) (hc : S.extract k (k + 1) = D) (W : World) :
    (Instr.slice 9 (.string S) (some (.int .i64 (k : Int))) (some (.int .i64 ((k : Int) + 1))) none).run Tryd.prog W = .ok (.string D) W := by
  rw [run_slice_string _ _ _ _ _ _ _ Tryd.underlying9 (by omega) (by omega) (by rw [hs]; omega)]
  rw [show ((k : Int)).toNat = k by omega, show ((k : Int) + 1).toNat = k + 1 by omega, hc]
theorem str_ne8 {l : Tx} {b : Bool} (h : l.isEmpty = b) : (str l).toList.isEmpty = b := by rw [str_toList]; exact h
set_option maxHeartbeats 1000000 in
set_option maxRecDepth 100000 in
theorem refWords_any (l : Tx) (w : World) (hl : l.length ≤ 100000) : Calls Tryd.prog 17 #[.string (str l)] w fun e w' => ∃ v, e = .returned v ∧ RowS w' v (wds l []) ∧ Below w.heap.size w w' := by
  obtain ⟨n, hn⟩ : ∃ n, l.length = n := ⟨_, rfl⟩
  rw [hn] at hl
  have HN := Lib.hid hn
  obtain ⟨R, hR⟩ : ∃ R, wds l [] = R := ⟨_, rfl⟩
  have HR := Lib.hid hR
  rw [hR]
  clear hR
  have hsz : (str l).size = n := hn
  obtain ⟨S, hS⟩ : ∃ S, str l = S := ⟨_, rfl⟩
  have HS := Lib.hid hS
  rw [hS] at hsz ⊢
  clear hS hn
  go_enter Tryd.func17, Tryd.ntmps17
  go_wp2_with fail
  go_loopw [3, 4, 5] (fun o s i wr => ∃ (k : Nat) (W : Tx) (acc : List Tx), i = .int .i64 k ∧ k ≤ n ∧ s = .string (str W) ∧ W.length ≤ k ∧ acc.length ≤ k ∧ wr.ownsRow w.heap.size 9 1 o acc.length (acc.map txC) ∧ Below w.heap.size w wr ∧ acc ++ wds (l.drop k) W = R) (fun _ _ i _ => n - (intOf i).toNat)
  case atStart => exact ⟨0, [], [], rfl, Nat.zero_le _, rfl, Nat.zero_le _, Nat.zero_le _, World.ownsRow_nil _ _ _ _, Below.refl _ _, HR.out⟩
  case round =>
    obtain ⟨k, W, acc, rfl, hk, rfl, hW, hA, ho, hb, hd⟩ := hrel
    have HK := Lib.hid (And.intro ho (And.intro hb hd))
    clear ho hb hd
    obtain ⟨m, hm⟩ : ∃ m, W.length = m := ⟨_, rfl⟩
    have HM := Lib.hid hm
    have hws : (str W).size = m := hm
    rw [hm] at hW
    clear hm
    obtain ⟨a, ha⟩ : ∃ a, acc.length = a := ⟨_, rfl⟩
    have HA := Lib.hid ha
    rw [ha] at hA
    clear ha
    rcases Nat.lt_or_ge k n with hlt | hge
    · obtain ⟨x, r, e1, e2, S', e3, hs', hx, hc⟩ := at_facts l n k HN.out hlt
      obtain rfl : S' = S := e3.symm.trans HS.out
      have hB := Lib.hid (fun W => refBlank_any x W)
      have q0 : (0 : Int) ≤ k := by omega
      have q1 : (k : Int) < n := by omega
      have hB2 := Lib.hid (And.intro e1 e2)
      clear e1 e2 e3
      cases hbl : blk x
      · have hd1 : (str [x]).size = 1 := rfl
        have HJ := Lib.hid (str_append W [x])
        have HBL : Hid (blk x = false) := hbl
        rw [hbl] at hB
        clear hbl
        have hR := fun W => slice_run S' (str [x]) k n hs' hlt (by omega) hc W
        generalize str [x] = D at *
        generalize str W = T at *
        have hw2 : m ≤ 100000 := by omega
        go_wp2_with fail
        refine (hB.out _).mono ?_
        rintro e w' ⟨rfl, rfl⟩
        go_wp2_with fail
        refine ⟨⟨k + 1, W ++ [x], acc, by go_num, hlt, congrArg Value.string HJ.out, by rw [List.length_append, HM.out]; exact Nat.add_le_add_right hW 1, by rw [HA.out]; omega, HK.out.1, HK.out.2.1, ?_⟩, by simp [intOf]; omega⟩
        have h2 := HK.out.2.2
        rw [hB2.out.1, wds, HBL.out, if_neg (by simp)] at h2
        rw [hB2.out.2]
        exact h2
      · have HBL : Hid (blk x = true) := hbl
        rw [hbl] at hB
        clear hbl
        cases hw : W.isEmpty
        · have hT := str_ne8 hw
          have HW : Hid (W ≠ []) := by unfold Hid; intro h; rw [h] at hw; cases hw
          have HT : Hid (Value.string (str W) = txC W) := rfl
          clear hw
          generalize str W = T at *
          go_wp2_with fail
          refine (hB.out _).mono ?_
          rintro e w' ⟨rfl, rfl⟩
          go_wp2_with
            (at_builtin
             refine wpList_app rfl (.tmp 26) (.tmp 28) 36 rfl elStr w.heap.size u3 a (acc.map txC) rfl (HA.out ▸ HK.out.1.alloc _) (some ⟨wr.heap.size, 0, none⟩) 1 1 [.string T] rfl rfl (Rd.block (MapKept.heap_alloc wr (.cells #[.string T] 9)).1) (fun u hu => by rw [List.mem_singleton.1 hu]; rfl) (by unfold maxLen; omega) (by omega) (by rw [World.size_alloc]; have := HK.out.2.1.size; omega) ?_)
          intro v' w' ho hg ha
          have HN2 := Lib.hid (And.intro ho (And.intro hg ha))
          clear ho hg ha
          go_wp2_with fail
          refine ⟨⟨k + 1, [], acc ++ [W], by go_num, hlt, rfl, Nat.zero_le _, by rw [List.length_append, HA.out]; exact Nat.add_le_add_right hA 1, ?_, (HK.out.2.1.alloc HK.out.2.1.size _).grown HN2.out.2.1 (by rw [World.size_alloc]; have := HK.out.2.1.size; omega) (fun k hk => (HK.out.1.lt k hk).1), ?_⟩, by simp [intOf]; omega⟩
          · rw [List.length_append, HA.out, List.map_append, List.map_singleton, ← HT.out]
            exact HN2.out.1
          · have h2 := HK.out.2.2
            rw [hB2.out.1, wds, HBL.out, if_pos rfl, if_neg HW.out] at h2
            rw [hB2.out.2, List.append_assoc]
            exact h2
        · have HW : Hid (W = []) := by unfold Hid; simpa using hw
          rw [HW.out] at hws ⊢
          have e0 : str [] = { data := #[] } := rfl
          rw [e0] at hws ⊢
          clear hw e0
          go_wp2_with fail
          refine (hB.out _).mono ?_
          rintro e w' ⟨rfl, rfl⟩
          go_wp2_with fail
          refine ⟨⟨k + 1, [], acc, by go_num, hlt, rfl, Nat.zero_le _, by rw [HA.out]; omega, HK.out.1, HK.out.2.1, ?_⟩, by simp [intOf]; omega⟩
          have h2 := HK.out.2.2
          rw [hB2.out.1, wds, HBL.out, if_pos rfl, if_pos HW.out] at h2
          rw [hB2.out.2]
          exact h2
    · obtain rfl : k = n := by omega
      have q1 : ¬ ((k : Int) < k) := by omega
      have hdrop : l.drop k = [] := List.drop_eq_nil_of_le (by rw [HN.out]; exact Nat.le_refl _)
      have HD := Lib.hid hdrop
      clear hdrop
      cases hw : W.isEmpty
      · have hT := str_ne8 hw
        have HW : Hid (W ≠ []) := by unfold Hid; intro h; rw [h] at hw; cases hw
        have HT : Hid (Value.string (str W) = txC W) := rfl
        clear hw
        generalize str W = T at *
        go_wp2_with
          (at_builtin
           refine wpList_app rfl (.tmp 32) (.tmp 34) 36 rfl elStr w.heap.size u3 a (acc.map txC) rfl (HA.out ▸ HK.out.1.alloc _) (some ⟨wr.heap.size, 0, none⟩) 1 1 [.string T] rfl rfl (Rd.block (MapKept.heap_alloc wr (.cells #[.string T] 9)).1) (fun u hu => by rw [List.mem_singleton.1 hu]; rfl) (by unfold maxLen; omega) (by omega) (by rw [World.size_alloc]; have := HK.out.2.1.size; omega) ?_)
        intro v' w' ho hg ha
        have HN2 := Lib.hid (And.intro ho (And.intro hg ha))
        clear ho hg ha
        go_wp2_with fail
        go_ret
        have h2 := HK.out.2.2
        rw [HD.out, wds, if_neg HW.out] at h2
        refine ⟨_, rfl, RowS.owned (e := 9) (base := w.heap.size) (n := a + 1) (by rw [← h2, List.length_append, HA.out]; rfl) ?_, (HK.out.2.1.alloc HK.out.2.1.size _).grown HN2.out.2.1 (by rw [World.size_alloc]; have := HK.out.2.1.size; omega) (fun k hk => (HK.out.1.lt k hk).1)⟩
        rw [← h2, List.map_append, List.map_singleton, ← HT.out]
        exact HN2.out.1
      · have HW : Hid (W = []) := by unfold Hid; simpa using hw
        rw [HW.out] at hws ⊢
        have e0 : str [] = { data := #[] } := rfl
        rw [e0] at hws ⊢
        clear hw e0
        go_wp2_with fail
        go_ret
        have h2 := HK.out.2.2
        rw [HD.out, wds, if_pos HW.out, List.append_nil] at h2
        refine ⟨_, rfl, RowS.owned (e := 9) (base := w.heap.size) (n := a) (by rw [← h2, HA.out]) ?_, HK.out.2.1⟩
        rw [← h2, ← HA.out]
        exact HK.out.1
end Go.Proofs.YtpldkbadepfjbaaDoor

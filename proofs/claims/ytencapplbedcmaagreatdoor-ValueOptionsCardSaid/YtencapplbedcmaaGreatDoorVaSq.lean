/- The library's SplitSeq, at a comma: its value deals out the parts. -/
import Derived.Test.YtencapplbedcmaaGreatDoorVaItr
import Derived.Test.YtencapplbedcmaaGreatDoorVaLib
import Derived.RangeFuncCalls
import Derived.RangeFuncLeaves
import Derived.Shelf.Abstract
import Derived.OwnWalkIn
import Derived.TacticsInMore
import Derived.LoopNIn
import Derived.LoopIn
namespace Go.Proofs.YtencapplbedcmaaGreatDoor
open Go.RowKit Go.Shelf
attribute [local go_sem] Oper.semAt_some

theorem idx_cut : ∀ l : Tx, (Lib.indexByte l 44 = -1 ∧ 44 ∉ l) ∨ ∃ a b, l = a ++ 44 :: b ∧ 44 ∉ a ∧ Lib.indexByte l 44 = (a.length : Int)
  | [] => .inl ⟨rfl, by simp⟩
  | x :: l => by
    by_cases h : x = 44
    · subst h
      exact .inr ⟨[], l, rfl, by simp, rfl⟩
    · have hx : (x == 44) = false := beq_eq_false_iff_ne.2 h
      rcases idx_cut l with ⟨h1, h2⟩ | ⟨a, b, e, h1, h2⟩
      · exact .inl ⟨by rw [Lib.indexByte, hx, h1]; rfl, by simp [h2, Ne.symm h]⟩
      · refine .inr ⟨x :: a, b, by rw [e]; rfl, by simp [h1, Ne.symm h], ?_⟩
        rw [Lib.indexByte, hx, h2]
        simp only [Bool.false_eq_true, if_false, List.length_cons]
        rw [if_neg (by simp)]
        omega
/-- A block with one variable. -/
def Bx (W : World) (B : Nat) (t : TypeId) (v : Value) : Prop := W.heap[B]? = some (.cells #[v] t (0, 0))
section
variable {W W' : World} {B : Nat} {t : TypeId} {v : Value}
theorem Bx.lt (h : Bx W B t v) : B < W.heap.size := (Array.getElem?_eq_some_iff.1 h).1
theorem Bx.cell (h : Bx W B t v) : W.cell? ⟨B, 0, none⟩ = some v := by simp [World.cell?, show W.heap[B]? = _ from h]
theorem Bx.frozen (h : Bx W B t v) : W.frozen? ⟨B, 0, none⟩ = false := by simp [World.frozen?, show W.heap[B]? = _ from h]
theorem Bx.new (W : World) (t : TypeId) (v : Value) : Bx (W.alloc (.cells #[v] t)) W.heap.size t v := World.alloc_heap_new W _
theorem Bx.below (h : Bx W B t v) (hb : Below W.heap.size W W') : Bx W' B t v := (hb.block B h.lt).trans h
theorem Bx.alloc (h : Bx W B t v) (o : Obj) : Bx (W.alloc o) B t v := (Below.heap_alloc W o B h.lt).trans h
theorem Bx.spared (h : Bx W B t v) {S : Nat → Prop} (hs : Spares S W W') (hB : S B) : Bx W' B t v := (hs.same B hB).trans h
theorem Bx.turned (h : Bx W B t v) {S T : Nat → Prop} (ht : Turns S T W W') (hB : ¬ S B) : Bx W' B t v := (ht.same B h.lt hB).trans h
theorem Bx.other (h : Bx W B t v) {p : Addr} (hp : p.block ≠ B) (u : Value) : Bx (W.setCell p u) B t v := (Below.heap_setCell W p u B (fun e => hp e.symm)).trans h
theorem Bx.set (h : Bx W B t v) (u : Value) : Bx (W.setCell ⟨B, 0, none⟩ u) B t u := by
  unfold Bx World.setCell
  obtain ⟨hl, he⟩ := Array.getElem?_eq_some_iff.1 h
  rw [Array.getElem?_modify, if_pos rfl, h]
  rfl
end
def strIn (W : World) (B : Nat) : Nat := match W.cell? ⟨B, 0, none⟩ with
  | some (.string s) => s.size
  | _ => 0
theorem strIn_eq {W : World} {B : Nat} {t : TypeId} {s : ByteArray} (h : Bx W B t (.string s)) : strIn W B = s.size := by unfold strIn; rw [h.cell]
set_option maxRecDepth 100000 in
set_option maxHeartbeats 2000000 in
theorem splitSeq1_deals (l : Tx) (hl : l.length ≤ 1000000) (b1 b2 b3 : Nat) (h12 : b1 ≠ b2) (h32 : b3 ≠ b2) (S0 : Nat → Prop) (hs1 : S0 b1) (hs2 : S0 b2) (hs3 : S0 b3) (W : World) (hS0 : ∀ k, S0 k → k < W.heap.size)
    (hb1 : Bx W b1 9 (.string (str [44]))) (hb2 : Bx W b2 9 (.string (str l))) (hb3 : Bx W b3 3 (.int .i64 0)) :
    Deals Tryz.prog 97 #[.pointer (some ⟨b1, 0, none⟩), .pointer (some ⟨b2, 0, none⟩), .pointer (some ⟨b3, 0, none⟩)] txC (cutAt 44 l) S0 W := by
  intro L J Jx hJ hJx hY h0
  refine callsIn_of_wp Tryz.func97 rfl trivial ?_ rfl
  simp only [Tryz.ntmps97, List.size_toArray, List.length_cons, List.length_nil, Nat.reduceAdd, Nat.reduceSub, Array.replicate_succ, Array.replicate_zero, List.push_toArray, List.append_toArray, List.nil_append, List.cons_append]
  have HB := Lib.hid (And.intro hb1 (And.intro hb2 (And.intro hb3 (And.intro h0 hS0))))
  have k1 := hb1.cell
  have HY := Lib.hid hY
  clear hb1 hb2 hb3 h0 hY hS0
  have k0 : (str [44]).size = 1 := rfl
  gi_wp2
  gi_loopw [7, 8] (fun _ _ wr => ∃ (S : Nat → Prop) (pre : List Tx) (r : Tx), cutAt 44 l = pre ++ cutAt 44 r ∧ r.length ≤ l.length ∧ S b1 ∧ S b2 ∧ S b3 ∧ (∀ k, S k → k < wr.heap.size) ∧ Bx wr b1 9 (.string (str [44])) ∧ Bx wr b2 9 (.string (str r)) ∧ Bx wr b3 3 (.int .i64 0) ∧ J S pre wr)
    (fun _ _ wr => strIn wr b2)
  case atStart => exact ⟨S0, [], l, rfl, Nat.le_refl _, hs1, hs2, hs3, HB.out.2.2.2.2, HB.out.1, HB.out.2.1, HB.out.2.2.1, HB.out.2.2.2.1⟩
  case round =>
    obtain ⟨S, pre, r, e1, e2, i1, i2, i3, hlt, x1, x2, x3, hj⟩ := hrel
    have HE := Lib.hid (And.intro e1 e2)
    have HS := Lib.hid (And.intro i1 (And.intro i2 (And.intro i3 hlt)))
    have HX := Lib.hid (And.intro x1 (And.intro x2 (And.intro x3 hj)))
    have k2 := x2.cell
    have k1' := x1.cell
    have k3 := x3.cell
    have hix := Lib.hid (fun w => index1_any r 44 _ rfl w)
    clear e1 e2 i1 i2 i3 hlt x1 x2 x3 hj k1
    rcases idx_cut r with ⟨h1, h2⟩ | ⟨a, b, rfl, h1, h2⟩
    · rw [h1] at hix
      have hcut := cut_no 44 r h2
      obtain ⟨fn, tmps, assign, body, hy, hR⟩ := HY.out S pre r [] wr (by rw [HE.out.1, hcut]) HX.out.2.2.2
      have HC := Lib.hid hcut
      unfold txC at hy
      have HR := Lib.hid hR
      generalize str r = D at *
      generalize str [44] = C at *
      clear hcut h1 h2 hR
      gi_wp2_with fail
      refine ⟨trivial, rfl, (callsIn_wide.2 (hix.out _)).mono ?_⟩
      rintro e w' ⟨rfl, rfl⟩
      gi_wp2_with fail
      refine ⟨rfl, HR.out.mono ?_⟩
      rintro e w' ⟨hsp, ⟨rfl, hj⟩ | ⟨rfl, hj⟩⟩
      · have HJ := Lib.hid hj
        clear hj hsp
        gi_wp2_with fail
        go_end0
        exact ⟨⟨_, rfl⟩, S, .inl (by rw [HE.out.1, HC.out]; exact HJ.out)⟩
      · have HJ := Lib.hid hj
        clear hj hsp
        gi_wp2_with fail
        go_end0
        exact ⟨⟨_, rfl⟩, S, .inr ⟨_, HJ.out⟩⟩
    · rw [h2] at hix
      have hcut := cut_of_no 44 a b h1
      obtain ⟨fn, tmps, assign, body, hy, hR⟩ := HY.out S pre a (cutAt 44 b) wr (by rw [HE.out.1, hcut]) HX.out.2.2.2
      have HC := Lib.hid hcut
      unfold txC at hy
      have HR := Lib.hid hR
      obtain ⟨n, hn⟩ : ∃ n, a.length = n := ⟨_, rfl⟩
      have hsz : (str (a ++ 44 :: b)).size = n + 1 + b.length := by rw [str_size, List.length_append, List.length_cons, hn]; omega
      have hbig : n + 1 + b.length ≤ 1000000 := by
        have h3 := HE.out.2
        rw [List.length_append, List.length_cons, hn] at h3
        omega
      have hx1 : (str (a ++ 44 :: b)).extract 0 n = str a := by rw [str_cut, ← hn]; simp
      have hx2 : (str (a ++ 44 :: b)).extract (n + 1) (n + 1 + b.length) = str b := by
        rw [str_cut, ← hn]
        have e3 : (a ++ 44 :: b).drop (a.length + 1) = b := by rw [List.drop_append]; simp
        rw [e3, List.take_of_length_le (by omega)]
      rw [hn] at hix
      have HL : Hid (b.length ≤ l.length) := Nat.le_trans (by rw [List.length_append, List.length_cons]; omega) HE.out.2
      obtain ⟨m, hm⟩ : ∃ m, b.length = m := ⟨_, rfl⟩
      rw [hm] at hsz hbig hx2
      have HM : Hid ((str b).size = m) := hm
      have HXX := Lib.hid (And.intro hx1 hx2)
      generalize str (a ++ 44 :: b) = D at *
      obtain ⟨A, hA⟩ : ∃ A, str a = A := ⟨_, rfl⟩
      obtain ⟨B, hB⟩ : ∃ B, str b = B := ⟨_, rfl⟩
      have HBB := Lib.hid hB
      rw [hA] at hx1 hy
      rw [hB] at hx2 HM
      generalize str [44] = C at *
      clear hcut h1 h2 hR hA hB hn hm
      have q0 : (0 : Int) ≤ n := by omega
      have q1 : (n : Int) + 1 + m ≤ 1000000 := by omega
      gi_wp2_with fail
      refine ⟨trivial, rfl, (callsIn_wide.2 (hix.out _)).mono ?_⟩
      rintro e w' ⟨rfl, rfl⟩
      gi_wp2_with fail
      refine ⟨rfl, HR.out.mono ?_⟩
      rintro e w' ⟨hsp, ⟨rfl, hj⟩ | ⟨rfl, hj⟩⟩
      · have X1 := HX.out.1.spared hsp HS.out.1
        have X2 := HX.out.2.1.spared hsp HS.out.2.1
        have X3 := HX.out.2.2.1.spared hsp HS.out.2.2.1
        have hlt' : ∀ k, S k → k < w'.heap.size := fun k hk => Nat.lt_of_lt_of_le (HS.out.2.2.2 k hk) hsp.size
        have HJ := Lib.hid (And.intro X1 (And.intro X2 (And.intro X3 (And.intro hj hlt'))))
        have c1 := X1.cell
        have c2 := X2.cell
        have c2f := X2.frozen
        clear hj hsp X1 X2 X3 hlt' k1' k2 k3 hy
        gi_wp2_with fail
        refine ⟨⟨S, pre ++ [a], b, by rw [HE.out.1, HC.out, List.append_assoc]; rfl, HL.out, HS.out.1, HS.out.2.1, HS.out.2.2.1, fun k hk => by have := HJ.out.2.2.2.2 k hk; simpa [World.setCell] using this, HJ.out.1.other (fun e => h12 e.symm) _, ?_, HJ.out.2.2.1.other (fun e => h32 e.symm) _, hJ _ _ _ _ _ HJ.out.2.2.2.1 (Turns.setCell HJ.out.2.2.2.2 HS.out.2.1 _)⟩, ?_⟩
        · rw [HBB.out]
          exact HJ.out.2.1.set _
        · rw [strIn_eq (HJ.out.2.1.set _), strIn_eq HX.out.2.1, HM.out, hsz]
          omega
      · have HJ := Lib.hid hj
        clear hj hsp
        gi_wp2_with fail
        refine bodyPost_ret (results_none rfl _ _ _) rfl ?_
        exact ⟨⟨_, rfl⟩, S, .inr ⟨_, HJ.out⟩⟩
set_option maxRecDepth 100000 in
theorem splitSeq_any (l : Tx) (sep : ByteArray) (hsep : sep = str [44]) (w : World) :
    Calls Tryz.prog 55 #[.string (str l), .string sep] w fun e w' => e = .returned (.func (.func 97) #[] #[.pointer (some ⟨w.heap.size + 1, 0, none⟩), .pointer (some ⟨w.heap.size, 0, none⟩), .pointer (some ⟨w.heap.size + 2, 0, none⟩)]) ∧
      Below w.heap.size w w' ∧ w'.heap.size = w.heap.size + 3 ∧ Bx w' w.heap.size 9 (.string (str l)) ∧ Bx w' (w.heap.size + 1) 9 (.string (str [44])) ∧ Bx w' (w.heap.size + 2) 3 (.int .i64 0) := by
  obtain ⟨S, hS⟩ : ∃ S, str l = S := ⟨_, rfl⟩
  rw [hS, ← hsep]
  clear hS hsep
  have HI : Hid (∀ W : World, Calls Tryz.prog 81 #[.string S, .string sep, .int .i64 0] W fun e w' => e = .returned (.func (.func 97) #[] #[.pointer (some ⟨W.heap.size + 1, 0, none⟩), .pointer (some ⟨W.heap.size, 0, none⟩), .pointer (some ⟨W.heap.size + 2, 0, none⟩)]) ∧
      w' = ((W.alloc (.cells #[.string S] 9)).alloc (.cells #[.string sep] 9)).alloc (.cells #[.int .i64 0] 3)) := fun W => by
    go_enter Tryz.func81, Tryz.ntmps81
    go_wp2_with fail
    go_ret
    exact ⟨rfl, rfl⟩
  go_enter Tryz.func55, Tryz.ntmps55
  go_wp2_with fail
  refine (HI.out _).mono ?_
  rintro e w' ⟨rfl, hw⟩
  have hb : Below w.heap.size w w' := by rw [hw]; exact (((Below.refl _ w).alloc (Nat.le_refl _) _).alloc (by simp) _).alloc (by simp; omega) _
  have hs : w'.heap.size = w.heap.size + 3 := by rw [hw]; simp
  have x1 : Bx w' w.heap.size 9 (.string S) := by rw [hw]; exact ((Bx.new w _ _).alloc _).alloc _
  have x2 : Bx w' (w.heap.size + 1) 9 (.string sep) := by
    have h := (Bx.new (w.alloc (.cells #[.string S] 9)) 9 (.string sep)).alloc (.cells #[.int .i64 0] 3)
    rw [World.size_alloc] at h
    rw [hw]
    exact h
  have x3 : Bx w' (w.heap.size + 2) 3 (.int .i64 0) := by
    have h := Bx.new ((w.alloc (.cells #[.string S] 9)).alloc (.cells #[.string sep] 9)) 3 (.int .i64 0)
    rw [World.size_alloc, World.size_alloc] at h
    rw [hw]
    exact h
  have HW := Lib.hid (And.intro hb (And.intro hs (And.intro x1 (And.intro x2 x3))))
  clear hw hb hs x1 x2 x3
  go_wp2_with fail
  go_ret
  exact ⟨rfl, HW.out⟩
end Go.Proofs.YtencapplbedcmaaGreatDoor

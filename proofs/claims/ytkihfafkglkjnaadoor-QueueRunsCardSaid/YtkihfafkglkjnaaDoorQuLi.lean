/- Layer 15: List: a clone, sorted. -/
import Derived.Test.YtkihfafkglkjnaaDoorQuPb
import Derived.Test.YtkihfafkglkjnaaDoorShelfQ
import Derived.Sort.Walk0
namespace Go.Proofs.YtkihfafkglkjnaaDoor
open Go.RowKit Go.Shelf

theorem ltQ (x y : Ev) : Go.Proofs.ltOf cmE x y = ahE x y := cmE_neg x y
theorem swoQ : Go.Sort.SWO (Go.Proofs.ltOf cmE) where
  irrefl := fun x => by rw [ltQ]; exact ahE_irr x
  trans := fun x y z h1 h2 => by
    rw [ltQ] at *
    exact ahE_trans h1 h2
  ntrans := fun x y z h1 h2 => by
    rw [ltQ] at *
    exact leE.trans (a := z) (b := y) (c := x) h2 h1
theorem flatQ_get : ∀ (l : List Ev) (i c : Nat), c < 3 → (l.flatMap evC)[i * 3 + c]? = (l[i]?).bind fun p => (evC p)[c]?
  | [], i, c, _ => by simp
  | p :: l, 0, c, hc => by
    simp only [List.flatMap_cons, Nat.zero_mul, Nat.zero_add, List.getElem?_cons_zero, Option.bind_some]
    rw [List.getElem?_append_left (by show c < 3; exact hc)]
  | p :: l, i + 1, c, hc => by
    simp only [List.flatMap_cons, List.getElem?_cons_succ]
    rw [List.getElem?_append_right (by show 3 ≤ _; omega)]
    have e : (i + 1) * 3 + c - (evC p).length = i * 3 + c := by show _ - 3 = _; omega
    rw [e]
    exact flatQ_get l i c hc
theorem flatQK_get (d : Array Ev) (i c : Nat) (hi : i < d.size) (hc : c < 3) : (d.toList.flatMap evC)[i * 3 + c]? = (evC d[i]!)[c]? := by
  rw [flatQ_get _ _ _ hc, getElem!_pos d i hi, List.getElem?_eq_getElem (by simpa using hi), Option.bind_some, Array.getElem_toList]
set_option maxRecDepth 100000 in
theorem sortQ_any (base : Nat) (v : Value) (xs : List Ev) (w : World) (hn : xs.length ≤ 1000000) (hown : w.ownsRow base 38 3 v xs.length (xs.flatMap evC)) :
    Calls Tryd.prog 27 #[v, .func (.func 28) #[] #[]] w fun e w' => e = .returned (.tuple #[]) ∧ ∃ ys : List Ev, ys.Perm xs ∧ (ys.Pairwise fun p q => ahE q p = false) ∧ RowP (fun k => k < base) w' v ys ∧ Below base w w' := by
  by_cases h0 : xs = []
  · subst h0
    obtain ⟨A, c, rfl, hc1, hc2, _, hr, _⟩ := owns_formk hown
    refine Calls.mono (AnyF.slices_SortFunc_none Tryd.sortL A c _ w) ?_
    rintro e w' ⟨rfl, rfl⟩
    exact ⟨rfl, [], List.Perm.refl _, List.Pairwise.nil, ⟨A, c, rfl, hc1, hc2, Rd.nil, fun _ _ hn => absurd rfl hn⟩, Below.refl _ _⟩
  · have hpos : 0 < xs.length := List.length_pos_iff.2 h0
    rcases hown.2 with ⟨_, h9⟩ | ⟨g, cap, cur, rfl, hbg, hh, hnc, hcm, hcs, htk⟩
    · omega
    · have hgl := blk9_lt hh
      have hsz : xs.toArray.size = xs.length := by simp
      have hH : Go.Sort.HoldsK evC 3 w g 0 xs.toArray := by
        intro j hj
        rw [Go.Sort.size_flatK, hsz] at hj
        have hjq : j / 3 < xs.length := by omega
        have hcell : w.cell? ⟨g, j, none⟩ = some ((evC xs.toArray[j / 3]!)[j % 3]!) := by
          refine cell9_blk hh j ?_
          have h1 := flatQK_get xs.toArray (j / 3) (j % 3) (by rw [hsz]; exact hjq) (Nat.mod_lt _ (by decide))
          have h2 : j / 3 * 3 + j % 3 = j := by omega
          rw [h2] at h1
          have h3 : (xs.toArray.toList.flatMap evC) = cur.toList.take (xs.length * 3) := by rw [htk]
          rw [h3, List.getElem?_take_of_lt (by omega), Array.getElem?_toList] at h1
          rw [h1]
          have h4 : j % 3 < (evC xs.toArray[j / 3]!).length := by show j % 3 < 3; exact Nat.mod_lt _ (by decide)
          rw [getElem!_pos (evC xs.toArray[j / 3]!) (j % 3) h4]
          exact List.getElem?_eq_getElem h4
        have hfr : w.frozen? ⟨g, j, none⟩ = false := frz9_blk hh j
        have hfk := Go.Sort.get_flatK evC 3 xs.toArray j (by rw [hsz]; exact hj)
        rw [Nat.zero_add]
        exact ⟨by rw [hcell, hfk]; rfl, hfr⟩
      have hcmp : CmpLays Tryd.prog 28 #[] evC 3 cmE g 0 xs.toArray.size w := by
        intro m os dk hdk x y
        refine (compare_any x y (sortWorldK evC 3 w g 0 m dk os)).mono ?_
        rintro e W' ⟨rfl, hg⟩
        exact ⟨rfl, hg⟩
      have h := AnyQ.slices_SortFunc Tryd.sortL 3 (fun w => by kernel_rfl) (fun w => by kernel_rfl) evC (fun _ => rfl) (fun x v hv => by
        simp only [evC, List.mem_cons, List.not_mem_nil, or_false] at hv
        rcases hv with rfl | rfl | rfl <;> rfl) cmE swoQ 28 #[] g 0 cap xs.toArray w (enters_of Tryd.func28 (by kernel_rfl) rfl) hcmp hH hgl (by rw [hsz]; omega)
      rw [hsz] at h
      refine Calls.mono h ?_
      rintro e w' ⟨rfl, d', n, os, ⟨hp1, _, hp3⟩, hso, rfl⟩
      have hd3 : d'.size = xs.length := by rw [hp1, hsz]
      have e1 : d'.extract 0 xs.length = d' := by rw [← hd3]; simp
      have e2 : xs.toArray.extract 0 xs.length = xs.toArray := by rw [← hsz]; simp
      rw [e1, e2] at hp3
      have hK0 : Go.Sort.HoldsK evC 3 (Go.Sort.putRowK evC 3 (Go.Sort.ahead w n) g 0 d') g 0 d' := Go.Sort.holdsK_putRowK evC 3 _ g 0 xs.toArray d' (Go.Sort.holdsK_ahead evC 3 w n g 0 _ hH) hp1
      have hsz2 : (Go.Sort.putRowK evC 3 (Go.Sort.ahead w n) g 0 d').heap.size = w.heap.size := Go.Sort.size_putRow _ _ _ _ _
      have hK : Go.Sort.HoldsK evC 3 (sortWorldK evC 3 w g 0 n d' os) g 0 d' := Go.Sort.holdsK_grow evC 3 _ os g 0 d' (by rw [hsz2]; exact hgl) hK0
      refine ⟨rfl, d'.toList, hp3, ?_, ⟨some ⟨g, 0, none⟩, cap, ?_, ?_, hcm, ?_, ?_⟩, rfl, rfl, rfl, ?_, fun k hk => ?_⟩
      · rw [List.pairwise_iff_getElem]
        intro i j hi hj hij
        have hj' : j < d'.size := by simpa using hj
        have h9 := hso i j (Nat.zero_le _) hij (by omega)
        rw [ltQ, getElem!_pos d' j hj', getElem!_pos d' i (by omega)] at h9
        simpa using h9
      · have e : d'.toList.length = xs.length := by rw [Array.length_toList, hd3]
        rw [e]
      · rw [Array.length_toList, hd3]; exact hnc
      · intro _
        refine ⟨_, rfl, fun j u hu => ?_⟩
        have hjl := (List.getElem?_eq_some_iff.1 hu).1
        rw [evC_len, Array.length_toList, hd3] at hjl
        have h1 := (hK j (by rw [Go.Sort.size_flatK, hd3]; exact hjl)).1
        rw [Nat.zero_add, Go.Sort.get_flatK evC 3 d' j (by rw [hd3]; exact hjl)] at h1
        have h2 := flatQK_get d' (j / 3) (j % 3) (by rw [hd3]; omega) (Nat.mod_lt _ (by decide))
        rw [show j / 3 * 3 + j % 3 = j by omega, hu] at h2
        have h4 : j % 3 < (evC d'[j / 3]!).length := by show j % 3 < 3; exact Nat.mod_lt _ (by decide)
        rw [List.getElem?_eq_getElem h4] at h2
        injection h2 with h2
        rw [getElem!_pos (evC d'[j / 3]!) (j % 3) h4, ← h2] at h1
        have e9 : (⟨g, 0, none⟩ : Addr).add j = ⟨g, j, none⟩ := by unfold Addr.add; split <;> simp_all
        rw [e9]
        exact h1
      · intro ad e _ hb
        injection e with e
        subst e
        exact absurd hb (Nat.not_lt.2 hbg)
      · show w.heap.size ≤ (Go.Sort.grow _ os).heap.size
        rw [Go.Sort.size_grow, hsz2]
        omega
      · show (Go.Sort.grow _ os).heap[k]? = _
        rw [Go.Sort.heap_grow_old _ _ (by rw [hsz2]; omega)]
        unfold Go.Sort.putRowK Go.Sort.putRow Go.Sort.mapBlock
        simp only [Array.getElem?_modify]
        rw [if_neg (by omega)]
        rfl
set_option maxRecDepth 100000 in
set_option maxHeartbeats 2000000 in
theorem clone_any (A : Option Addr) (m c : Nat) (H : List Ev) (w : World) (hm : H.length = m) (hl : m ≤ 1000000) (hr : Rd w A (H.flatMap evC)) :
    Calls Tryd.prog 26 #[.slice A m c] w fun e w' => ∃ u, e = .returned u ∧ w'.ownsRow w.heap.size 38 3 u m (H.flatMap evC) ∧ Below w.heap.size w w' := by
  have hq : ∀ (w : World) (a : Option Addr) (n c n' c' : Nat), (binOp .eql 48 (.slice a n c) (.slice none n' c')).run Tryd.prog w = .ok (.bool a.isNone) w := fun w a n c n' c' => Lib.run_eql_slice_nil w _ _ a n c n' c' Tryd.underlying48
  have HR := Lib.hid (And.intro hr hm)
  cases A with
  | none =>
    have hH : H = [] := by
      cases H with
      | nil => rfl
      | cons e r =>
        obtain ⟨ad, h, _⟩ := hr (by rw [evC_len]; simp)
        cases h
    subst hH
    have hm0 : m = 0 := hm.symm
    subst hm0
    clear hr hm
    go_enter Tryd.func26, Tryd.ntmps26
    go_wp2_with fail
    go_ret
    exact ⟨.slice none 0 0, rfl, ⟨rfl, .inl ⟨rfl, rfl⟩⟩, Below.refl _ _⟩
  | some ad =>
    have HB := Lib.hid ((Below.refl w.heap.size w).alloc (Nat.le_refl _) (.cells #[] 38))
    have HO := Lib.hid (World.ownsRow_made w (e := 38) (size := 3) #[] 0 (Nat.le_refl _) (Nat.zero_le _) rfl)
    clear hr hm
    go_enter Tryd.func26, Tryd.ntmps26
    go_wp2_with (first
      | (at_builtin
         refine wpList_appG rfl (.tmp 5) (.tmp 6) 48 rfl Tryd.underlying48 infoEq rfl (by omega) w.heap.size (.slice (some ⟨w.heap.size, 0, none⟩) 0 0) 0 [] rfl HO.out (some ad) m c (H.flatMap evC) rfl (by rw [evC_len, HR.out.2]) (HR.out.1.below HB.out) (one_ev H) (by unfold maxLen; omega) (by omega) (by simp) ?_
         intro v' w' ho hg hob
         have H6 := Lib.hid (And.intro ho hg)
         clear ho hg hob))
    go_ret
    refine ⟨_, rfl, ?_, Below.grown HB.out H6.out.2 HB.out.size (fun b hb => by injection hb with hb; exact Nat.le_of_eq hb)⟩
    have h1 := H6.out.1
    rw [Nat.zero_add] at h1
    exact h1
end Go.Proofs.YtkihfafkglkjnaaDoor

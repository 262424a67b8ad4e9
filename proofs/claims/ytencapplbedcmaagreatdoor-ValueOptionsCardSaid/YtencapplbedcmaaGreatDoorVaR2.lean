/- Contract: the document's List. -/
import Derived.Test.YtencapplbedcmaaGreatDoorVaR1
namespace Go.Proofs.YtencapplbedcmaaGreatDoor
open Go.RowKit

theorem wpList_appSt {w : World} {ops : Array Oper} {rest : List Oper} {o : Oper} {a : Go.Act} {Q : Exit → Go.Act → World → Prop} (hgd : o.guard = none) (s x : Operand)
    (ho : o.op = .call { callee := .builtin .append, args := #[s, x], argTypes := #[38, 38] })
    (base : Nat) (v : Value) (n : Nat) (us : List Value) (hs : a.eval s = v) (W : World) (hown : W.ownsRow base 9 1 v n us) (Y : ByteArray) (hw : w = W.alloc (.cells #[.string Y] 9)) (hx : a.eval x = .slice (some ⟨W.heap.size, 0, none⟩) 1 1) (hn : n ≤ 2000000) (hbase : base ≤ W.heap.size)
    (h : ∀ v' w', w'.ownsRow base 9 1 v' (n + 1) (us ++ [.string Y]) → w.grownBy w' v.ownBlock → (v'.ownBlock = v.ownBlock ∨ v'.ownBlock = some w.heap.size) → wpList Tryz.prog ops Q rest (a.put o.dst v') w') :
    wpList Tryz.prog ops Q (o :: rest) a w := by
  subst hw
  exact wpList_app hgd s x 38 ho elStr base v n us hs (hown.alloc _) (some ⟨W.heap.size, 0, none⟩) 1 1 [.string Y] hx rfl (Rd.block (MapKept.heap_alloc W (.cells #[.string Y] 9)).1) (fun u hu => by rw [List.mem_singleton.1 hu]; rfl) (by unfold maxLen; omega) (by omega) (by rw [World.size_alloc]; omega) h
theorem slice_piece (S D : ByteArray) (f i n : Nat) (hs : S.size = n) (hf : f ≤ i) (hi : i ≤ n) (_ : n ≤ 4611686018427387904) (hc : S.extract f i = D) (W : World) :
    (Instr.slice 9 (.string S) (some (.int .i64 (f : Int))) (some (.int .i64 (i : Int))) none).run Tryz.prog W = .ok (.string D) W := by
  rw [run_slice_string _ _ _ _ _ _ _ Tryz.underlying9 (by omega) (by omega) (by rw [hs]; omega)]
  rw [show ((f : Int)).toNat = f by omega, show ((i : Int)).toNat = i by omega, hc]
/-- How the document's List ends. -/
def RlE (R : List Tx × Nat) (w : World) (e : Ending) (w' : World) : Prop := ∃ v, e = .returned (.tuple #[v, .int .i64 (R.2 : Nat)]) ∧ RowS w' v R.1 ∧ Below w.heap.size w w'
theorem rlE_of {R : List Tx × Nat} {w w' : World} {v : Value} {L : List Tx} {k : Nat} {j : Int} (hR : (L, k) = R) (hj : j = k) (hv : RowS w' v L) (hb : Below w.heap.size w w') : RlE R w (.returned (.tuple #[v, .int .i64 j])) w' := by
  subst hR
  subst hj
  exact ⟨v, rfl, hv, hb⟩
theorem RowS.none (w : World) : RowS w (.slice none 0 0) [] := ⟨Option.none, 0, rfl, Nat.le_refl _, Nat.zero_le _, Rd.nil⟩
/-- A part's end: a comma, or the text's end. -/
theorem part_at (l : Tx) (f i : Nat) (hf : f ≤ i) (hi : i < l.length) (hno : 44 ∉ (l.drop f).take (i - f)) (hx : l[i] = 44) : cutAt 44 (l.drop f) = (l.drop f).take (i - f) :: cutAt 44 (l.drop (i + 1)) := by
  have e : l.drop f = (l.drop f).take (i - f) ++ 44 :: l.drop (i + 1) := by
    conv => lhs; rw [← List.take_append_drop (i - f) (l.drop f)]
    rw [List.drop_drop, show f + (i - f) = i by omega, List.drop_eq_getElem_cons hi, hx]
  conv => lhs; rw [e]
  exact cut_of_no 44 _ _ hno
theorem part_next (l : Tx) (f i : Nat) (hf : f ≤ i) (hi : i < l.length) : (l.drop f).take (i + 1 - f) = (l.drop f).take (i - f) ++ [l[i]] := by
  have hlt : i - f < (l.drop f).length := by rw [List.length_drop]; omega
  rw [show i + 1 - f = (i - f) + 1 by omega, List.take_succ_eq_append_getElem hlt, List.getElem_drop]
  congr 3
  omega
set_option maxHeartbeats 2000000 in
set_option maxRecDepth 100000 in
theorem refList_any (l : Tx) (w : World) (hl : l.length ≤ 900000) : Calls Tryz.prog 17 #[.string (str l)] w (RlE (listT l) w) := by
  obtain ⟨n, hn⟩ : ∃ n, l.length = n := ⟨_, rfl⟩
  rw [hn] at hl
  have hsz : (str l).size = n := hn
  have HT := Lib.hid (fun x w h => refTrim_any x w h)
  have HN := Lib.hid hn
  obtain ⟨R, hR⟩ : ∃ R, listT l = R := ⟨_, rfl⟩
  rw [hR]
  have HTl := Lib.hid (fun w => refTrim_any l w (by omega))
  by_cases ht : trw l = []
  · have hRR : ([], 13) = R := by rw [← hR, listT, if_pos ht]
    have HR := Lib.hid hRR
    rw [ht] at HTl
    have t0 : str ([] : Tx) = { data := #[] } := rfl
    rw [t0] at HTl
    generalize str l = S at *
    clear hn hR hRR ht t0
    go_enter Tryz.func17, Tryz.ntmps17
    go_wp2_with fail
    refine (HTl.out _).mono ?_
    rintro e w' ⟨rfl, rfl⟩
    go_wp2_with fail
    go_ret2
    exact rlE_of HR.out rfl (RowS.none _) (Below.refl _ _)
  · have hRR : (if chkT (partsT l) ≠ 0 then ([], chkT (partsT l)) else (partsT l, 0)) = R := by rw [← hR, listT, if_neg ht]
    have HR := Lib.hid hRR
    have t1 : (str (trw l)).toList.isEmpty = false := by rw [str_toList]; simpa using ht
    obtain ⟨S, hS⟩ : ∃ S, str l = S := ⟨_, rfl⟩
    have HS := Lib.hid hS
    rw [hS] at hsz HTl ⊢
    generalize str (trw l) = T at *
    clear hn hR hRR ht hS
    go_enter Tryz.func17, Tryz.ntmps17
    go_wp2_with fail
    refine (HTl.out _).mono ?_
    rintro e w' ⟨rfl, rfl⟩
    go_wp2_with fail
    go_loopw [4, 5, 6] (fun o f i wr => ∃ (a F I : Nat) (acc : List Tx), i = .int .i64 I ∧ f = .int .i64 F ∧ acc.length = a ∧ a ≤ F ∧ I ≤ n + 1 ∧ wr.ownsRow w.heap.size 9 1 o a (acc.map txC) ∧ Below w.heap.size w wr ∧
      ((I ≤ n ∧ F ≤ I ∧ 44 ∉ (l.drop F).take (I - F) ∧ acc ++ (cutAt 44 (l.drop F)).map trw = partsT l) ∨ (I = n + 1 ∧ F ≤ n + 1 ∧ acc = partsT l))) (fun _ _ i _ => n + 1 - (intOf i).toNat)
    case atStart => exact ⟨0, 0, 0, [], rfl, rfl, rfl, Nat.le_refl _, Nat.zero_le _, World.ownsRow_nil _ _ _ _, Below.refl _ _, .inl ⟨Nat.zero_le _, Nat.le_refl _, by simp, rfl⟩⟩
    case round =>
      obtain ⟨a, F, I, acc, rfl, rfl, ha, haF, hI, ho, hb, hd⟩ := hrel
      have HA := Lib.hid (And.intro ha (And.intro ho hb))
      clear ha ho hb
      rcases hd with ⟨h1, h2, h3, h4⟩ | ⟨rfl, h2, h4⟩
      · have HD := Lib.hid (And.intro h3 h4)
        clear h3 h4
        have q0 : (0 : Int) ≤ I := by omega
        have q1 : (I : Int) ≤ n := by omega
        have q2 : (0 : Int) ≤ F := by omega
        have q3 : (F : Int) ≤ I := by omega
        rcases Nat.lt_or_ge I n with hlt | hge
        · have q4 : (I : Int) < n := by omega
          have q5 : ¬ ((I : Int) = n) := by omega
          have hIl : I < l.length := by rw [HN.out]; exact hlt
          obtain ⟨x, hx⟩ : ∃ x, l[I] = x := ⟨_, rfl⟩
          have hat : S[I]'(by rw [hsz]; exact hlt) = x := by
            have := str_at l I hIl
            rw [hx] at this
            have hS := HS.out
            subst hS
            exact this
          have hnx := part_next l F I h2 hIl
          by_cases hc : x = 44
          · subst hc
            have hcut := part_at l F I h2 hIl HD.out.1 hx
            obtain ⟨P, hP⟩ : ∃ P, (l.drop F).take (I - F) = P := ⟨_, rfl⟩
            have hext : S.extract F I = str P := by
              have hS := HS.out
              subst hS
              rw [str_cut, hP]
            have hpl : P.length ≤ 900000 := by
              rw [← hP, List.length_take]
              omega
            rw [hP] at hcut
            have hsl := fun W => slice_piece S (str P) F I n hsz h2 h1 (by omega) hext W
            have HTP := Lib.hid (fun W => HT.out P W (by omega))
            have HC : Hid ((acc ++ [trw P]) ++ (cutAt 44 (l.drop (I + 1))).map trw = partsT l) := by
              unfold Hid
              rw [← HD.out.2, hcut, List.map_cons, List.append_assoc]
              rfl
            have HTX : Hid (Value.string (str (trw P)) = txC (trw P)) := rfl
            generalize str (trw P) = Y at *
            generalize str P = Z at *
            clear hx hIl hnx hP hext hpl hcut
            go_wp2_with fail
            refine (HTP.out _).mono ?_
            rintro e w' ⟨rfl, rfl⟩
            go_wp2_with
              (at_builtin
               refine wpList_appSt rfl (.tmp 27) (.tmp 33) rfl w.heap.size u4 a (acc.map txC) rfl wr HA.out.2.1 Y rfl rfl (by omega) HA.out.2.2.size ?_)
            intro v' w' ho hg hob
            have HN2 := Lib.hid (And.intro ho (And.intro hg hob))
            clear ho hg hob
            go_wp2_with fail
            refine ⟨⟨a + 1, I + 1, I + 1, acc ++ [trw P], by go_num, by go_num, by rw [List.length_append, HA.out.1]; rfl, by omega, by omega, ?_, (HA.out.2.2.alloc HA.out.2.2.size _).grown HN2.out.2.1 (by rw [World.size_alloc]; have := HA.out.2.2.size; omega) (fun k hk => (HA.out.2.1.lt k hk).1), .inl ⟨hlt, Nat.le_refl _, by simp, HC.out⟩⟩, by simp [intOf]; omega⟩
            rw [List.map_append, List.map_singleton, ← HTX.out]
            exact HN2.out.1
          · have e1 : ((x.toNat : Int) == 44) = false := by
              rw [beq_eq_false_iff_ne]
              intro h
              exact hc (UInt8.toNat_inj.1 (by have : (44 : UInt8).toNat = 44 := rfl; omega))
            have HNo : Hid (44 ∉ (l.drop F).take (I + 1 - F)) := by
              unfold Hid
              rw [hnx, hx]
              intro h
              rcases List.mem_append.1 h with h | h
              · exact HD.out.1 h
              · exact hc (List.mem_singleton.1 h).symm
            clear hx hIl hnx hc
            go_wp2_with fail
            refine ⟨⟨a, F, I + 1, acc, by go_num, rfl, HA.out.1, haF, by omega, HA.out.2.1, HA.out.2.2, .inl ⟨hlt, by omega, HNo.out, HD.out.2⟩⟩, by simp [intOf]; omega⟩
        · obtain rfl : I = n := by omega
          have q4 : ((I : Int) == (I : Int)) = true := beq_self_eq_true _
          have hP : (l.drop F).take (I - F) = l.drop F := by rw [List.take_of_length_le]; rw [List.length_drop, HN.out]; exact Nat.le_refl _
          have hcut : cutAt 44 (l.drop F) = [l.drop F] := cut_no 44 _ (hP ▸ HD.out.1)
          have hext : S.extract F I = str (l.drop F) := by
            have hS := HS.out
            subst hS
            rw [str_cut, hP]
          have hpl : (l.drop F).length ≤ 900000 := by
            rw [List.length_drop, HN.out]
            omega
          have hsl := fun W => slice_piece S (str (l.drop F)) F I I hsz h2 h1 (by omega) hext W
          have HTP := Lib.hid (fun W => HT.out (l.drop F) W (by omega))
          have HC : Hid (acc ++ [trw (l.drop F)] = partsT l) := by
            unfold Hid
            rw [← HD.out.2, hcut]
            rfl
          have HTX : Hid (Value.string (str (trw (l.drop F))) = txC (trw (l.drop F))) := rfl
          generalize str (trw (l.drop F)) = Y at *
          generalize str (l.drop F) = Z at *
          clear hP hext hpl hcut
          go_wp2_with fail
          refine (HTP.out _).mono ?_
          rintro e w' ⟨rfl, rfl⟩
          go_wp2_with
            (at_builtin
             refine wpList_appSt rfl (.tmp 27) (.tmp 33) rfl w.heap.size u4 a (acc.map txC) rfl wr HA.out.2.1 Y rfl rfl (by omega) HA.out.2.2.size ?_)
          intro v' w' ho hg hob
          have HN2 := Lib.hid (And.intro ho (And.intro hg hob))
          clear ho hg hob
          go_wp2_with fail
          refine ⟨⟨a + 1, I + 1, I + 1, acc ++ [trw (l.drop F)], by go_num, by go_num, by rw [List.length_append, HA.out.1]; rfl, by omega, by omega, ?_, (HA.out.2.2.alloc HA.out.2.2.size _).grown HN2.out.2.1 (by rw [World.size_alloc]; have := HA.out.2.2.size; omega) (fun k hk => (HA.out.2.1.lt k hk).1), .inr ⟨rfl, Nat.le_refl _, HC.out⟩⟩, by simp [intOf]⟩
          rw [List.map_append, List.map_singleton, ← HTX.out]
          exact HN2.out.1
      · have q1 : ¬ ((n : Int) + 1 ≤ n) := by omega
        have ho2 := HA.out.2.1
        obtain ⟨A, c, rfl, hc1, hc2, hln, hrd, hbl⟩ := owns_form ho2
        have hCk := Lib.hid (refCheck_any A a c acc wr HA.out.1 (by omega) hrd)
        have HE := Lib.hid (And.intro hc1 (And.intro hc2 hrd))
        have HRk : Hid ((if chkT acc ≠ 0 then ([], chkT acc) else (acc, 0)) = R) := by
          have := HR.out
          rw [← h4] at this
          exact this
        obtain ⟨k, hk⟩ : ∃ k, chkT acc = k := ⟨_, rfl⟩
        unfold CkE at hCk
        rw [hk] at HRk hCk
        have hk7 : k ≤ 7 := by
          rw [← hk, chkT]
          repeat' split
          all_goals omega
        clear ho2 hc1 hc2 hln hrd hbl hk h4
        go_wp2_with fail
        refine hCk.out.mono ?_
        rintro e w5 ⟨rfl, hb5⟩
        have HB5 := Lib.hid (And.intro (HA.out.2.2.trans (hb5.mono HA.out.2.2.size)) (Rd.below HE.out.2.2 hb5))
        clear hb5
        by_cases hk0 : k = 0
        · subst hk0
          have HRk0 : Hid ((acc, 0) = R) := HRk.out
          clear HRk
          go_wp2_with fail
          go_ret2
          exact rlE_of (v := .slice A a c) HRk0.out rfl ⟨A, c, by rw [HA.out.1], by rw [HA.out.1]; exact HE.out.1, HE.out.2.1, HB5.out.2⟩ HB5.out.1
        · have HRk0 : Hid (([], k) = R) := by have h1 := HRk.out; rw [if_pos hk0] at h1; exact h1
          have q6 : ((k : Int) == 0) = false := beq_eq_false_iff_ne.2 (by omega)
          have q7 : ¬ ((k : Int) = 0) := by omega
          clear HRk hk0
          go_wp2_with fail
          go_ret2
          exact rlE_of HRk0.out rfl (RowS.none _) HB5.out.1
end Go.Proofs.YtencapplbedcmaaGreatDoor

/- Layer 13's law package: give, huge. -/
import Derived.Test.YtkfnbapnkmlopaaDoorGpLw
import Derived.Test.YtkfnbapnkmlopaaDoorGrAq
namespace Go.Proofs.YtkfnbapnkmlopaaDoor
open Go.RowKit

/-- An append of elements of any size, in a region that doesn't draw. -/
theorem wpList_appG {P : Program} {w : World} {ops : Array Oper} {rest : List Oper} {o : Oper} {a : Go.Act} {Q : Exit → Go.Act → World → Prop} (hgd : o.guard = none) (s x : Operand) (t : TypeId)
    (ho : o.op = .call { callee := .builtin .append, args := #[s, x], argTypes := #[t, t] })
    {e : TypeId} {z : Value} {size bytes : Nat} (ht : P.underlying t = some (.slice e)) (hinfo : (P.info? e).map (fun i => (i.zero, i.size, i.bytes)) = some (some z, size, bytes)) (hone : z.cells.size = size) (hsz : 0 < size)
    (base : Nat) (v : Value) (n : Nat) (xs : List Value) (hs : a.eval s = v) (hown : w.ownsRow base e size v n xs)
    (A : Option Addr) (m c : Nat) (news : List Value) (hx : a.eval x = .slice A m c) (hl : news.length = m * size) (hr : Rd w A news) (h1 : ∀ u ∈ news, u.oneCell' = true)
    (h63 : n + m ≤ maxLen) (hbytes : (n + m) * bytes ≤ 140737488355328) (hbase : base ≤ w.heap.size)
    (h : ∀ v' w', w'.ownsRow base e size v' (n + m) (xs ++ news) → w.grownBy w' v.ownBlock → (v'.ownBlock = v.ownBlock ∨ v'.ownBlock = some w.heap.size) → wpList P ops Q rest (a.put o.dst v') w') :
    wpList P ops Q (o :: rest) a w :=
  wpList_plain hgd fun K hK => by
    have h2 := step_appK (ops := #[]) (E := True) (K := K) (Q := Q) hgd s x t ho ht hinfo hone hsz base v n xs hs hown A m c news hx hl hr h1 h63 hbytes hbase fun v' w' p q r => hK _ _ (h v' w' p q r)
    rwa [if_pos (by simp [Region.wanted, hgd])] at h2
theorem infoG : (Tryd.prog.info? 45).map (fun i => (i.zero, i.size, i.bytes)) = some (some (.agg #[.string .empty, .slice none 0 0, .slice none 0 0]), 3, 64) := by kernel_rfl
theorem infoX : (Tryd.prog.info? 47).map (fun i => (i.zero, i.size, i.bytes)) = some (some (.agg #[.string .empty, .slice none 0 0]), 2, 40) := by kernel_rfl
theorem own_anyk {w : World} {base k n : Nat} {e : TypeId} {v : Value} {xs : List Value} (h : w.ownsRow base e k v n xs) : ∃ A c, v = .slice A n c ∧ n ≤ c ∧ c ≤ maxLen ∧ Rd w A xs := by
  obtain ⟨A, c, h1, h2, h3, _, h4, _⟩ := owns_formk h
  exact ⟨A, c, h1, h2, h3, h4⟩
theorem one_gr (p : Grp × Value × Value) {Am Ag : Option Addr} {n1 c1 n2 c2 : Nat} (h1 : p.2.1 = .slice Am n1 c1) (h2 : p.2.2 = .slice Ag n2 c2) : ∀ u ∈ grC p, u.oneCell' = true := fun u hu => by
  unfold grC at hu
  simp only [List.mem_cons, List.not_mem_nil, or_false] at hu
  rcases hu with rfl | rfl | rfl
  · rfl
  · rw [h1]; rfl
  · rw [h2]; rfl
theorem one_it (p : Itm × Value) {Ag : Option Addr} {n2 c2 : Nat} (h2 : p.2 = .slice Ag n2 c2) : ∀ u ∈ itC p, u.oneCell' = true := fun u hu => by
  unfold itC at hu
  simp only [List.mem_cons, List.not_mem_nil, or_false] at hu
  rcases hu with rfl | rfl
  · rfl
  · rw [h2]; rfl
set_option maxRecDepth 100000 in
set_option maxHeartbeats 4000000 in
theorem give_any (v u : Value) (g : List Grp) (x : List Itm) (w : World) (hv : RowG w v g) (hu : RowX w u x) (hn : g.length ≤ 1000) (hm : x.length ≤ 1000) :
    Calls Tryd.prog 9 #[v, u] w fun e w' => ∃ a b, e = .returned (.tuple #[a, b]) ∧ RowG w' a g ∧ RowX w' b x ∧ Below w.heap.size w w' := by
  obtain ⟨A, c, Z, hZ, rfl, hc1, hc2, hrd, hrow⟩ := hv
  obtain ⟨B, d, Y, hY, rfl, hd1, hd2, hrd2, hrow2⟩ := hu
  obtain ⟨n, hn'⟩ : ∃ m, g.length = m := ⟨_, rfl⟩
  obtain ⟨m, hm'⟩ : ∃ m, x.length = m := ⟨_, rfl⟩
  have hZl : Z.length = n := by rw [← hn', ← hZ, List.length_map]
  have hYl : Y.length = m := by rw [← hm', ← hY, List.length_map]
  rw [hn'] at hn hc1
  rw [hm'] at hm hd1
  rw [hn', hm']
  have H := Lib.hid (And.intro hrd (And.intro hrow (And.intro hZl (And.intro hZ hn'))))
  have HX := Lib.hid (And.intro hrd2 (And.intro hrow2 (And.intro hYl (And.intro hY hm'))))
  clear hrd hrow hZl hZ hrd2 hrow2 hYl hY hn' hm'
  go_enter Tryd.func9, Tryd.ntmps9
  go_wp2_with fail
  go_loopw [6, 7] (fun ov iv wr => ∃ (i : Nat) (o : Value), o = ov ∧ iv = .int .i64 i ∧ i ≤ n ∧ Below w.heap.size w wr ∧ wr.ownsRow w.heap.size 45 3 o i ((Z.take i).flatMap grC)) (fun _ iv _ => n - (intOf iv).toNat)
  case atStart => exact ⟨0, _, rfl, rfl, Nat.zero_le _, Below.refl _ _, World.ownsRow_nil _ _ _ _⟩
  case round =>
    obtain ⟨i, o, rfl, rfl, hi, hb, hown⟩ := hrel
    by_cases hin : i < n
    · have q0 : (0 : Int) ≤ i := by omega
      have q1 : (i : Int) < n := by omega
      have hiz : i < Z.length := by rw [H.out.2.2.1]; exact hin
      obtain ⟨ad, X, hA, hX, k0, k1, k2⟩ := rd_three (cells := grC) (fun _ => rfl) (H.out.1.below hb) i hiz (a := .string (str Z[i].1.1)) (b := Z[i].2.1) (c := Z[i].2.2) rfl
      subst hA
      obtain ⟨p, hp⟩ : ∃ p, Z[i] = p := ⟨_, rfl⟩
      have hpm : p ∈ Z := by rw [← hp]; exact List.getElem_mem hiz
      rw [hp] at k0 k1 k2
      obtain ⟨Am, cm, em, _⟩ := (H.out.2.1 p hpm).1.form
      obtain ⟨Ag, cg, eg, _⟩ := (H.out.2.1 p hpm).2.form
      have hone := one_gr p em eg
      have htk : (Z.take (i + 1)).flatMap grC = (Z.take i).flatMap grC ++ grC p := by
        rw [List.take_succ_eq_append_getElem hiz, hp]
        simp
      have hgc : grC p = [.string (str p.1.1), .slice Am p.1.2.1.length cm, .slice Ag p.1.2.2.length cg] := by unfold grC; rw [em, eg]
      rw [em] at k1
      rw [eg] at k2
      rw [hgc] at hone htk
      obtain ⟨S1, hS1⟩ : ∃ S, str p.1.1 = S := ⟨_, rfl⟩
      obtain ⟨l1, hl1⟩ : ∃ l, p.1.2.1.length = l := ⟨_, rfl⟩
      obtain ⟨l2, hl2⟩ : ∃ l, p.1.2.2.length = l := ⟨_, rfl⟩
      rw [hS1] at k0 hone htk
      rw [hl1] at k1 hone htk
      rw [hl2] at k2 hone htk
      have HK := Lib.hid (And.intro hb (And.intro hown (And.intro hone htk)))
      have hsz := hb.size
      clear hb hown hone htk hp hpm em eg hgc hS1 hl1 hl2 hiz
      go_wp2_with
        (at_builtin
         refine wpList_appG rfl (.tmp 16) (.tmp 21) 26 rfl Tryd.underlying26 infoG rfl (by omega) w.heap.size o i ((Z.take i).flatMap grC) rfl (own_sameO HK.out.2.1 ((Below.refl wr.heap.size wr).alloc (Nat.le_refl _) _)) (some ⟨wr.heap.size, 0, none⟩) 1 1 [.string S1, .slice Am l1 cm, .slice Ag l2 cg] rfl rfl (Rd.block (MapKept.heap_alloc wr (.cells #[.string S1, .slice Am l1 cm, .slice Ag l2 cg] 45)).1) HK.out.2.2.1 (by unfold maxLen; omega) (by omega) (by rw [World.size_alloc]; omega) ?_
         intro v' w'' ho hg hob
         have HN2 := Lib.hid (And.intro ho hg)
         clear ho hg hob)
      have hal : Below w.heap.size w (wr.alloc (.cells #[.string S1, .slice Am l1 cm, .slice Ag l2 cg] 45)) := HK.out.1.alloc HK.out.1.size _
      exact ⟨⟨i + 1, v', rfl, by go_num, hin, Below.grown hal HN2.out.2 hal.size (fun b hb => (HK.out.2.1.lt b hb).1), by rw [HK.out.2.2.2]; exact HN2.out.1⟩, by simp [intOf]; omega⟩
    · obtain rfl : n = i := by omega
      have q1 : ¬ (n : Int) < n := by omega
      rw [List.take_of_length_le (by rw [H.out.2.2.1]; exact Nat.le_refl _)] at hown
      have HG := Lib.hid (And.intro hb hown)
      have hsz0 := hb.size
      clear hb hown
      go_wp2_with fail
      obtain ⟨w5, rfl⟩ : ∃ y, y = wr := ⟨_, rfl⟩
      go_loopw [8, 9] (fun ov iv wr' => ∃ (i : Nat) (o : Value), o = ov ∧ iv = .int .i64 i ∧ i ≤ m ∧ Below w5.heap.size w5 wr' ∧ wr'.ownsRow w5.heap.size 47 2 o i ((Y.take i).flatMap itC)) (fun _ iv _ => m - (intOf iv).toNat)
      case atStart => exact ⟨0, _, rfl, rfl, Nat.zero_le _, Below.refl _ _, World.ownsRow_nil _ _ _ _⟩
      case round =>
        obtain ⟨i, o2, rfl, rfl, hi, hb, hown⟩ := hrel
        by_cases him : i < m
        · have r0 : (0 : Int) ≤ i := by omega
          have r1 : (i : Int) < m := by omega
          have hiz : i < Y.length := by rw [HX.out.2.2.1]; exact him
          have hbw := HG.out.1.trans (hb.mono HG.out.1.size)
          obtain ⟨ad, X, hA, hX, k0, k1⟩ := rd_two (cells := itC) (fun _ => rfl) (HX.out.1.below hbw) i hiz (a := .string (str Y[i].1.1)) (b := Y[i].2) rfl
          subst hA
          obtain ⟨p, hp⟩ : ∃ p, Y[i] = p := ⟨_, rfl⟩
          have hpm : p ∈ Y := by rw [← hp]; exact List.getElem_mem hiz
          rw [hp] at k0 k1
          obtain ⟨Ag, cg, eg, _⟩ := (HX.out.2.1 p hpm).form
          have hone := one_it p eg
          have htk : (Y.take (i + 1)).flatMap itC = (Y.take i).flatMap itC ++ itC p := by
            rw [List.take_succ_eq_append_getElem hiz, hp]
            simp
          have hgc : itC p = [.string (str p.1.1), .slice Ag p.1.2.length cg] := by unfold itC; rw [eg]
          rw [eg] at k1
          rw [hgc] at hone htk
          obtain ⟨S1, hS1⟩ : ∃ S, str p.1.1 = S := ⟨_, rfl⟩
          obtain ⟨l2, hl2⟩ : ∃ l, p.1.2.length = l := ⟨_, rfl⟩
          rw [hS1] at k0 hone htk
          rw [hl2] at k1 hone htk
          have HK := Lib.hid (And.intro hb (And.intro hown (And.intro hone htk)))
          have hsz := hb.size
          clear hb hown hone htk hp hpm eg hgc hS1 hl2 hiz hbw
          go_wp2_with
            (at_builtin
             refine wpList_appG rfl (.tmp 29) (.tmp 34) 27 rfl Tryd.underlying27 infoX rfl (by omega) w5.heap.size o2 i ((Y.take i).flatMap itC) rfl (own_sameO HK.out.2.1 ((Below.refl wr.heap.size wr).alloc (Nat.le_refl _) _)) (some ⟨wr.heap.size, 0, none⟩) 1 1 [.string S1, .slice Ag l2 cg] rfl rfl (Rd.block (MapKept.heap_alloc wr (.cells #[.string S1, .slice Ag l2 cg] 47)).1) HK.out.2.2.1 (by unfold maxLen; omega) (by omega) (by rw [World.size_alloc]; omega) ?_
             intro v' w'' ho hg hob
             have HN2 := Lib.hid (And.intro ho hg)
             clear ho hg hob)
          have hal : Below w5.heap.size w5 (wr.alloc (.cells #[.string S1, .slice Ag l2 cg] 47)) := HK.out.1.alloc HK.out.1.size _
          exact ⟨⟨i + 1, v', rfl, by go_num, him, Below.grown hal HN2.out.2 hal.size (fun b hb => (HK.out.2.1.lt b hb).1), by rw [HK.out.2.2.2]; exact HN2.out.1⟩, by simp [intOf]; omega⟩
        · obtain rfl : m = i := by omega
          have r1 : ¬ (m : Int) < m := by omega
          rw [List.take_of_length_le (by rw [HX.out.2.2.1]; exact Nat.le_refl _)] at hown
          have HF := Lib.hid (And.intro hb hown)
          clear hb hown
          go_wp2_with fail
          go_ret2
          have hw := HG.out.1.trans (HF.out.1.mono HG.out.1.size)
          obtain ⟨A1, c1, e1, a1, a2, a3⟩ := own_anyk (own_sameO HG.out.2 HF.out.1)
          obtain ⟨A2, c2, e2, b1, b2, b3⟩ := own_anyk HF.out.2
          refine ⟨_, _, rfl, ⟨A1, c1, Z, H.out.2.2.2.1, by rw [H.out.2.2.2.2]; exact e1, by rw [H.out.2.2.2.2]; exact a1, a2, a3, fun p hp => ⟨(H.out.2.1 p hp).1.below hw, (H.out.2.1 p hp).2.below hw⟩⟩, ⟨A2, c2, Y, HX.out.2.2.2.1, by rw [HX.out.2.2.2.2]; exact e2, by rw [HX.out.2.2.2.2]; exact b1, b2, b3, fun p hp => (HX.out.2.1 p hp).below hw⟩, hw⟩
end Go.Proofs.YtkfnbapnkmlopaaDoor

/- Contract: value's Letters. -/
import Derived.Test.YtencapplbedcmaaGreatDoorVaLt
import Derived.Test.YtencapplbedcmaaGreatDoorVaBit
import Derived.Test.YtencapplbedcmaaGreatDoorVaJo
import Derived.Test.YtencapplbedcmaaGreatDoorVaLs
import Derived.Test.YtencapplbedcmaaGreatDoorVaR2
import Derived.Test.YtencapplbedcmaaGreatDoorVaR3
namespace Go.Proofs.YtencapplbedcmaaGreatDoor
open Go.RowKit

theorem chosen_take : ∀ (L : Tx) (b k : Nat) (hk : k < L.length), chosen b (L.take (k + 1)) = chosen b (L.take k) ++ (if b / 2 ^ k % 2 = 1 then [[L[k]]] else [])
  | c :: L, b, 0, _ => by
    show chosen b [c] = [] ++ _
    rw [chosen]
    simp [chosen]
  | c :: L, b, k + 1, hk => by
    have ih := chosen_take L (b / 2) k (by simpa using hk)
    have hd : b / 2 / 2 ^ k = b / 2 ^ (k + 1) := by rw [Nat.div_div_eq_div_mul, Nat.pow_succ, Nat.mul_comm]
    rw [hd] at ih
    show chosen b (c :: L.take (k + 1)) = chosen b (c :: L.take k) ++ _
    rw [chosen, chosen, ih]
    show _ = _ ++ if b / 2 ^ (k + 1) % 2 = 1 then [[L[k]'(by simpa using hk)]] else []
    split <;> simp
theorem chosen_zero : ∀ L : Tx, chosen 0 L = []
  | [] => rfl
  | c :: L => by
    rw [chosen, if_neg (by decide)]
    exact chosen_zero L
theorem shr_yes {b : Int} {n : Nat} (h : b < 0 ∨ 2 ^ n ≤ b.toNat) : (b / 2 ^ n != 0) = true := by
  have hp : (0 : Int) < 2 ^ n := Int.pow_pos (by decide)
  rw [bne_iff_ne]
  rcases h with h | h
  · have := Int.ediv_neg_of_neg_of_pos h hp
    omega
  · intro h0
    have h1 : 0 ≤ b := by
      have : 0 < 2 ^ n := Nat.two_pow_pos n
      omega
    obtain ⟨m, rfl⟩ := Int.eq_ofNat_of_zero_le h1
    rw [Int.toNat_natCast] at h
    have h2 : 1 ≤ m / 2 ^ n := (Nat.le_div_iff_mul_le (Nat.two_pow_pos n)).2 (by omega)
    have h3 : ((m / 2 ^ n : Nat) : Int) = (m : Int) / 2 ^ n := by push_cast; rfl
    omega
theorem shr_no {m n : Nat} (h : m < 2 ^ n) : ((m : Int) / 2 ^ n != 0) = false := by
  have h3 : ((m / 2 ^ n : Nat) : Int) = (m : Int) / 2 ^ n := by push_cast; rfl
  rw [← h3, Nat.div_eq_of_lt h]
  rfl
theorem enc_low (x : UInt8) (h : x.toNat < 128) : Utf8.encode (x.toNat : Int) = str [x] := by
  have : ∀ i : Fin 128, Utf8.encode (i.val : Int) = str [UInt8.ofNat i.val] := by decide
  have h2 := this ⟨x.toNat, h⟩
  simpa using h2
theorem let_of {m : Nat} {L : Tx} (h1 : ¬ mayT L = false) (h2 : 110 ∉ L) (h3 : m < 2 ^ L.length) : letT (m : Int) L = if chosen m L = [] then ([110], 0) else (joinC (chosen m L), 0) := by
  unfold letT
  rw [if_neg (fun h => h.elim h1 (fun h => h.elim h2 (fun h => by omega))), Int.toNat_natCast, if_neg (by omega)]
/-- How Letters ends. -/
theorem ret_let {b : Int} {L t : Tx} {k : Nat} {S : ByteArray} {ev : Value} {w w' : World} (hR : letT b L = (t, k)) (hs : str t = S) (he : errE k = ev) (hb : Below w.heap.size w w') : JoE (letT b L) w (.returned (.tuple #[.string S, ev])) w' := joE_of hR.symm hs he hb
set_option maxHeartbeats 4000000 in
set_option maxRecDepth 100000 in
theorem letters_any (b : Int) (L : Tx) (w : World) (hL : L.length ≤ 1000) (hb1 : -9223372036854775808 ≤ b) (hb2 : b ≤ 9223372036854775807) :
    Calls Tryz.prog 23 #[.int .i64 b, .string (str L)] w (JoE (letT b L) w) := by
  have HA := Lib.hid (areLetters_any L w (by omega))
  have HCn := Lib.hid (fun W => has1_any L 110 { data := #[110] } rfl W)
  obtain ⟨R, hR⟩ : ∃ R, letT b L = R := ⟨_, rfl⟩
  rw [hR]
  cases hm : mayT L
  · have HR : Hid (([], 1) = R) := by unfold Hid; rw [← hR, letT, if_pos (.inl hm)]
    rw [hm] at HA
    generalize str L = S at *
    clear hR hm hL
    go_enter Tryz.func23, Tryz.ntmps23
    go_wp2_with fail
    refine HA.out.mono ?_
    rintro e w2 ⟨rfl, hb⟩
    have HB := Lib.hid hb
    clear hb
    go_wp2_with fail
    go_ret2
    exact joE_of HR.out rfl rfl HB.out
  · rw [hm] at HA
    cases hc : L.contains 110
    case true =>
      have HR : Hid (([], 1) = R) := by unfold Hid; rw [← hR, letT, if_pos (.inr (.inl (List.contains_iff_mem.1 hc)))]
      rw [hc] at HCn
      generalize str L = S at *
      clear hR hm hL hc
      go_enter Tryz.func23, Tryz.ntmps23
      go_wp2_with fail
      refine HA.out.mono ?_
      rintro e w2 ⟨rfl, hb⟩
      have HB := Lib.hid hb
      clear hb
      go_wp2_with fail
      refine (HCn.out _).mono ?_
      rintro e w' ⟨rfl, rfl⟩
      go_wp2_with fail
      go_ret2
      exact joE_of HR.out rfl rfl HB.out
    case false =>
      rw [hc] at HCn
      obtain ⟨f1, f2, f3⟩ := may_facts hm
      obtain ⟨n, hn⟩ : ∃ n, L.length = n := ⟨_, rfl⟩
      rw [hn] at f3
      have hsz : (str L).size = n := hn
      have h110 : 110 ∉ L := fun h => by rw [List.contains_iff_mem.2 h] at hc; cases hc
      have HF := Lib.hid (And.intro f1 (And.intro f2 (And.intro hn h110)))
      have HMy : Hid (¬ mayT L = false) := by unfold Hid; rw [hm]; decide
      have HDec := Lib.hid (fun k hk hb => dec_low L k hk hb)
      obtain ⟨S, hS⟩ : ∃ S, str L = S := ⟨_, rfl⟩
      rw [hS] at hsz HA HCn HDec ⊢
      have HR := Lib.hid hR
      clear hR f1 f2 hn h110 hm hc hL hS
      by_cases hbig : b < 0 ∨ 2 ^ n ≤ b.toNat
      · have hRR : Hid (([], 1) = R) := by
          unfold Hid
          rw [← HR.out, letT]
          by_cases h0 : b < 0
          · rw [if_pos (.inr (.inr h0))]
          · split
            · rfl
            · rw [if_pos (by rw [HF.out.2.2.1]; omega)]
        have d1 := shr_yes hbig
        clear hbig
        go_enter Tryz.func23, Tryz.ntmps23
        go_wp2_with fail
        refine HA.out.mono ?_
        rintro e w2 ⟨rfl, hb⟩
        have HB := Lib.hid hb
        clear hb
        go_wp2_with fail
        refine (HCn.out _).mono ?_
        rintro e w' ⟨rfl, rfl⟩
        go_wp2_with fail
        go_ret2
        exact joE_of hRR.out rfl rfl HB.out
      · obtain ⟨m, rfl⟩ := Int.eq_ofNat_of_zero_le (show 0 ≤ b by omega)
        have hm2 : m < 2 ^ n := by
          rw [Int.toNat_natCast] at hbig
          omega
        have hRR : Hid ((if chosen m L = [] then ([110], 0) else (joinC (chosen m L), 0)) = R) := by
          unfold Hid
          rw [← HR.out, let_of HMy.out HF.out.2.2.2 (by rw [HF.out.2.2.1]; exact hm2)]
        have d1 := shr_no hm2
        have HM := Lib.hid hm2
        clear hbig hm2 HR
        by_cases hm0 : m = 0
        · have HR : Hid (([110], 0) = R) := by
            unfold Hid
            rw [← hRR.out, hm0, chosen_zero, if_pos rfl]
          have d2 : ((m : Int) == 0) = true := by rw [hm0]; rfl
          clear hm0 hRR
          go_enter Tryz.func23, Tryz.ntmps23
          go_wp2_with fail
          refine HA.out.mono ?_
          rintro e w2 ⟨rfl, hb⟩
          have HB := Lib.hid hb
          clear hb
          go_wp2_with fail
          refine (HCn.out _).mono ?_
          rintro e w' ⟨rfl, rfl⟩
          go_wp2_with fail
          go_ret2
          exact joE_of HR.out rfl rfl HB.out
        · have d2 : ((m : Int) == 0) = false := beq_eq_false_iff_ne.2 (by omega)
          have H0 := Lib.hid hm0
          clear hm0
          go_enter Tryz.func23, Tryz.ntmps23
          go_wp2_with fail
          refine HA.out.mono ?_
          rintro e w2 ⟨rfl, hb⟩
          have HB := Lib.hid hb
          clear hb
          go_wp2_with fail
          refine (HCn.out _).mono ?_
          rintro e w' ⟨rfl, rfl⟩
          go_wp2_with fail
          obtain ⟨g, hg⟩ : ∃ g, w2.heap.size = g := ⟨_, rfl⟩
          have HBi : Hid (Below w.heap.size w (w2.iter S 0) ∧ (w2.iter S 0).heap[g]? = some (.stringIter S 0) ∧ (w2.iter S 0).heap.size = g + 1) := by
            rw [← hg]
            exact ⟨HB.out.alloc HB.out.size _, World.iter_heap w2 S 0, World.size_alloc _ _⟩
          have hgw : w.heap.size ≤ g := by rw [← hg]; exact HB.out.size
          rw [hg]
          clear hg
          go_loopw [6, 7, 8] (fun v _ _ wr => ∃ pos a : Nat, wr.heap[g]? = some (.stringIter S pos) ∧ pos ≤ n ∧ (chosen m (L.take pos)).length = a ∧ a ≤ pos ∧ wr.ownsRow (g + 1) 9 1 v a ((chosen m (L.take pos)).map txC) ∧ Below w.heap.size w wr ∧ g + 1 ≤ wr.heap.size) (fun _ _ _ wr => itLeft wr g)
          case atStart => exact ⟨0, 0, HBi.out.2.1, Nat.zero_le _, rfl, Nat.le_refl _, World.ownsRow_nil _ _ _ _, HBi.out.1, Nat.le_of_eq HBi.out.2.2.symm⟩
          case round =>
            obtain ⟨pos, a, hit, hpos, ha, hap, ho, hb, hsz1⟩ := hrel
            have HI := Lib.hid (And.intro hit (And.intro ha (And.intro ho (And.intro hb hsz1))))
            by_cases hps : pos < n
            · have hnx : ∀ ty, (Instr.next (.pointer (some ⟨g, 0, none⟩)) true ty).run Tryz.prog wr = _ := fun ty => Lib.run_next_any_at wr g S pos ty hit (by rw [hsz]; exact hps)
              have hpl : pos < L.length := by rw [HF.out.2.2.1]; exact hps
              obtain ⟨x, hx⟩ : ∃ x, L[pos] = x := ⟨_, rfl⟩
              have hx1 : 97 ≤ x ∧ x ≤ 122 := HF.out.1 x (by rw [← hx]; exact List.getElem_mem _)
              have hlow : x.toNat < 128 := by
                have h2 := UInt8.le_iff_toNat_le.1 hx1.2
                have : (122 : UInt8).toNat = 122 := rfl
                omega
              have hdec := HDec.out pos hpl (by rw [hx]; exact hlow)
              rw [hx] at hdec
              rw [hdec] at hnx
              dsimp only at hnx
              have hit2 := Lib.iterAt_heap wr g S pos (pos + 1) hit
              have hbw2 := Lib.below_iterAt hb (k := g) hgw S (pos + 1)
              have hszw : (wr.iterAt g S (pos + 1)).heap.size = wr.heap.size := by simp [World.iterAt]
              have how : (wr.iterAt g S (pos + 1)).ownsRow (g + 1) 9 1 u6 a ((chosen m (L.take pos)).map txC) := own_same ho (fun k hk => Lib.iterAt_other wr g k S (pos + 1) (by have := (ho.lt k hk).1; omega))
              obtain ⟨W, hWd⟩ : ∃ W, wr.iterAt g S (pos + 1) = W := ⟨_, rfl⟩
              rw [hWd] at hnx hit2 hbw2 hszw how
              have HW := Lib.hid (And.intro hit2 (And.intro hbw2 (And.intro hszw how)))
              have hct := chosen_take L m pos hpl
              rw [hx] at hct
              have hcast : (m : Int) / 2 ^ pos = ((m / 2 ^ pos : Nat) : Int) := by push_cast; rfl
              have hand := i64_and1 (m / 2 ^ pos) (by have := Nat.div_le_self m (2 ^ pos); have := HM.out; have h16 : 2 ^ n ≤ 2 ^ 16 := Nat.pow_le_pow_right (by decide) f3; omega)
              rw [← hcast] at hand
              have hlow2 := hlow
              clear hit ho hb hx hpl hit2 hbw2 hszw how hWd hdec hlow hcast
              by_cases hbit : m / 2 ^ pos % 2 = 1
              · rw [if_pos hbit] at hct
                rw [hbit] at hand
                have henc := enc_low x hlow2
                have HC := Lib.hid hct
                have HTX : Hid (Value.string (str [x]) = txC [x]) := rfl
                generalize str [x] = Y at henc HTX
                clear hbit hct hx1 hlow2
                go_wp2_with
                  (at_builtin
                   refine wpList_appSt rfl (.tmp 37) (.tmp 40) rfl (g + 1) u6 a ((chosen m (L.take pos)).map txC) rfl W HW.out.2.2.2 Y rfl rfl (by omega) (by rw [HW.out.2.2.1]; exact HI.out.2.2.2.2) ?_)
                intro v' w' ho hg hob
                have HN2 := Lib.hid (And.intro ho (And.intro hg hob))
                clear ho hg hob
                go_wp2_with fail
                have hgl : g < W.heap.size := by rw [HW.out.2.2.1]; exact HI.out.2.2.2.2
                have hblk : w'.heap[g]? = some (.stringIter S (pos + 1)) := by
                  rw [HN2.out.2.1.block g (by rw [World.size_alloc]; omega) (fun h => by have := (HW.out.2.2.2.lt g h.symm).1; omega), ((Below.refl W.heap.size W).alloc (Nat.le_refl _) _).block g hgl]
                  exact HW.out.1
                refine ⟨⟨pos + 1, a + 1, hblk, hps, by rw [HC.out, List.length_append, HI.out.2.1]; rfl, by omega, ?_, (HW.out.2.1.alloc HW.out.2.1.size _).grown HN2.out.2.1 (by rw [World.size_alloc]; have := HW.out.2.1.size; omega) (fun k hk => by have := (HW.out.2.2.2.lt k hk).1; omega), by have := HN2.out.2.1.size; rw [World.size_alloc] at this; omega⟩, ?_⟩
                · rw [HC.out, List.map_append, List.map_singleton, ← HTX.out]
                  exact HN2.out.1
                · rw [itLeft_eq hblk, itLeft_eq HI.out.1]
                  omega
              · rw [if_neg hbit, List.append_nil] at hct
                have hb0 : m / 2 ^ pos % 2 = 0 := by omega
                rw [hb0] at hand
                have HC := Lib.hid hct
                clear hbit hct hb0 hx1 hlow2
                go_wp2_with fail
                refine ⟨⟨pos + 1, a, HW.out.1, hps, by rw [HC.out]; exact HI.out.2.1, by omega, by rw [HC.out]; exact HW.out.2.2.2, HW.out.2.1, by rw [HW.out.2.2.1]; exact HI.out.2.2.2.2⟩, ?_⟩
                rw [itLeft_eq HW.out.1, itLeft_eq HI.out.1]
                omega
            · have hnx : ∀ ty, (Instr.next (.pointer (some ⟨g, 0, none⟩)) true ty).run Tryz.prog wr = _ := fun ty => Lib.run_next_end_at wr g S pos ty hit (by rw [hsz]; exact hps)
              obtain rfl : pos = n := by omega
              have hch : chosen m (L.take pos) = chosen m L := by rw [List.take_of_length_le (by rw [HF.out.2.2.1]; exact Nat.le_refl _)]
              rw [hch] at ha ho
              have hne : chosen m L ≠ [] := fun h0 => by
                have h1 := chosen_sum L m HF.out.2.1 (by rw [HF.out.2.2.1]; exact HM.out)
                rw [h0] at h1
                exact H0.out (by simpa using h1.symm)
              have hR2 : Hid ((joinC (chosen m L), 0) = R) := by
                have h1 := hRR.out
                rwa [if_neg hne] at h1
              have hjl : (joinC (chosen m L)).length ≤ 1000000 := by
                have h1 := join_le 1 (chosen m L) (fun x hx => by obtain ⟨c, _, rfl⟩ := chosen_mem L m x hx; exact Nat.le_refl _)
                rw [ha] at h1
                omega
              obtain ⟨A, c, hv, hc1, _, hrd⟩ := RowS.owned ha ho
              rw [ha] at hv hc1
              subst hv
              have HJ := Lib.hid (fun W h => join_any A a c (chosen m L) { data := #[44] } W rfl hne ha h hc1 hjl (by omega))
              have HRd := Lib.hid hrd
              clear hit hb hps ha ho hch hne hjl hrd hc1
              go_wp2_with fail
              with_reducible refine (HJ.out _ HRd.out).mono ?_
              rintro e w3 ⟨rfl, hb⟩
              have HB3 := Lib.hid (HI.out.2.2.2.1.trans (hb.mono HI.out.2.2.2.1.size))
              clear hb
              go_wp2_with fail
              go_ret2
              exact joE_of hR2.out rfl rfl HB3.out
end Go.Proofs.YtencapplbedcmaaGreatDoor

/- Law GroupFull, walked. -/
import Derived.Test.YtkfnbapnkmlopaaDoorGpNu
import Derived.Test.YtkfnbapnkmlopaaDoorGpFn
import Derived.Test.YtkfnbapnkmlopaaDoorGpOw
namespace Go.Proofs.YtkfnbapnkmlopaaDoor
open Go.RowKit

theorem u64_ge13 (k : Int) : 0 ≤ IntKind.u64.wrap k := by
  simp only [IntKind.wrap, IntKind.bits, IntKind.signed]
  simp
  omega
/-- The groups as they are made. -/
def gZ (i : Nat) : List (Grp × Value × Value) := (List.range i).map fun i => ((nmG i, [], []), Value.slice none 0 0, Value.slice none 0 0)
theorem gZ_succ (i : Nat) : gZ (i + 1) = gZ i ++ [((nmG i, [], []), Value.slice none 0 0, Value.slice none 0 0)] := by simp [gZ, List.range_succ]
theorem gZ_map (i : Nat) : (gZ i).map (·.1) = gF i := by simp [gZ, gF, Function.comp_def]
theorem gZ_len (i : Nat) : (gZ i).length = i := by simp [gZ]
theorem xF_succ (i : Nat) : xF (i + 1) = xF i ++ [(nmG i, [[97, 97, 97]])] := by simp [xF, List.range_succ]
theorem gZ_push {w w1 w2 : World} {base i : Nat} {o v' : Value} (h : GsO w base o (gZ i)) (hb : Below w.heap.size w w1) (ho : w2.ownsRow base 45 3 v' (i + 1) ((gZ i).flatMap grC ++ [.string (str (nmG i)), .slice none 0 0, .slice none 0 0])) (hg : w1.grownBy w2 o.ownBlock) : GsO w2 base v' (gZ (i + 1)) := by
  rw [gZ_succ]
  exact (h.below hb).push (HeS.nil _ _) (HeS.nil _ _) (by rw [gZ_len]; exact ho) hg
theorem GsO.own_n {w : World} {base n : Nat} {v : Value} {Z : List (Grp × Value × Value)} (h : GsO w base v Z) (hn : Z.length = n) : w.ownsRow base 45 3 v n (Z.flatMap grC) := hn ▸ h.own
theorem XsO.own_n {w : World} {base n : Nat} {v : Value} {Z : List (Itm × Value)} (h : XsO w base v Z) (hn : Z.length = n) : w.ownsRow base 47 2 v n (Z.flatMap itC) := hn ▸ h.own
theorem one_str3 (S : ByteArray) : ∀ u ∈ [Value.string S, .slice none 0 0, .slice none 0 0], u.oneCell' = true := fun u hu => by
  simp only [List.mem_cons, List.not_mem_nil, or_false] at hu
  rcases hu with rfl | rfl | rfl <;> rfl
theorem one_str2 (S : ByteArray) (A : Option Addr) (n c : Nat) : ∀ u ∈ [Value.string S, .slice A n c], u.oneCell' = true := fun u hu => by
  simp only [List.mem_cons, List.not_mem_nil, or_false] at hu
  rcases hu with rfl | rfl <;> rfl
theorem smG_F (j k : Nat) : SmG (gF j) (xF k) := by
  refine ⟨fun a ha => ?_, fun b hb => ?_⟩
  · unfold gF at ha
    obtain ⟨i, _, rfl⟩ := List.mem_map.1 ha
    exact ⟨smN_of (show 3 ≤ 100 by decide), fun s hs => absurd hs List.not_mem_nil, fun s hs => absurd hs List.not_mem_nil⟩
  · unfold xF at hb
    obtain ⟨i, _, rfl⟩ := List.mem_map.1 hb
    refine ⟨smN_of (show 3 ≤ 100 by decide), fun s hs => ?_⟩
    rw [List.mem_singleton.1 hs]
    exact smN_of (by decide)
set_option maxHeartbeats 8000000 in
set_option maxRecDepth 100000 in
theorem full13_walk (hP : PgX) (n m : Int) (W : World) (hE : ErrT W) (hT : Tz W) (_ : -9223372036854775808 ≤ n ∧ n ≤ 9223372036854775807) (_ : -9223372036854775808 ≤ m ∧ m ≤ 9223372036854775807) :
    Calls Tryd.prog 4 #[.int .i64 n, .int .i64 m] W fun e w' => e = .returned (.bool true) ∧ Below W.heap.size W w' := by
  obtain ⟨r, hr⟩ : ∃ r : Nat, IntKind.u64.wrap n % 8 = (r : Int) := ⟨(IntKind.u64.wrap n % 8).toNat, by have := Int.emod_nonneg (IntKind.u64.wrap n) (show (8 : Int) ≠ 0 by decide); omega⟩
  obtain ⟨s, hs⟩ : ∃ r : Nat, IntKind.u64.wrap m % 8 = (r : Int) := ⟨(IntKind.u64.wrap m % 8).toNat, by have := Int.emod_nonneg (IntKind.u64.wrap m) (show (8 : Int) ≠ 0 by decide); omega⟩
  have hr8 : (r : Int) < 8 := by rw [← hr]; exact Int.emod_lt_of_pos _ (by decide)
  have hs8 : (s : Int) < 8 := by rw [← hs]; exact Int.emod_lt_of_pos _ (by decide)
  have t1 : (IntKind.u64.wrap n).tmod 8 = (r : Int) := by rw [Int.tmod_eq_emod_of_nonneg (u64_ge13 n), hr]
  have t2 : (IntKind.u64.wrap m).tmod 8 = (s : Int) := by rw [Int.tmod_eq_emod_of_nonneg (u64_ge13 m), hs]
  obtain ⟨j, hj⟩ : ∃ j : Nat, (1020 : Int) + r = j := ⟨1020 + r, by omega⟩
  obtain ⟨k, hk⟩ : ∃ j : Nat, (1020 : Int) + s = j := ⟨1020 + s, by omega⟩
  have hj0 : (1020 : Int) ≤ j := by omega
  have hj1 : (j : Int) ≤ 1027 := by omega
  have hk0 : (1020 : Int) ≤ k := by omega
  have hk1 : (k : Int) ≤ 1027 := by omega
  have r0 : (0 : Int) ≤ r := by omega
  have s0 : (0 : Int) ≤ s := by omega
  have HSu := Lib.hid (fun V (hb : Below W.heap.size W V) => sure_any13 hP V (hT.below hb))
  have HPx := Lib.hid (fun a b V (hb : Below W.heap.size W V) (h1 : RowG V a (gF j)) (h2 : RowX V b (xF k)) => hP.ex a b (gF j) (xF k) V (hT.below hb) (smG_F j k) h1 h2)
  have HEr := Lib.hid hE
  clear hP hT hE hr hs
  go_enter Tryd.func4, Tryd.ntmps4
  go_wp2_with fail
  go_loopw [7, 10] (fun ov iv wr => ∃ (i : Nat) (o : Value), o = ov ∧ iv = .int .i64 i ∧ i ≤ j ∧ Below W.heap.size W wr ∧ GsO wr W.heap.size o (gZ i)) (fun _ iv _ => j - (intOf iv).toNat)
  case atStart => exact ⟨0, _, rfl, rfl, Nat.zero_le _, Below.refl _ _, GsO.nil⟩
  case round =>
    obtain ⟨i, o, rfl, rfl, hi, hb, hown⟩ := hrel
    by_cases hin : i < j
    · have q0 : (0 : Int) ≤ i := by omega
      have q1 : (i : Int) < j := by omega
      have HNm := Lib.hid (name13_any i (by omega) wr)
      have hsz := hb.size
      have HK := Lib.hid (And.intro hb hown)
      obtain ⟨S, hS⟩ : ∃ S, str (nmG i) = S := ⟨_, rfl⟩
      have HS := Lib.hid hS
      rw [hS] at HNm
      clear hb hown hS
      go_wp2_with fail
      with_reducible refine HNm.out.mono ?_
      rintro e w1 ⟨rfl, hb1⟩
      have hz1 := hb1.size
      have HB1 := Lib.hid hb1
      clear hb1
      go_wp2_with
        (at_builtin
         refine wpList_appG rfl (.tmp 30) (.tmp 35) 26 rfl Tryd.underlying26 infoG rfl (by omega) W.heap.size o i ((gZ i).flatMap grC) rfl (own_sameO (HK.out.2.own_n (gZ_len i)) (HB1.out.trans (((Below.refl w1.heap.size w1).alloc (Nat.le_refl _) _).mono HB1.out.size))) (some ⟨w1.heap.size, 0, none⟩) 1 1 [.string S, .slice none 0 0, .slice none 0 0] rfl rfl (Rd.block (MapKept.heap_alloc w1 (.cells #[.string S, .slice none 0 0, .slice none 0 0] 45)).1) (one_str3 S) (by unfold maxLen; omega) (by omega) (by rw [World.size_alloc]; omega) ?_
         intro v' w'' ho hg hob
         have HN2 := Lib.hid (And.intro ho hg)
         clear ho hg hob)
      have hal1 : Below wr.heap.size wr (w1.alloc (.cells #[.string S, .slice none 0 0, .slice none 0 0] 45)) := HB1.out.trans (((Below.refl w1.heap.size w1).alloc (Nat.le_refl _) _).mono HB1.out.size)
      have hal := HK.out.1.trans (hal1.mono HK.out.1.size)
      exact ⟨⟨i + 1, v', rfl, by go_num, hin, Below.grown hal HN2.out.2 hal.size (fun b hb => ((HK.out.2.own_n (gZ_len i)).lt b hb).1), gZ_push HK.out.2 hal1 (by rw [HS.out]; exact HN2.out.1) HN2.out.2⟩, by simp [intOf]; omega⟩
    · obtain rfl : j = i := by omega
      have q1 : ¬ (j : Int) < j := by omega
      have HG := Lib.hid (And.intro hb hown)
      clear hb hown
      go_wp2_with fail
      obtain ⟨w5, rfl⟩ : ∃ y, y = wr := ⟨_, rfl⟩
      go_loopw [8, 11] (fun ov iv wr' => ∃ (i : Nat) (o : Value) (Y : List (Itm × Value)), o = ov ∧ iv = .int .i64 i ∧ i ≤ k ∧ Y.map (·.1) = xF i ∧ Below w5.heap.size w5 wr' ∧ XsO wr' w5.heap.size o Y) (fun _ iv _ => k - (intOf iv).toNat)
      case atStart => exact ⟨0, _, [], rfl, rfl, Nat.zero_le _, rfl, Below.refl _ _, XsO.nil⟩
      case round =>
        obtain ⟨i, o2, Y, rfl, rfl, hi, hY, hb, hown⟩ := hrel
        have hYl : Y.length = i := by rw [← List.length_map (f := (·.1)), hY, xF_len]
        by_cases him : i < k
        · have q0 : (0 : Int) ≤ i := by omega
          have q2 : (i : Int) < k := by omega
          have HNm := Lib.hid (name13_any i (by omega) wr)
          have hsz := hb.size
          have HK := Lib.hid (And.intro hb (And.intro hown (And.intro hY hYl)))
          obtain ⟨S, hS⟩ : ∃ S, str (nmG i) = S := ⟨_, rfl⟩
          have HS := Lib.hid hS
          rw [hS] at HNm
          clear hb hown hS hY hYl
          go_wp2_with fail
          with_reducible refine HNm.out.mono ?_
          rintro e w1 ⟨rfl, hb1⟩
          have hz1 := hb1.size
          have HB1 := Lib.hid hb1
          clear hb1
          obtain ⟨w2, hw2⟩ : ∃ y, w1.alloc (.cells #[.string { data := #[97, 97, 97] }] 9) = y := ⟨_, rfl⟩
          have hb2 : Below w1.heap.size w1 w2 := by rw [← hw2]; exact (Below.refl _ _).alloc (Nat.le_refl _) _
          have hz2 := hb2.size
          have m2 := (MapKept.heap_alloc w1 (.cells #[.string { data := #[97, 97, 97] }] 9)).1
          obtain ⟨g2, hg2⟩ : ∃ y, w1.heap.size = y := ⟨_, rfl⟩
          rw [hw2, hg2] at m2
          have hr2 : HeS w2 w5.heap.size (.slice (some ⟨g2, 0, none⟩) 1 1) [[97, 97, 97]] := HeS.one m2
          have HB2 := Lib.hid (HB1.out.trans (hb2.mono HB1.out.size))
          have HR2 := Lib.hid hr2
          clear hb2 m2 hr2
          go_wp2_with
            (at_builtin
             refine wpList_appG rfl (.tmp 42) (.tmp 48) 27 rfl Tryd.underlying27 infoX rfl (by omega) w5.heap.size o2 i (Y.flatMap itC) rfl (own_sameO (HK.out.2.1.own_n HK.out.2.2.2) (HB2.out.trans (((Below.refl w2.heap.size w2).alloc (Nat.le_refl _) _).mono HB2.out.size))) (some ⟨w2.heap.size, 0, none⟩) 1 1 [.string S, .slice (some ⟨g2, 0, none⟩) 1 1] rfl rfl (Rd.block (MapKept.heap_alloc w2 (.cells #[.string S, .slice (some ⟨g2, 0, none⟩) 1 1] 47)).1) (one_str2 S _ _ _) (by unfold maxLen; omega) (by omega) (by rw [World.size_alloc]; omega) ?_
             intro v' w'' ho hg hob
             have HN2 := Lib.hid (And.intro ho hg)
             clear ho hg hob)
          have hal2 := ((Below.refl w2.heap.size w2).alloc (Nat.le_refl _) (.cells #[.string S, .slice (some ⟨g2, 0, none⟩) 1 1] 47))
          have hal1 := HB2.out.trans (hal2.mono HB2.out.size)
          have hal := HK.out.1.trans (hal1.mono HK.out.1.size)
          refine ⟨⟨i + 1, v', Y ++ [((nmG i, [[97, 97, 97]]), .slice (some ⟨g2, 0, none⟩) 1 1)], rfl, by go_num, him, ?_, Below.grown hal HN2.out.2 hal.size (fun b hb => ((HK.out.2.1.own_n HK.out.2.2.2).lt b hb).1), ?_⟩, by simp [intOf]; omega⟩
          · rw [List.map_append, HK.out.2.2.1, xF_succ]
            rfl
          · exact (HK.out.2.1.below hal1).push (HR2.out.below hal2) (by rw [HK.out.2.2.2]; unfold itC; dsimp only; rw [HS.out]; exact HN2.out.1) HN2.out.2
        · obtain rfl : k = i := by omega
          have q2 : ¬ (k : Int) < k := by omega
          have HF := Lib.hid (And.intro hb (And.intro hown hY))
          have HB := Lib.hid (HG.out.1.trans (hb.mono HG.out.1.size))
          have hRG := (HG.out.2.below hb).rowG
          rw [gZ_map] at hRG
          have hRX := hown.rowX
          rw [hY] at hRX
          have HRG := Lib.hid hRG
          have HRX := Lib.hid hRX
          clear hb hown hY hYl hRG hRX
          go_wp2_with fail
          by_cases hfull : 1024 < j ∨ 1024 < k
          · have hP := HPx.out o o2 wr HB.out HRG.out HRX.out
            rw [ckF_full hfull] at hP
            dsimp only at hP
            rw [if_neg (by decide), errE_pos (by decide)] at hP
            have hNu := fun V (hb : Below W.heap.size W V) => num13_err 10 V (HEr.out.below hb)
            unfold errK at hP hNu
            have HNu := Lib.hid hNu
            have hi : (1024 : Int) < j ∨ (1024 : Int) < k := by omega
            clear hNu hfull
            with_reducible refine hP.mono ?_
            rintro e w7 ⟨lv, rfl, hrl, hb7⟩
            obtain ⟨Al, cl, hlv, _⟩ := hrl.form
            subst hlv
            have HB7 := Lib.hid (HB.out.trans (hb7.mono HB.out.size))
            clear hP hrl hb7
            rcases hi with hi | hi
            · go_wp2_with fail
              with_reducible refine (HNu.out _ HB7.out).mono ?_
              rintro e w8 ⟨rfl, hb8⟩
              have HB8 := Lib.hid (HB7.out.trans (hb8.mono HB7.out.size))
              clear hb8
              go_wp2_with fail
              with_reducible refine (HSu.out _ HB8.out).mono ?_
              rintro e w9 ⟨rfl, hb9⟩
              have HB9 := Lib.hid (HB8.out.trans (hb9.mono HB8.out.size))
              clear hb9
              go_wp2_with fail
              go_ret
              exact ⟨rfl, HB9.out⟩
            · by_cases hj4 : (1024 : Int) < j
              all_goals
                go_wp2_with fail
                with_reducible refine (HNu.out _ HB7.out).mono ?_
                rintro e w8 ⟨rfl, hb8⟩
                have HB8 := Lib.hid (HB7.out.trans (hb8.mono HB7.out.size))
                clear hb8
                go_wp2_with fail
                with_reducible refine (HSu.out _ HB8.out).mono ?_
                rintro e w9 ⟨rfl, hb9⟩
                have HB9 := Lib.hid (HB8.out.trans (hb9.mono HB8.out.size))
                clear hb9
                go_wp2_with fail
                go_ret
                exact ⟨rfl, HB9.out⟩
          · have hP := HPx.out o o2 wr HB.out HRG.out HRX.out
            rw [(okF (j := j) (k := k) (by omega) (by omega) (by omega)).ck] at hP
            dsimp only at hP
            rw [if_pos rfl, errE_zero] at hP
            have g1 : ¬ (1024 : Int) < j := by omega
            have g2 : ¬ (1024 : Int) < k := by omega
            clear hfull
            with_reducible refine hP.mono ?_
            rintro e w7 ⟨lv, rfl, hrl, hb7⟩
            obtain ⟨Al, cl, hlv, hrl2⟩ := hrl.form
            subst hlv
            rw [exF_len] at hrl2 ⊢
            obtain ⟨ad, l0, A0, c0, ha, hl0, z0, _⟩ := hrl2.at9.2.2.2 0 (by omega)
            obtain ⟨ad', l1, A1, c1, ha', hl1, z1, _⟩ := hrl2.at9.2.2.2 1 (by omega)
            subst ha
            injection ha' with ha'
            subst ha'
            rw [exF_at0 (by omega)] at hl0
            rw [exF_at1 (by omega)] at hl1
            injection hl0 with hl0
            injection hl1 with hl1
            rw [← hl0, List.length_range] at z0
            rw [← hl1, List.length_nil] at z1
            rw [show ad.add 0 = ad by simp [Addr.add]] at z0
            have z2 : w7.cell? { block := ad.block, off := ad.off + 1 } = some (.slice A1 0 c1) := z1
            have HB7 := Lib.hid (HB.out.trans (hb7.mono HB.out.size))
            clear hP hrl hrl2 hb7 hl0 hl1
            have d0 : (0 : Int) < j := by omega
            have d1 : (1 : Int) < j := by omega
            go_wp2_with fail
            with_reducible refine (HSu.out _ HB7.out).mono ?_
            rintro e w9 ⟨rfl, hb9⟩
            have HB9 := Lib.hid (HB7.out.trans (hb9.mono HB7.out.size))
            clear hb9
            go_wp2_with fail
            go_ret
            exact ⟨rfl, HB9.out⟩
end Go.Proofs.YtkfnbapnkmlopaaDoor

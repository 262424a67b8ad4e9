/- Contract: strings.ContainsAny(.., "\n;") at every string. -/
import Derived.Test.YtbeehedppofpnaaGreatDoorBkI
namespace Go.Proofs.YtbeehedppofpnaaGreatDoor
open Go.RowKit

theorem sem_high {b : UInt8} (h : 128 ≤ b.toNat) : sem b = false := by
  unfold sem
  have h1 : b ≠ 10 := fun e => by subst e; exact absurd h (by decide)
  have h2 : b ≠ 59 := fun e => by subst e; exact absurd h (by decide)
  rw [beq_eq_false_iff_ne.2 h1, beq_eq_false_iff_ne.2 h2]
  rfl
theorem dec_at9 (s : ByteArray) (pos : Nat) (h : pos < s.size) :
    ((Utf8.decode s pos).2 = 1 ∧ semR (Utf8.decode s pos).1 = true ∧ ∃ x ∈ s.data.toList, sem x = true) ∨ semR (Utf8.decode s pos).1 = false ∧ ∀ x ∈ (s.data.toList.drop pos).take (Utf8.decode s pos).2, sem x = false := by
  have hl : pos < s.data.toList.length := by rw [← Lib.size_eq]; exact h
  have g : ∀ j, (hj : pos + j < s.data.toList.length) → s.get! (pos + j) = s.data.toList[pos + j] := fun j hj => by
    rw [← Lib.getD_get!', List.getD_eq_getElem?_getD, List.getElem?_eq_getElem hj]
    rfl
  have hat := Lib.decode_at s pos
  by_cases hb : (s.get! pos).toNat < 128
  · rw [Lib.decodeN_ascii _ _ _ _ _ hb] at hat
    rw [hat]
    have g0 : s.get! pos = s.data.toList[pos]'hl := g 0 hl
    have hbk := semR_byte (s.get! pos)
    cases hk : sem (s.get! pos)
    · right
      refine ⟨by simp only [hbk, hk], fun x hx => ?_⟩
      rw [List.drop_eq_getElem_cons hl, List.take_succ_cons, List.take_zero] at hx
      simp only [List.mem_singleton] at hx
      subst hx
      rw [← g0, hk]
    · exact .inl ⟨rfl, by simp only [hbk, hk], s.get! pos, by rw [g0]; exact List.getElem_mem hl, hk⟩
  · obtain ⟨h1, h2⟩ := dec_bytes (s.size - pos) (s.get! pos).toNat (s.get! (pos + 1)).toNat (s.get! (pos + 2)).toNat (s.get! (pos + 3)).toNat (by omega)
    rw [← hat] at h1 h2
    right
    refine ⟨?_, fun x hx => ?_⟩
    · unfold semR
      simp only [Bool.or_eq_false_iff, beq_eq_false_iff_ne]
      omega
    · obtain ⟨j, hj, e⟩ := List.getElem_of_mem hx
      rw [List.length_take, List.length_drop] at hj
      rw [List.getElem_take, List.getElem_drop] at e
      have := h2 j (by omega)
      have hj4 : (Utf8.decode s pos).2 ≤ 4 := by
        rw [hat]
        unfold Lib.decodeN
        repeat' split
        all_goals (simp only; omega)
      have gj := g j (by omega)
      rw [e] at gj
      rw [← gj]
      refine sem_high ?_
      rcases j with _ | _ | _ | _ | j
      · simpa using this
      · simpa using this
      · simpa using this
      · simpa using this
      · omega
theorem useSet_any (n : Int) (w : World) : Calls Tryz.prog 94 #[.int .i64 n] w fun e w' => e = .returned (.bool (decide (8 < n))) ∧ w = w' := by
  go_enter Tryz.func94, Tryz.ntmps94
  go_wp2_with fail
  go_ret
  exact ⟨rfl, rfl⟩
/-- What IndexAny tells: at least 0 if there is such a byte. -/
def Ay (b : Bool) (w : World) (e : Ending) (w' : World) : Prop := ∃ i : Int, e = .returned (.int .i64 i) ∧ decide (0 ≤ i) = b ∧ Below w.heap.size w w'
set_option maxHeartbeats 2000000 in
set_option maxRecDepth 100000 in
theorem indexShort_any (l : Tx) (M : ByteArray) (w : World) (hM : M = str [10, 59]) (hl : l.length ≤ 8) : Calls Tryz.prog 78 #[.string (str l), .string M] w (Ay (l.any sem) w) := by
  obtain ⟨n, hn⟩ : ∃ n, l.length = n := ⟨_, rfl⟩
  have hs : (str l).size = n := hn
  rw [hn] at hl
  have HU := Lib.hid (fun W => useSet_any n W)
  have h8 : decide ((8 : Int) < n) = false := decide_eq_false (by omega)
  rw [h8] at HU
  have HIx := Lib.hid (fun r W (hr : r ≤ 1114111) => ix_any9 r M W hM hr)
  have HDc := Lib.hid (fun pos h => dec_at9 (str l) pos h)
  have hMs : M.size = 2 := by rw [hM]; rfl
  have hMe : M.toList.isEmpty = false := by rw [hM, str_toList]; rfl
  have HA : Hid (∀ pos K, (l.take pos).any sem = false → (∀ x ∈ (l.drop pos).take K, sem x = false) → (l.take (pos + K)).any sem = false) := by
    intro pos K h1 h2
    rw [List.take_add, List.any_append, h1, Bool.false_or, List.any_eq_false]
    intro x hx
    rw [h2 x hx]
    simp
  obtain ⟨S, hS⟩ : ∃ S, str l = S := ⟨_, rfl⟩
  have HS := Lib.hid hS
  rw [hS] at hs HDc ⊢
  have HN := Lib.hid hn
  obtain ⟨b, hb⟩ : ∃ b, w.heap.size = b := ⟨_, rfl⟩
  have H0 : Hid ((w.iter S 0).heap[b]? = some (.stringIter S 0) ∧ Below w.heap.size w (w.iter S 0)) := ⟨by rw [← hb]; exact World.iter_heap w S 0, (Below.refl _ w).alloc (Nat.le_refl _) _⟩
  have Hb := Lib.hid hb
  clear hn hS hM h8
  go_enter Tryz.func78, Tryz.ntmps78
  go_wp2_with fail
  with_reducible refine (HU.out _).mono ?_
  rintro e w' ⟨rfl, rfl⟩
  go_wp2_with fail
  clear hMe
  go_loopg [9, 10] n (fun gf _ _ wx => ∃ pos : Nat, wx.heap[b]? = some (.stringIter S pos) ∧ Below w.heap.size w wx ∧ n ≤ pos + gf ∧ pos ≤ n ∧ (l.take pos).any sem = false)
  case atStart => exact ⟨0, H0.out.1, H0.out.2, by omega, Nat.zero_le _, rfl⟩
  case round =>
    obtain ⟨pos, hit, hbw, hfu, hps, hno⟩ := hrel
    by_cases hlt : pos < n
    · obtain ⟨g', rfl⟩ : ∃ g', gk = g' + 1 := ⟨gk - 1, by omega⟩
      have hlt' : pos < S.size := by rw [hs]; exact hlt
      have hnx : ∀ ty, (Instr.next (.pointer (some ⟨b, 0, none⟩)) true ty).run Tryz.prog wr = _ := fun ty => Lib.run_next_any_at wr b S pos ty hit hlt'
      have hwd := Lib.width_pos S pos
      have hwn : pos + (Utf8.decode S pos).2 ≤ S.size := by
        have := Lib.decodeN_le_n' (S.size - pos) (S.get! pos).toNat (S.get! (pos + 1)).toNat (S.get! (pos + 2)).toNat (S.get! (pos + 3)).toNat (by omega)
        rw [← Lib.decode_at] at this
        omega
      have hdc := HDc.out pos hlt'
      have hIx := HIx.out (Utf8.decode S pos).1 (wr.iterAt b S (pos + (Utf8.decode S pos).2)) (Lib.rune_le S pos)
      have hdl : S.data.toList = l := by rw [← HS.out]; rfl
      rw [hdl] at hdc
      obtain ⟨R, hR⟩ : ∃ R, (Utf8.decode S pos).1 = R := ⟨_, rfl⟩
      obtain ⟨K, hK⟩ : ∃ K, (Utf8.decode S pos).2 = K := ⟨_, rfl⟩
      rw [hR, hK] at hnx hdc hIx
      rw [hK] at hwd hwn
      have hbz : w.heap.size ≤ b := by rw [Hb.out]; exact Nat.le_refl _
      have hit2 := Lib.iterAt_heap wr b S pos (pos + K) hit
      have hbw2 := Lib.below_iterAt hbw (k := b) hbz S (pos + K)
      obtain ⟨W, hWd⟩ : ∃ W, wr.iterAt b S (pos + K) = W := ⟨_, rfl⟩
      rw [hWd] at hnx hit2 hbw2 hIx
      have hbW : b < W.heap.size := (Array.getElem?_eq_some_iff.1 hit2).1
      have HH := Lib.hid (And.intro hit2 (And.intro hbw2 (And.intro hdc (And.intro hno hbW))))
      have HI := Lib.hid hIx
      rw [hs] at hwn
      clear hit hbw hdc hno hit2 hbw2 hIx hdl hR hK hWd hbW
      go_wp2_with fail
      refine HI.out.mono ?_
      rintro e w3 ⟨i, rfl, hi, hb3⟩
      have H3 := Lib.hid hb3
      have hi' := hi
      clear hb3
      cases hq : decide ((0 : Int) ≤ i)
      · have hi0 : ¬ (0 : Int) ≤ i := by simpa using hq
        rw [hq] at hi
        have hsf : ∀ x ∈ (l.drop pos).take K, sem x = false := by
          rcases HH.out.2.2.1 with ⟨_, h, _⟩ | ⟨_, h⟩
          · rw [h] at hi; cases hi
          · exact h
        have HSf := Lib.hid hsf
        clear hi hi' hq hsf
        go_wp2_with fail
        go_roundg g'
        case measure => omega
        case rel => exact ⟨pos + K, (H3.out.block _ HH.out.2.2.2.2).trans HH.out.1, HH.out.2.1.trans (H3.out.mono HH.out.2.1.size), by omega, hwn, HA.out pos K HH.out.2.2.2.1 HSf.out⟩
      · have hi0 : (0 : Int) ≤ i := by simpa using hq
        rw [hq] at hi
        have hst : l.any sem = true := by
          rcases HH.out.2.2.1 with ⟨_, _, x, h1, h2⟩ | ⟨h, _⟩
          · exact List.any_eq_true.2 ⟨x, h1, h2⟩
          · rw [h] at hi; cases hi
        have HSt := Lib.hid hst
        clear hi hi' hq hst
        go_wp2_with fail
        go_ret
        exact ⟨pos, rfl, by rw [HSt.out]; simp, HH.out.2.1.trans (H3.out.mono HH.out.2.1.size)⟩
    · obtain rfl : pos = n := by omega
      have hnx : ∀ ty, (Instr.next (.pointer (some ⟨b, 0, none⟩)) true ty).run Tryz.prog wr = _ := fun ty => Lib.run_next_end_at wr b S pos ty hit (by rw [hs]; exact hlt)
      have HH := Lib.hid (And.intro hbw hno)
      clear hit hbw hno
      go_wp2_with fail
      go_ret
      have h2 := HH.out.2
      rw [List.take_of_length_le (by rw [HN.out]; exact Nat.le_refl _)] at h2
      exact ⟨-1, rfl, by rw [h2]; rfl, HH.out.1⟩
theorem indexAny_sem : ∀ l : Tx, decide (0 ≤ Lib.indexAny l [10, 59]) = l.any sem
  | [] => rfl
  | x :: l => by
    have ih := indexAny_sem l
    have hge := Lib.indexAny_ge [10, 59] l
    have hc : ([10, 59] : Tx).contains x = sem x := by
      unfold sem
      by_cases h1 : x = 10
      · subst h1; decide
      · by_cases h2 : x = 59
        · subst h2; decide
        · have f1 : (x == 10) = false := beq_eq_false_iff_ne.2 h1
          have f2 : (x == 59) = false := beq_eq_false_iff_ne.2 h2
          simp [f1, f2, h1, h2]
    rw [List.any_cons, ← ih, ← hc]
    cases hx : ([10, 59] : Tx).contains x
    · have hno : ∀ i, Lib.indexAny (x :: l) [10, 59] = i → (0 ≤ i ↔ 0 ≤ Lib.indexAny l [10, 59]) := by
        intro i hi
        rw [Lib.indexAny] at hi
        simp only [hx, Bool.false_eq_true, if_false] at hi
        split at hi
        · rename_i h
          have : Lib.indexAny l [10, 59] = -1 := by simpa using h
          omega
        · rename_i h
          have h' : ¬ Lib.indexAny l [10, 59] = -1 := by simpa using h
          omega
      rw [Bool.false_or]
      exact decide_eq_decide.2 (hno _ rfl)
    · rw [Bool.true_or, decide_eq_true]
      rw [Lib.indexAny]
      simp only [hx, if_true]
      exact Int.le_refl _
set_option maxRecDepth 100000 in
theorem containsAny_any (l : Tx) (M : ByteArray) (w : World) (hM : M = str [10, 59]) (hl : l.length ≤ 1000000) : Calls Tryz.prog 67 #[.string (str l), .string M] w fun e w' => e = .returned (.bool (l.any sem)) ∧ Below w.heap.size w w' := by
  have HI : Hid (∀ W, Calls Tryz.prog 78 #[.string (str l), .string M] W (Ay (l.any sem) W)) := by
    intro W
    by_cases h8 : l.length ≤ 8
    · exact indexShort_any l M W hM h8
    · subst hM
      have h256 : (Tryz.prog.info? 138).map (fun i => (i.zero, i.size)) = some (some (.agg (Array.replicate 256 (.bool false))), 256) := by kernel_rfl
      have h := (show Calls Tryz.prog 78 #[.string (str l), .string (str [10, 59])] W _ from Any.strings_IndexAny_long { Tryz.hasAnyL with } (zero_of_info h256).1 (zero_of_info h256).2 (str l) (str [10, 59]) W (by decide) (by rw [str_size]; omega) (by rw [str_size]; omega) (by decide) (ascii_of_all (by decide)))
      refine h.mono ?_
      rintro e w' ⟨rfl, rfl⟩
      refine ⟨_, rfl, indexAny_sem l, ?_⟩
      exact ((Below.refl _ _).alloc (Nat.le_refl _) _).alloc (by simp) _
  clear hl
  generalize l.any sem = B at *
  generalize str l = S at *
  clear hM
  go_enter Tryz.func67, Tryz.ntmps67
  go_wp2_with fail
  refine (HI.out _).mono ?_
  rintro e w1 ⟨i, rfl, hi, hb⟩
  have HH := Lib.hid (And.intro hi hb)
  clear hi hb
  go_wp2_with fail
  go_ret
  exact ⟨ret_bool8 HH.out.1, HH.out.2⟩
end Go.Proofs.YtbeehedppofpnaaGreatDoor

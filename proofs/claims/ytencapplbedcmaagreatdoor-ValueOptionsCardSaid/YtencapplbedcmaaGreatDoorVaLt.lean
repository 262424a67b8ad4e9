/- Contract: value's areLetters. -/
import Derived.Test.YtencapplbedcmaaGreatDoorVaInt
import Derived.Test.YtencapplbedcmaaGreatDoorVaFn
import Derived.Lib.OthersKept
import Derived.Lib.TrimU
namespace Go.Proofs.YtencapplbedcmaaGreatDoor
open Go.RowKit

/-- How much of a text an iterator has before it. -/
def itLeft (W : World) (b : Nat) : Nat := match W.heap[b]? with
  | some (.stringIter s pos) => s.size - pos
  | _ => 0
theorem itLeft_eq {W : World} {b : Nat} {s : ByteArray} {pos : Nat} (h : W.heap[b]? = some (.stringIter s pos)) : itLeft W b = s.size - pos := by unfold itLeft; rw [h]
theorem get_str (L : Tx) (k : Nat) (h : k < L.length) : (str L).get! k = L[k] := by
  rw [← Lib.getD_get!', List.getD_eq_getElem?_getD]
  show (L[k]?).getD 0 = _
  rw [List.getElem?_eq_getElem h]
  rfl
theorem dec_low (L : Tx) (k : Nat) (h : k < L.length) (hb : (L[k]).toNat < 128) : Utf8.decode (str L) k = ((L[k]).toNat, 1) := by
  have hat := Lib.decode_at (str L) k
  rw [get_str L k h, Lib.decodeN_ascii _ _ _ _ _ hb] at hat
  exact hat
theorem dec_high (L : Tx) (k : Nat) (h : k < L.length) (hb : ¬ (L[k]).toNat < 128) : 128 ≤ (Utf8.decode (str L) k).1 := by
  have hat := Lib.decode_at (str L) k
  rw [get_str L k h] at hat
  have := (dec_bytes ((str L).size - k) (L[k]).toNat ((str L).get! (k + 1)).toNat ((str L).get! (k + 2)).toNat ((str L).get! (k + 3)).toNat (by omega)).1
  rw [← hat] at this
  exact this
def sml (c : UInt8) : Bool := decide (97 ≤ c) && decide (c ≤ 122)
theorem sml_int (c : UInt8) : (sml c = true ∧ (97 : Int) ≤ c.toNat ∧ (c.toNat : Int) ≤ 122) ∨ (sml c = false ∧ ((c.toNat : Int) < 97 ∨ (122 : Int) < c.toNat)) := by
  unfold sml
  have h1 : (97 ≤ c) ↔ 97 ≤ c.toNat := UInt8.le_iff_toNat_le
  have h2 : (c ≤ 122) ↔ c.toNat ≤ 122 := UInt8.le_iff_toNat_le
  by_cases a : 97 ≤ c.toNat
  · by_cases b : c.toNat ≤ 122
    · exact .inl ⟨by rw [decide_eq_true (h1.2 a), decide_eq_true (h2.2 b)]; rfl, by omega, by omega⟩
    · exact .inr ⟨by rw [decide_eq_false (fun h => b (h2.1 h)), Bool.and_false], by omega⟩
  · exact .inr ⟨by rw [decide_eq_false (fun h => a (h1.1 h)), Bool.false_and], by omega⟩
theorem sing_any (x : UInt8) : ∀ l : Tx, (l.map fun c => [c]).any (· == [x]) = l.contains x
  | [] => rfl
  | c :: l => by
    rw [List.map_cons, List.any_cons, sing_any x l, List.contains_cons]
    have : ([c] == [x]) = (x == c) := by
      rw [Bool.eq_iff_iff]
      simp only [beq_iff_eq, List.cons.injEq, and_true]
      exact eq_comm
    rw [this]
/-- The letters up to a place are letters. -/
def okTo (L : Tx) (k : Nat) : Prop := (L.take k).all sml = true ∧ dupT ((L.take k).map fun c => [c]) = false
theorem ok_next {L : Tx} {k : Nat} (hk : k < L.length) (h : okTo L k) (h1 : sml L[k] = true) (h2 : (L.take k).contains L[k] = false) : okTo L (k + 1) := by
  unfold okTo at h ⊢
  rw [List.take_succ_eq_append_getElem hk, List.all_append, h.1, List.map_append, List.map_singleton, dup_snoc, h.2, sing_any, h2]
  simp [h1]
theorem may_not {L : Tx} {k : Nat} (hk : k < L.length) (h1 : sml L[k] = false) : mayT L = false := by
  unfold mayT
  have : (L.all fun c => decide (97 ≤ c) && decide (c ≤ 122)) = false := by
    rw [List.all_eq_false]
    refine ⟨L[k], List.getElem_mem hk, ?_⟩
    unfold sml at h1
    rw [h1]
    simp
  rw [this]
  rfl
theorem may_dup {L : Tx} {k : Nat} (hk : k < L.length) (h2 : (L.take k).contains L[k] = true) : mayT L = false := by
  have h3 : dupT ((L.take (k + 1)).map fun c => [c]) = true := by
    rw [List.take_succ_eq_append_getElem hk, List.map_append, List.map_singleton, dup_snoc, sing_any, h2, Bool.or_true]
  have h4 : dupT (L.map fun c => [c]) = true := by
    have h5 : ∀ a b : List Tx, dupT a = true → dupT (a ++ b) = true := fun a b => by
      induction a with
      | nil => intro h; cases h
      | cons p a ih =>
        intro h
        rw [dupT, Bool.or_eq_true] at h
        rw [List.cons_append, dupT, Bool.or_eq_true]
        rcases h with h | h
        · exact .inl (by rw [List.contains_iff_mem] at h ⊢; exact List.mem_append_left _ h)
        · exact .inr (ih h)
    have := h5 _ ((L.drop (k + 1)).map fun c => [c]) h3
    rwa [← List.map_append, List.take_append_drop] at this
  unfold mayT
  rw [h4]
  simp
theorem may_ok {L : Tx} (hl : L.length ≤ 16) (h : okTo L L.length) : mayT L = true := by
  unfold okTo at h
  rw [List.take_length] at h
  unfold mayT
  rw [h.2, decide_eq_true hl]
  have : (L.all fun c => decide (97 ≤ c) && decide (c ≤ 122)) = true := h.1
  rw [this]
  rfl
theorem may_long {L : Tx} (hl : 16 < L.length) : mayT L = false := by
  unfold mayT
  rw [decide_eq_false (by omega), Bool.and_false]
theorem ret_boolL {a b : Bool} {w w' : World} (h : a = b) (hb : Below w.heap.size w w') : Ending.returned (.bool a) = .returned (.bool b) ∧ Below w.heap.size w w' := ⟨by rw [h], hb⟩
set_option maxHeartbeats 2000000 in
set_option maxRecDepth 100000 in
theorem areLetters_any (L : Tx) (w : World) (hl : L.length ≤ 1000000) : Calls Tryz.prog 38 #[.string (str L)] w fun e w' => e = .returned (.bool (mayT L)) ∧ Below w.heap.size w w' := by
  obtain ⟨R, hR⟩ : ∃ R, mayT L = R := ⟨_, rfl⟩
  rw [hR]
  obtain ⟨n, hn⟩ : ∃ n, L.length = n := ⟨_, rfl⟩
  have hsz : (str L).size = n := hn
  rw [hn] at hl
  by_cases h16 : 16 < n
  · have HR : Hid (false = R) := by unfold Hid; rw [← hR, may_long (by omega)]
    have d1 : (16 : Int) < n := by omega
    generalize str L = S at *
    clear hR hn h16
    go_enter Tryz.func38, Tryz.ntmps38
    go_wp2_with fail
    go_ret
    exact ret_boolL HR.out (Below.refl _ _)
  · have d1 : ¬ (16 : Int) < n := by omega
    have HN := Lib.hid hn
    have HB : Hid (∀ k, (hk : k < n) → okTo L k → ∃ x : UInt8, (∃ h : k < L.length, L[k] = x) ∧ (sml x = false → R = false) ∧ ((L.take k).contains x = true → R = false) ∧ (sml x = true → (L.take k).contains x = false → okTo L (k + 1))) := fun k hk ho => by
      have hk' : k < L.length := by rw [hn]; exact hk
      refine ⟨L[k], ⟨hk', rfl⟩, fun h => ?_, fun h => ?_, fun h1 h2 => ok_next hk' ho h1 h2⟩
      · rw [← hR]; exact may_not hk' h
      · rw [← hR]; exact may_dup hk' h
    have HE : Hid (okTo L n → true = R) := fun h => by
      rw [← hR, may_ok (by omega) (by rw [hn]; exact h)]
    have HD : Hid (∀ k, (hk : k < n) → ∀ x : UInt8, (∃ h : k < L.length, L[k] = x) → (x.toNat < 128 ∧ Utf8.decode (str L) k = (x.toNat, 1)) ∨ (¬ x.toNat < 128 ∧ 128 ≤ (Utf8.decode (str L) k).1)) := fun k hk x ⟨h, hx⟩ => by
      subst hx
      by_cases hb : (L[k]).toNat < 128
      · exact .inl ⟨hb, dec_low L k h hb⟩
      · exact .inr ⟨hb, dec_high L k h hb⟩
    have HCut : Hid (∀ k, k ≤ n → (str L).extract 0 k = str (L.take k)) := fun k _ => by
      rw [str_cut]
      simp
    have HCR := Lib.hid (fun (t : Tx) (x : UInt8) (hx : x.toNat < 128) W => hasRune_any t x hx W)
    generalize str L = S at *
    clear hR hn h16
    go_enter Tryz.func38, Tryz.ntmps38
    go_wp2_with fail
    go_loopw [3, 4] (fun _ _ wr => ∃ pos : Nat, wr.heap[w.heap.size]? = some (.stringIter S pos) ∧ pos ≤ n ∧ okTo L pos ∧ Below w.heap.size w wr) (fun _ _ wr => itLeft wr w.heap.size)
    case atStart => exact ⟨0, World.iter_heap w S 0, Nat.zero_le _, ⟨rfl, rfl⟩, (Below.refl _ w).alloc (Nat.le_refl _) _⟩
    case round =>
      obtain ⟨pos, hit, hpos, hok, hb⟩ := hrel
      have HI := Lib.hid (And.intro hit (And.intro hok hb))
      by_cases hps : pos < n
      · have hnx : ∀ ty, (Instr.next (.pointer (some ⟨w.heap.size, 0, none⟩)) true ty).run Tryz.prog wr = _ := fun ty => Lib.run_next_any_at wr w.heap.size S pos ty hit (by rw [hsz]; exact hps)
        obtain ⟨x, hx, r1, r2, r3⟩ := HB.out pos hps hok
        have hdec := HD.out pos hps x hx
        obtain ⟨D, hD⟩ : ∃ D, Utf8.decode S pos = D := ⟨_, rfl⟩
        rw [hD] at hnx hdec
        have HX := Lib.hid (And.intro r1 (And.intro r2 r3))
        have hc := HCut.out pos hpos
        rcases hdec with ⟨hlow, hdd⟩ | ⟨hhigh, hR128⟩
        · subst hdd
          dsimp only at hnx
          have hit2 := Lib.iterAt_heap wr w.heap.size S pos (pos + 1) hit
          have hbw2 := Lib.below_iterAt hb (k := w.heap.size) (Nat.le_refl _) S (pos + 1)
          obtain ⟨W, hWd⟩ : ∃ W, wr.iterAt w.heap.size S (pos + 1) = W := ⟨_, rfl⟩
          rw [hWd] at hnx hit2 hbw2
          have HW := Lib.hid (And.intro hit2 hbw2)
          have HCR2 := Lib.hid (fun V => HCR.out (L.take pos) x hlow V)
          obtain ⟨T, hT⟩ : ∃ T, str (L.take pos) = T := ⟨_, rfl⟩
          rw [hT] at HCR2 hc
          have q0 : (0 : Int) ≤ pos := by omega
          have q1 : (pos : Int) < n := by omega
          have q2 : (pos : Int) ≤ n := by omega
          clear hit hok hb hx r1 r2 r3 hD hlow hWd hit2 hbw2 hT
          rcases sml_int x with ⟨s1, s2, s3⟩ | ⟨s1, s2⟩
          · have e1 : ¬ ((x.toNat : Int) < 97) := by omega
            have e2 : ¬ ((122 : Int) < x.toNat) := by omega
            have S1 := Lib.hid s1
            clear s1 s2 s3
            cases hcn : (L.take pos).contains x <;> rw [hcn] at HCR2
            · have HO : Hid (okTo L (pos + 1)) := HX.out.2.2 S1.out hcn
              clear hcn
              go_wp2_with fail
              refine (HCR2.out _).mono ?_
              rintro e w' ⟨rfl, rfl⟩
              go_wp2_with fail
              refine ⟨⟨pos + 1, HW.out.1, hps, HO.out, HW.out.2⟩, ?_⟩
              rw [itLeft_eq HW.out.1, itLeft_eq HI.out.1]
              omega
            · have HR : Hid (false = R) := (HX.out.2.1 hcn).symm
              clear hcn
              go_wp2_with fail
              refine (HCR2.out _).mono ?_
              rintro e w' ⟨rfl, rfl⟩
              go_wp2_with fail
              go_ret
              exact ret_boolL HR.out HW.out.2
          · have HR : Hid (false = R) := (HX.out.1 s1).symm
            clear s1
            rcases s2 with s2 | s2
            · go_wp2_with fail
              go_ret
              exact ret_boolL HR.out HW.out.2
            · have e1 : ¬ ((x.toNat : Int) < 97) := by omega
              go_wp2_with fail
              go_ret
              exact ret_boolL HR.out HW.out.2
        · obtain ⟨r, K⟩ := D
          dsimp only at hnx hR128
          have hbw2 := Lib.below_iterAt hb (k := w.heap.size) (Nat.le_refl _) S (pos + K)
          obtain ⟨W, hWd⟩ : ∃ W, wr.iterAt w.heap.size S (pos + K) = W := ⟨_, rfl⟩
          rw [hWd] at hnx hbw2
          have HW := Lib.hid hbw2
          have s1 : sml x = false := by
            rcases sml_int x with ⟨_, _, s3⟩ | ⟨s1, _⟩
            · omega
            · exact s1
          have HR : Hid (false = R) := (HX.out.1 s1).symm
          have e1 : ¬ ((r : Int) < 97) := by omega
          have e2 : (122 : Int) < r := by omega
          clear hit hok hb hx r1 r2 r3 hD hhigh hWd hbw2 s1 hR128
          go_wp2_with fail
          go_ret
          exact ret_boolL HR.out HW.out
      · have hnx : ∀ ty, (Instr.next (.pointer (some ⟨w.heap.size, 0, none⟩)) true ty).run Tryz.prog wr = _ := fun ty => Lib.run_next_end_at wr w.heap.size S pos ty hit (by rw [hsz]; exact hps)
        obtain rfl : pos = n := by omega
        have HR : Hid (true = R) := HE.out hok
        clear hit hok hb hps
        go_wp2_with fail
        go_ret
        exact ret_boolL HR.out HI.out.2.2
end Go.Proofs.YtencapplbedcmaaGreatDoor

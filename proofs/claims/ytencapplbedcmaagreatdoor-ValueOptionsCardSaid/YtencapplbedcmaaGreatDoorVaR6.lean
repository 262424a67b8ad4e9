/- The document's at, May. -/
import Derived.Test.YtencapplbedcmaaGreatDoorVaLt
import Derived.Test.YtencapplbedcmaaGreatDoorVaBit
import Derived.Test.YtencapplbedcmaaGreatDoorVaR3
namespace Go.Proofs.YtencapplbedcmaaGreatDoor
open Go.RowKit

/-- A letter's place; -1: none. -/
def atI (L : Tx) (c : UInt8) : Int := if c ∈ L then (idxT L c : Int) else -1
theorem idx_take {L : Tx} {c : UInt8} {k : Nat} (hk : k < L.length) (hx : L[k] = c) (hno : c ∉ L.take k) : idxT L c = k := by
  have hm : c ∈ L := by rw [← hx]; exact List.getElem_mem _
  have hg := idx_get L c hm
  rcases Nat.lt_trichotomy (idxT L c) k with h | h | h
  · refine absurd ?_ hno
    rw [List.mem_iff_getElem?]
    exact ⟨idxT L c, by rw [List.getElem?_take_of_lt h]; exact hg⟩
  · exact h
  · exfalso
    clear hno hm
    have : ∀ (L : Tx) (k : Nat), (hk : k < L.length) → L[k] = c → ¬ k < idxT L c := by
      intro L
      induction L with
      | nil => intro k hk; simp at hk
      | cons d L ih =>
        intro k hk hx h
        rw [idxT] at h
        split at h
        · omega
        · rename_i hd
          cases k with
          | zero => exact hd hx
          | succ k => exact ih k (by simpa using hk) hx (by omega)
    exact this L k hk hx h
theorem at_found {L : Tx} {c : UInt8} {k : Nat} (hk : k < L.length) (hx : L[k] = c) (hno : c ∉ L.take k) : (k : Int) = atI L c := by
  unfold atI
  rw [if_pos (by rw [← hx]; exact List.getElem_mem _), idx_take hk hx hno]
theorem at_none {L : Tx} {c : UInt8} (h : c ∉ L) : (-1 : Int) = atI L c := by
  unfold atI
  rw [if_neg h]
theorem ret_intA {a b : Int} {w : World} (h : a = b) : Ending.returned (.int .i64 a) = .returned (.int .i64 b) ∧ w = w := ⟨by rw [h], rfl⟩
set_option maxHeartbeats 1000000 in
set_option maxRecDepth 100000 in
theorem refAt_any (L : Tx) (c : UInt8) (w : World) (hl : L.length ≤ 1000000) : Calls Tryz.prog 42 #[.string (str L), .int .u8 (c.toNat : Nat)] w fun e w' => e = .returned (.int .i64 (atI L c)) ∧ w = w' := by
  obtain ⟨n, hn⟩ : ∃ n, L.length = n := ⟨_, rfl⟩
  rw [hn] at hl
  have hsz : (str L).size = n := hn
  have HN := Lib.hid hn
  have HG : Hid (∀ k, (hk : k < n) → ∃ x : UInt8, (∃ h : k < L.length, L[k] = x) ∧ (str L)[k]'(by rw [hsz]; exact hk) = x) := fun k hk => by
    have hk' : k < L.length := by rw [hn]; exact hk
    exact ⟨L[k], ⟨hk', rfl⟩, str_at L k hk'⟩
  generalize str L = S at *
  clear hn
  go_enter Tryz.func42, Tryz.ntmps42
  go_wp2_with fail
  go_loopw [5] (fun i wr => ∃ k : Nat, i = .int .i64 k ∧ k ≤ n ∧ c ∉ L.take k ∧ wr = w) (fun i _ => n - (intOf i).toNat)
  case atStart => exact ⟨0, rfl, Nat.zero_le _, by simp, rfl⟩
  case round =>
    obtain ⟨k, rfl, hk, hno, rfl⟩ := hrel
    have HNo := Lib.hid hno
    clear hno
    rcases Nat.lt_or_ge k n with hlt | hge
    · have q0 : (0 : Int) ≤ k := by omega
      have q1 : (k : Int) < n := by omega
      obtain ⟨x, hx, hat⟩ := HG.out k hlt
      have HX := Lib.hid hx
      by_cases hxc : x = c
      · have HA : Hid ((k : Int) = atI L c) := by
          obtain ⟨h1, h2⟩ := hx
          exact at_found h1 (by rw [h2, hxc]) HNo.out
        subst hxc
        clear hx
        go_wp2_with fail
        go_ret
        exact ret_intA HA.out
      · have e1 : ((x.toNat : Int) == c.toNat) = false := by
          rw [beq_eq_false_iff_ne]
          intro h
          exact hxc (UInt8.toNat_inj.1 (by omega))
        have HT : Hid (c ∉ L.take (k + 1)) := by
          obtain ⟨h1, h2⟩ := hx
          unfold Hid
          rw [List.take_succ_eq_append_getElem h1, h2]
          intro h
          rcases List.mem_append.1 h with h | h
          · exact HNo.out h
          · exact hxc (List.mem_singleton.1 h).symm
        clear hx hxc
        go_wp2_with fail
        exact ⟨⟨k + 1, by go_num, hlt, HT.out, trivial⟩, by simp [intOf]; omega⟩
    · obtain rfl : k = n := by omega
      have q1 : ¬ ((k : Int) < k) := by omega
      have HA : Hid ((-1 : Int) = atI L c) := at_none (by have := HNo.out; rwa [List.take_of_length_le (by rw [HN.out]; exact Nat.le_refl _)] at this)
      go_wp2_with fail
      go_ret
      exact ret_intA HA.out
theorem ret_boolA {a b : Bool} {w : World} (h : a = b) : Ending.returned (.bool a) = .returned (.bool b) ∧ w = w := ⟨by rw [h], rfl⟩
theorem may_all {L : Tx} (h : okTo L L.length) : decide (L.length ≤ 16) = mayT L := by
  by_cases h16 : L.length ≤ 16
  · rw [may_ok h16 h, decide_eq_true h16]
  · rw [may_long (by omega), decide_eq_false h16]
theorem ok_nil (L : Tx) : okTo L 0 := ⟨rfl, rfl⟩
set_option maxHeartbeats 1000000 in
set_option maxRecDepth 100000 in
theorem refMay_any (L : Tx) (w : World) (hl : L.length ≤ 1000000) : Calls Tryz.prog 41 #[.string (str L)] w fun e w' => e = .returned (.bool (mayT L)) ∧ w = w' := by
  obtain ⟨R, hR⟩ : ∃ R, mayT L = R := ⟨_, rfl⟩
  rw [hR]
  obtain ⟨n, hn⟩ : ∃ n, L.length = n := ⟨_, rfl⟩
  rw [hn] at hl
  have hsz : (str L).size = n := hn
  have HG : Hid (∀ k, (hk : k < n) → okTo L k → ∃ x : UInt8, (str L)[k]'(by rw [hsz]; exact hk) = x ∧ (sml x = false → R = false) ∧ (atI L x ≠ k → R = false) ∧ (sml x = true → atI L x = k → okTo L (k + 1))) := fun k hk ho => by
    have hk' : k < L.length := by rw [hn]; exact hk
    have hin : L[k] ∈ L.take k → (L.take k).contains L[k] = true := fun h => List.contains_iff_mem.2 h
    refine ⟨L[k], str_at L k hk', fun h => by rw [← hR]; exact may_not hk' h, fun h => ?_, fun h1 h2 => ?_⟩
    · by_cases hm : L[k] ∈ L.take k
      · rw [← hR]; exact may_dup hk' (hin hm)
      · exact absurd (at_found hk' rfl hm).symm h
    · refine ok_next hk' ho h1 ?_
      cases hc : (L.take k).contains L[k]
      · rfl
      · exfalso
        obtain ⟨j, hj, hjx⟩ := List.getElem_of_mem (List.contains_iff_mem.1 hc)
        rw [List.length_take] at hj
        have hm : L[k] ∈ L := List.getElem_mem hk'
        unfold atI at h2
        rw [if_pos hm] at h2
        have : ∀ (L : Tx) (j : Nat) (c : UInt8), (hj : j < L.length) → L[j] = c → idxT L c ≤ j := by
          intro L
          induction L with
          | nil => intro j c hj; simp at hj
          | cons d L ih =>
            intro j c hj hx
            rw [idxT]
            split
            · omega
            · rename_i hd
              cases j with
              | zero => exact absurd hx hd
              | succ j => have := ih j c (by simpa using hj) hx; omega
        have h3 := this L j L[k] (by omega) (by rw [← hjx, List.getElem_take])
        omega
  have HE : Hid (okTo L n → decide ((n : Int) ≤ 16) = R) := fun h => by
    rw [← hR, ← may_all (by rw [hn]; exact h), hn]
    by_cases h16 : n ≤ 16
    · rw [decide_eq_true h16, decide_eq_true (by omega)]
    · rw [decide_eq_false h16, decide_eq_false (by omega)]
  have HAt := Lib.hid (fun c W => refAt_any L c W (by omega))
  have HO := Lib.hid (ok_nil L)
  generalize str L = S at *
  clear hn hR
  go_enter Tryz.func41, Tryz.ntmps41
  go_wp2_with fail
  go_loopw [3] (fun i wr => ∃ k : Nat, i = .int .i64 k ∧ k ≤ n ∧ okTo L k ∧ wr = w) (fun i _ => n - (intOf i).toNat)
  case atStart => exact ⟨0, rfl, Nat.zero_le _, HO.out, rfl⟩
  case round =>
    obtain ⟨k, rfl, hk, ho, rfl⟩ := hrel
    rcases Nat.lt_or_ge k n with hlt | hge
    · have q0 : (0 : Int) ≤ k := by omega
      have q1 : (k : Int) < n := by omega
      obtain ⟨x, hat, r1, r2, r3⟩ := HG.out k hlt ho
      have HX := Lib.hid (And.intro r1 (And.intro r2 r3))
      clear r1 r2 r3 ho
      rcases sml_int x with ⟨s1, s2, s3⟩ | ⟨s1, s2⟩
      · have e1 : ¬ ((x.toNat : Int) < 97) := by omega
        have e2 : ¬ ((122 : Int) < x.toNat) := by omega
        have HA := Lib.hid (HAt.out x wr)
        clear s2 s3
        by_cases hak : atI L x = k
        · have HN := Lib.hid (HX.out.2.2 s1 hak)
          rw [hak] at HA
          clear s1 hak
          go_wp2_with fail
          with_reducible refine HA.out.mono ?_
          rintro e w' ⟨rfl, rfl⟩
          go_wp2_with fail
          exact ⟨⟨k + 1, by go_num, hlt, HN.out, trivial⟩, by simp [intOf]; omega⟩
        · have HR : Hid (false = R) := (HX.out.2.1 hak).symm
          have e3 : (atI L x == (k : Int)) = false := beq_eq_false_iff_ne.2 hak
          generalize atI L x = I at *
          clear s1
          go_wp2_with fail
          with_reducible refine HA.out.mono ?_
          rintro e w' ⟨rfl, rfl⟩
          go_wp2_with fail
          go_ret
          exact ret_boolA HR.out
      · have HR : Hid (false = R) := (HX.out.1 s1).symm
        clear s1
        rcases s2 with s2 | s2
        · go_wp2_with fail
          go_ret
          exact ret_boolA HR.out
        · have e1 : ¬ ((x.toNat : Int) < 97) := by omega
          go_wp2_with fail
          go_ret
          exact ret_boolA HR.out
    · obtain rfl : k = n := by omega
      have q1 : ¬ ((k : Int) < k) := by omega
      have HR := Lib.hid (HE.out ho)
      clear ho
      go_wp2_with fail
      go_ret
      exact ret_boolA HR.out
end Go.Proofs.YtencapplbedcmaaGreatDoor

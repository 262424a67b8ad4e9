/- Contracts: the document's blank, its begin of a block. -/
import Derived.Test.YtbeehedppofpnaaGreatDoorBkTx
import Derived.Test.YtbeehedppofpnaaGreatDoorBkB
import Derived.Test.YtbeehedppofpnaaGreatDoorLxRL
namespace Go.Proofs.YtbeehedppofpnaaGreatDoor
open Go.RowKit

theorem refBlank9_any (c : UInt8) (w : World) : Calls Tryz.prog 22 #[.int .u8 (c.toNat : Int)] w fun e w' => e = .returned (.bool (blk c)) ∧ w = w' := by
  have HB := Lib.hid (blk_int c)
  generalize blk c = B at *
  generalize (c.toNat : Int) = x at *
  go_enter Tryz.func22, Tryz.ntmps22
  go_wp2_with fail
  all_goals
    go_ret
    exact ⟨ret_bool8 (by rw [HB.out] <;> simp_all), rfl⟩
/-- What head answers. -/
def HdP (h : Option Tx) (w : World) (e : Ending) (w' : World) : Prop := e = .returned (.tuple #[.string (str (h.getD [])), .bool h.isSome]) ∧ w = w'
theorem hdP_none {w : World} {h : Option Tx} (hh : h = none) : HdP h w (.returned (.tuple #[.string ⟨#[]⟩, .bool false])) w := by
  subst hh
  exact ⟨rfl, rfl⟩
theorem u8_eq123 (x : UInt8) : (((x.toNat : Int)) == 123) = (x == 123) := by
  rw [Bool.eq_iff_iff]
  simp only [beq_iff_eq]
  exact ⟨fun e => UInt8.toNat_inj.1 (by have : (123 : UInt8).toNat = 123 := rfl; omega), fun e => by rw [e]; rfl⟩
set_option maxHeartbeats 2000000 in
set_option maxRecDepth 100000 in
theorem refHead_any (t : Tx) (w : World) (hl : t.length ≤ 100000) : Calls Tryz.prog 20 #[.string (str t)] w (HdP (headT t) w) := by
  obtain ⟨n, hn⟩ : ∃ n, t.length = n := ⟨_, rfl⟩
  have hs : (str t).size = n := hn
  by_cases h9 : n < 9
  · have HH : Hid (headT t = none) := by
      unfold Hid headT
      rw [if_neg fun h => by have := h.1; omega]
    have d : (n : Int) < 9 := by omega
    generalize headT t = R at *
    generalize str t = S at *
    clear hn hl h9
    go_enter Tryz.func20, Tryz.ntmps20
    go_wp2_with fail
    go_ret2
    exact hdP_none HH.out
  · obtain ⟨m, rfl⟩ : ∃ m, n = m + 1 := ⟨n - 1, by omega⟩
    have d : ¬ ((m : Int) + 1 < 9) := by omega
    have hm8 : 8 ≤ m := by omega
    have hm6 : m ≤ 100000 := by omega
    obtain ⟨x, r, e1, _, _, e3, hsx, hx, _⟩ := at_facts t (m + 1) 6 hn (by omega)
    obtain ⟨y, r2, f1, f2, _, f3, hsy, hy, _⟩ := at_facts t (m + 1) m hn (by omega)
    obtain rfl := e3
    obtain rfl := f3
    have hr2 : r2 = [] := by rw [← f2]; exact List.drop_eq_nil_of_le (by omega)
    subst hr2
    have hlast : t.getLast? = some y := by
      have h1 : t = t.take m ++ [y] := by rw [← f1, List.take_append_drop]
      rw [h1, List.getLast?_concat]
    have hc6 : (str t).extract 0 6 = str (t.take 6) := by rw [str_cut]; simp
    have hrun6 := fun W => slice_to (str t) (str (t.take 6)) 6 (m + 1) hs (by omega) (by omega) hc6 W
    have hcm : (str t).extract 6 m = str ((t.drop 6).dropLast) := by
      rw [str_cut, List.dropLast_eq_take, List.length_drop, hn]
      congr 2
    have hrunm : ∀ W : World, (Instr.slice 9 (.string (str t)) (some (.int .i64 6)) (some (.int .i64 (m : Int))) none).run Tryz.prog W = .ok (.string (str ((t.drop 6).dropLast))) W := fun W => by
      have := run_slice_string (P := Tryz.prog) (w := W) 9 (str t) .i64 .i64 6 (m : Int) Tryz.underlying9 (by omega) (by omega) (by rw [hs]; omega)
      rw [this, show (6 : Int).toNat = 6 from rfl, show ((m : Int)).toNat = m by omega, hcm]
    have HT := Lib.hid (fun W => refTrim_any ((t.drop 6).dropLast) W (by rw [List.length_dropLast, List.length_drop]; omega))
    have HB := Lib.hid (fun W => refBlank9_any x W)
    have HD : Hid (headT t = if t.take 6 = defineT ∧ blk x = true ∧ y = 123 then (if trim ((t.drop 6).dropLast) = [] then none else some (trim ((t.drop 6).dropLast))) else none) := by
      unfold Hid headT
      have e : (9 ≤ t.length ∧ t.take 6 = defineT ∧ (t.drop 6).head?.any blk = true ∧ t.getLast? = some 123) ↔ (t.take 6 = defineT ∧ blk x = true ∧ y = 123) := by
        rw [e1, hlast, hn]
        simp
        omega
      by_cases h : t.take 6 = defineT ∧ blk x = true ∧ y = 123
      · rw [if_pos h, if_pos (e.2 h)]
      · rw [if_neg h, if_neg fun h' => h (e.1 h')]
    have hd : ((str (t.take 6)).toList == [100, 101, 102, 105, 110, 101]) = (t.take 6 == defineT) := by rw [str_toList]; rfl
    have hy3 := u8_eq123 y
    obtain ⟨K, hK⟩ : ∃ K, trim ((t.drop 6).dropLast) = K := ⟨_, rfl⟩
    rw [hK] at HT HD
    obtain ⟨DL, hDL⟩ : ∃ x, (t.drop 6).dropLast = x := ⟨_, rfl⟩
    obtain ⟨T6, hT6⟩ : ∃ x, t.take 6 = x := ⟨_, rfl⟩
    obtain ⟨R, hR⟩ : ∃ x, headT t = x := ⟨_, rfl⟩
    rw [hDL] at HT hrunm
    rw [hT6] at HD hd hrun6
    rw [hR] at HD ⊢
    have h6 : 6 < m + 1 := by omega
    obtain ⟨S, hSe, hsS, hxS, hyS, hrun6, hrunm⟩ : ∃ S, str t = S ∧ ∃ hs : S.size = m + 1, S[6]'(hs ▸ h6) = x ∧ S[m]'(hs ▸ Nat.lt_succ_self m) = y ∧ (∀ W, (Instr.slice 9 (.string S) none (some (.int .i64 ((6 : Nat) : Int))) none).run Tryz.prog W = .ok (.string (str T6)) W) ∧ (∀ W, (Instr.slice 9 (.string S) (some (.int .i64 6)) (some (.int .i64 (m : Int))) none).run Tryz.prog W = .ok (.string (str DL)) W) := ⟨str t, rfl, hs, hx, hy, hrun6, hrunm⟩
    have hrun6' : ∀ W, (Instr.slice 9 (.string S) none (some (.int .i64 6)) none).run Tryz.prog W = .ok (.string (str T6)) W := hrun6
    rw [hSe]
    clear e1 f1 f2 hn hlast hc6 hcm hl h9 hK hDL hT6 hR hSe hs hsx hsy hx hy
    by_cases h1 : T6 = defineT
    · have hd1 : ((str T6).toList == [100, 101, 102, 105, 110, 101]) = true := by rw [hd]; simpa using h1
      have hd2 : (str T6).toList = [100, 101, 102, 105, 110, 101] := by simpa using hd1
      generalize str T6 = D6 at *
      cases hb : blk x
      · rw [hb] at HB
        have HR : Hid (R = none) := by
          unfold Hid
          rw [HD.out, if_neg]
          rintro ⟨_, h, _⟩
          rw [hb] at h
          cases h
        clear HD hb h1 hd
        go_enter Tryz.func20, Tryz.ntmps20
        go_wp2_with fail
        refine (HB.out _).mono ?_
        rintro e w' ⟨rfl, rfl⟩
        go_wp2_with fail
        go_ret2
        exact hdP_none HR.out
      · rw [hb] at HB
        by_cases hy1 : y = 123
        · have HR : Hid (R = if K = [] then none else some K) := by
            unfold Hid
            rw [HD.out, if_pos ⟨h1, hb, hy1⟩]
          have hyb : ((y.toNat : Int) == 123) = true := by rw [hy3]; simpa using hy1
          have hye : (y.toNat : Int) = 123 := by simpa using hyb
          clear HD hb h1 hd hy1 hy3
          cases hKe : K.isEmpty
          · have hKn : K ≠ [] := fun h => by rw [h] at hKe; cases hKe
            rw [if_neg hKn] at HR
            have hE := str_ne8 hKe
            have HKK : Hid (Ending.returned (.tuple #[.string (str K), .bool true]) = .returned (.tuple #[.string (str ((some K).getD [])), .bool (some K).isSome])) := rfl
            rw [← HR.out] at HKK
            generalize str K = Z at *
            clear hKe hKn
            go_enter Tryz.func20, Tryz.ntmps20
            go_wp2_with fail
            refine (HB.out _).mono ?_
            rintro e w' ⟨rfl, rfl⟩
            go_wp2_with fail
            refine (HT.out _).mono ?_
            rintro e w' ⟨rfl, rfl⟩
            go_wp2_with fail
            go_ret2
            exact ⟨HKK.out, rfl⟩
          · have hKn : K = [] := (isEmpty_iff8 _).1 hKe
            rw [if_pos hKn] at HR
            rw [hKn] at HT
            have e0 : str [] = { data := #[] } := rfl
            rw [e0] at HT
            clear hKe hKn e0
            go_enter Tryz.func20, Tryz.ntmps20
            go_wp2_with fail
            refine (HB.out _).mono ?_
            rintro e w' ⟨rfl, rfl⟩
            go_wp2_with fail
            refine (HT.out _).mono ?_
            rintro e w' ⟨rfl, rfl⟩
            go_wp2_with fail
            go_ret2
            exact hdP_none HR.out
        · have HR : Hid (R = none) := by
            unfold Hid
            rw [HD.out, if_neg]
            rintro ⟨_, _, h⟩
            exact hy1 h
          have hyb : ((y.toNat : Int) == 123) = false := by rw [hy3]; simpa using hy1
          have hye : ¬ (y.toNat : Int) = 123 := by simpa using hyb
          clear HD hb h1 hd hy1 hy3
          go_enter Tryz.func20, Tryz.ntmps20
          go_wp2_with fail
          refine (HB.out _).mono ?_
          rintro e w' ⟨rfl, rfl⟩
          go_wp2_with fail
          go_ret2
          exact hdP_none HR.out
    · have hd1 : ((str T6).toList == [100, 101, 102, 105, 110, 101]) = false := by rw [hd]; simpa using h1
      have hd2 : ¬ (str T6).toList = [100, 101, 102, 105, 110, 101] := by simpa using hd1
      generalize str T6 = D6 at *
      have HR : Hid (R = none) := by
        unfold Hid
        rw [HD.out, if_neg]
        rintro ⟨h, _⟩
        exact h1 h
      clear HD h1 hd
      go_enter Tryz.func20, Tryz.ntmps20
      go_wp2_with fail
      go_ret2
      exact hdP_none HR.out
end Go.Proofs.YtbeehedppofpnaaGreatDoor

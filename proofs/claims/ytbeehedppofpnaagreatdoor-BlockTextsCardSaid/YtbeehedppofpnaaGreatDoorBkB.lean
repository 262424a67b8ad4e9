/- Contracts: a line parted at its first blanks; the kind that a begin tells. -/
import Derived.Test.YtbeehedppofpnaaGreatDoorBkTx
import Derived.Test.YtbeehedppofpnaaGreatDoorLxW
namespace Go.Proofs.YtbeehedppofpnaaGreatDoor
open Go.RowKit

theorem hasSuffix_one (x : UInt8) (l : Tx) : Lib.hasSuffix l [x] = (l.getLast? == some x) := by
  rcases List.eq_nil_or_concat l with rfl | ⟨t, y, rfl⟩
  · rfl
  · unfold Lib.hasSuffix
    rw [List.concat_eq_append, List.getLast?_concat, Bool.eq_iff_iff, List.isSuffixOf_iff_suffix, beq_iff_eq]
    constructor
    · rintro ⟨u, hu⟩
      exact congrArg some ((List.append_inj' hu rfl).2 |> fun h => (List.cons.inj h).1.symm)
    · intro h
      injection h with h
      subst h
      exact ⟨t, rfl⟩
theorem trimSuffix_one (x : UInt8) (l : Tx) : Lib.trimSuffix l [x] = if l.getLast? == some x then l.dropLast else l := by
  unfold Lib.trimSuffix
  rw [hasSuffix_one, List.dropLast_eq_take]
  rfl
theorem libSufX_any (x : UInt8) (l : Tx) (p : ByteArray) (w : World) (hp : p = str [x]) (hs : l.length ≤ 1000000) :
    Calls Tryz.prog 54 #[.string (str l), .string p] w fun e w' => e = .returned (.tuple #[.string (str (if l.getLast? == some x then l.dropLast else l)), .bool (l.getLast? == some x)]) ∧ w = w' := by
  subst hp
  refine (show Calls Tryz.prog 54 #[.string (str l), .string (str [x])] w _ from Any.strings_CutSuffix Tryz.cutSufL (str l) (str [x]) w (by rw [str_size]; omega)).mono ?_
  rintro e w' ⟨rfl, rfl⟩
  refine ⟨?_, rfl⟩
  show Ending.returned (.tuple #[.string (str (Lib.trimSuffix l [x])), .bool (Lib.hasSuffix l [x])]) = _
  rw [trimSuffix_one, hasSuffix_one]
theorem slice_from (S D : ByteArray) (k n : Nat) (hs : S.size = n) (hk : k ≤ n) (_ : n ≤ 4611686018427387904) (hc : S.extract k n = D) (W : World) :
    (Instr.slice 9 (.string S) (some (.int .i64 (k : Int))) none none).run Tryz.prog W = .ok (.string D) W := by
  have h := run_slice_string_l (P := Tryz.prog) (w := W) (t := 9) (s := S) (ht := Tryz.underlying9) .i64 (k : Int) (by omega) (by rw [hs]; omega)
  rw [show ((k : Int)).toNat = k by omega, hs, hc] at h
  exact h
set_option maxHeartbeats 1000000 in
set_option maxRecDepth 100000 in
theorem cut_any (t : Tx) (w : World) (ht : Solid t) : Calls Tryz.prog 60 #[.string (str t)] w fun e w' => e = .returned (.tuple #[.string (str (fst9 t)), .string (str (trim (snd9 t)))]) ∧ Below w.heap.size w w' := by
  have HW := Lib.hid (fun W => words_any t W (by have := ht.2.2; omega))
  have HT := Lib.hid (fun W => trim_any (snd9 t) W (by have := ht.2.2; have := snd_len t; omega))
  obtain ⟨r, hr⟩ := wds_fst ht
  rw [hr] at HW
  obtain ⟨n, hn⟩ : ∃ n, t.length = n := ⟨_, rfl⟩
  obtain ⟨k, hk⟩ : ∃ k, (fst9 t).length = k := ⟨_, rfl⟩
  have hkn : k ≤ n := by rw [← hk, ← hn]; exact fst_len t
  have hn4 : n ≤ 4096 := by rw [← hn]; exact ht.2.2
  have hS : (str t).size = n := hn
  have hA : (str (fst9 t)).size = k := hk
  have hx : (str t).extract k n = str (snd9 t) := by rw [← hk, ← hn, str_cut, snd_drop, List.take_of_length_le]; rw [← snd_drop, List.length_drop]; exact Nat.le_refl _
  have hrun := fun W => slice_from (str t) (str (snd9 t)) k n hS hkn (by omega) hx W
  obtain ⟨V, hV⟩ : ∃ V, fst9 t = V := ⟨_, rfl⟩
  rw [hV] at HW hA ⊢
  generalize str (trim (snd9 t)) = Z at *
  generalize str (snd9 t) = D at *
  generalize str t = S at *
  have HV : Hid (txC V = .string (str V)) := rfl
  obtain ⟨F, hF⟩ : ∃ F, str V = F := ⟨_, rfl⟩
  rw [hF] at HV hA ⊢
  clear hr hk hn hx ht hV hF
  go_enter Tryz.func60, Tryz.ntmps60
  go_wp2_with fail
  refine (HW.out _).mono ?_
  rintro e w1 ⟨v, rfl, ⟨A, c, rfl, hc1, hc2, hrd⟩, hb⟩
  obtain ⟨m, hm⟩ : ∃ m, (V :: r).length = m + 1 := ⟨_, rfl⟩
  obtain ⟨ad, rfl, hcell⟩ := Rd.at_ (k := 0) hrd (by simp)
  rw [List.getElem_map, List.getElem_cons_zero, HV.out] at hcell
  have hcell' : w1.cell? ad = some (.string F) := by
    have : ad.add 0 = ad := by cases ad; simp [Addr.add]
    rw [this] at hcell
    exact hcell
  rw [hm] at hc1 ⊢
  have HB := Lib.hid hb
  clear hb hrd hm hcell
  go_wp2_with fail
  refine (HT.out _).mono ?_
  rintro e w2 ⟨rfl, hb⟩
  have HB2 := Lib.hid hb
  clear hb
  go_wp2_with fail
  go_ret2
  exact ⟨rfl, HB.out.trans (HB2.out.mono HB.out.size)⟩
set_option maxHeartbeats 1000000 in
set_option maxRecDepth 100000 in
theorem kindOf_any (t : Tx) (w : World) (ht : Solid t) : Calls Tryz.prog 59 #[.string (str t)] w fun e w' => e = .returned (.string (str (kindP t))) ∧ Below w.heap.size w w' := by
  have hl : (trim (snd9 t)).length ≤ 4096 := by have := ht.2.2; have := snd_len t; have := trim_len (snd9 t); omega
  have HC := Lib.hid (fun W => cut_any t W ht)
  have HX := Lib.hid (fun W p hp => libSufX_any 123 (trim (snd9 t)) p W hp (by omega))
  have HK : Hid (kindP t = if fst9 t = defineT ∧ (trim (snd9 t)).getLast? = some 123 then trim ((trim (snd9 t)).dropLast) else []) := rfl
  have e0 : str [] = { data := #[] } := rfl
  have hd : ((str (fst9 t)).toList == [100, 101, 102, 105, 110, 101]) = (fst9 t == defineT) := by rw [str_toList]; rfl
  obtain ⟨K, hK⟩ : ∃ K, kindP t = K := ⟨_, rfl⟩
  rw [hK] at HK ⊢
  clear hK ht
  obtain ⟨F, hF⟩ : ∃ F, fst9 t = F := ⟨_, rfl⟩
  rw [hF] at HC HK hd
  obtain ⟨R, hR⟩ : ∃ R, trim (snd9 t) = R := ⟨_, rfl⟩
  rw [hR] at HC HX HK hl
  clear hF hR
  generalize str t = S at *
  by_cases h1 : F = defineT
  · have hd' : ((str F).toList == [100, 101, 102, 105, 110, 101]) = true := by rw [hd]; simpa using h1
    have hd2 : (str F).toList = [100, 101, 102, 105, 110, 101] := by simpa using hd'
    by_cases h2 : R.getLast? = some 123
    · have hb : (R.getLast? == some 123) = true := by simpa using h2
      rw [hb, if_pos rfl] at HX
      rw [if_pos ⟨h1, h2⟩] at HK
      have HT := Lib.hid (fun W => trim_any R.dropLast W (by rw [List.length_dropLast]; omega))
      rw [← HK.out] at HT
      generalize str F = A at *
      generalize str R = B at *
      generalize str R.dropLast = D at *
      generalize str K = Z at *
      clear h1 h2 hb hd hl
      go_enter Tryz.func59, Tryz.ntmps59
      go_wp2_with fail
      refine (HC.out _).mono ?_
      rintro e w1 ⟨rfl, hb⟩
      have HB := Lib.hid hb
      clear hb
      go_wp2_with fail
      refine (HX.out _ _ rfl).mono ?_
      rintro e w2 ⟨rfl, rfl⟩
      go_wp2_with fail
      refine (HT.out _).mono ?_
      rintro e w2 ⟨rfl, hb⟩
      have HB2 := Lib.hid hb
      clear hb
      go_wp2_with fail
      go_ret
      exact ⟨rfl, HB.out.trans (HB2.out.mono HB.out.size)⟩
    · have hb : (R.getLast? == some 123) = false := by simpa using h2
      rw [hb, if_neg (by simp)] at HX
      rw [if_neg (fun h => h2 h.2)] at HK
      have HZ : Hid (str [] = str K) := by unfold Hid; rw [HK.out]
      rw [e0] at HZ
      generalize str F = A at *
      generalize str R = B at *
      generalize str K = Z at *
      clear h1 h2 hb hd hl
      go_enter Tryz.func59, Tryz.ntmps59
      go_wp2_with fail
      refine (HC.out _).mono ?_
      rintro e w1 ⟨rfl, hb⟩
      have HB := Lib.hid hb
      clear hb
      go_wp2_with fail
      refine (HX.out _ _ rfl).mono ?_
      rintro e w2 ⟨rfl, rfl⟩
      go_wp2_with fail
      go_ret
      exact ⟨ret_str8 HZ.out, HB.out⟩
  · have hd' : ((str F).toList == [100, 101, 102, 105, 110, 101]) = false := by rw [hd]; simpa using h1
    have hd2 : ¬ (str F).toList = [100, 101, 102, 105, 110, 101] := by simpa using hd'
    rw [if_neg (fun h => h1 h.1)] at HK
    have HZ : Hid (str [] = str K) := by unfold Hid; rw [HK.out]
    rw [e0] at HZ
    generalize str (if (R.getLast? == some 123) = true then R.dropLast else R) = D at *
    generalize (R.getLast? == some 123) = b at *
    generalize str F = A at *
    generalize str R = B at *
    generalize str K = Z at *
    clear h1 hd hl
    go_enter Tryz.func59, Tryz.ntmps59
    go_wp2_with fail
    refine (HC.out _).mono ?_
    rintro e w1 ⟨rfl, hb⟩
    have HB := Lib.hid hb
    clear hb
    go_wp2_with fail
    refine (HX.out _ _ rfl).mono ?_
    rintro e w2 ⟨rfl, rfl⟩
    go_wp2_with fail
    go_ret
    exact ⟨ret_str8 HZ.out, HB.out⟩
end Go.Proofs.YtbeehedppofpnaaGreatDoor

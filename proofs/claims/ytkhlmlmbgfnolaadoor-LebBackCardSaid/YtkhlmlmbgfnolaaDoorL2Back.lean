/- LebBack's walk. -/
import Derived.Test.YtkhlmlmbgfnolaaDoorLebT
import Derived.Lib.ConvBytes
namespace Go.Proofs.YtkhlmlmbgfnolaaDoor
open Go.RowKit

/-- int64s as values. -/
def is64 (l : List Int) : List Value := l.map (.int .i64 ·)
theorem is64_get (l : List Int) (k : Nat) (h : k < l.length) : (is64 l)[k]'(by simp [is64]; exact h) = .int .i64 l[k] := by simp [is64]
theorem Rd.int64 {w : World} {A : Option Addr} {l : List Int} {k : Nat} (h : Rd w A (is64 l)) (hk : k < l.length) : ∃ ad, A = some ad ∧ w.cell? (ad.add k) = some (.int .i64 l[k]) := by
  obtain ⟨ad, e, hc⟩ := h.at_ (k := k) (by simp [is64]; exact hk)
  exact ⟨ad, e, by rw [hc, is64_get l k hk]⟩
/-- The bytes of numbers with a sign. -/
def encs : List Int → List UInt8
  | [] => []
  | z :: l => dig (enc z) ++ encs l
theorem encs_snoc (l : List Int) (z : Int) : encs (l ++ [z]) = encs l ++ dig (enc z) := by
  induction l with
  | nil => simp [encs]
  | cons y l ih => rw [List.cons_append, encs, encs, ih, List.append_assoc]
theorem encs_len (l : List Int) (h : ∀ z ∈ l, -9223372036854775808 ≤ z ∧ z ≤ 9223372036854775807) : (encs l).length ≤ 10 * l.length := by
  induction l with
  | nil => simp [encs]
  | cons y l ih =>
    rw [encs, List.length_append, List.length_cons]
    have h1 := ih fun z hz => h z (List.mem_cons_of_mem _ hz)
    have h2 := h y List.mem_cons_self
    have h3 := dig_len10 (enc_lt y h2.1 h2.2)
    omega
theorem str_of_bytes (s : ByteArray) : ∃ l, s = str l := ⟨s.data.toList, by cases s; simp [str]⟩
theorem str_app (l m : List UInt8) : str l ++ str m = str (l ++ m) := by
  apply ByteArray.ext
  simp [str, ByteArray.data_append]
/-- []byte(s), s any text. -/
theorem conv_bytes {P : Program} (w : World) (src dst e : TypeId) (l : List UInt8) (n : Nat) (hn : l.length = n) (hs : P.underlying src = some .string) (hd : P.underlying dst = some (.slice e)) (he : P.underlying e = some (.int .u8)) :
    ∃ A c W', (convert src dst (.string (str l))).run P w = .ok (.slice A n c) W' ∧ n ≤ c ∧ Rd W' A (bs l) ∧ Below w.heap.size w W' := by
  subst hn
  refine ⟨_, _, _, Lib.run_convert_string_bytes w src dst e (str l) hs hd he, grownCap_ge w l.length 0 e, fun _ => ⟨_, rfl, fun j u hu => ?_⟩, ?_⟩
  · have hj : j < l.length := by
      have := (List.getElem?_eq_some_iff.1 hu).1
      rwa [bs_length] at this
    have h := Lib.bytesWorld_cell w e (str l) j hj
    rw [Addr.add_lit]
    simp only [Nat.zero_add] at h ⊢
    rw [h, ← hu]
    simp [bs, b8, str, hj]
  · exact ⟨rfl, rfl, rfl, by rw [Lib.bytesWorld_size]; omega, fun k hk => Lib.bytesWorld_at_old w e (str l) k hk⟩

theorem tk_nil : tk [] = (4, 0, 0) := rfl
/-- What was put is taken: a text. -/
theorem txt_put (t r : List UInt8) (m : Nat) (hm : t.length = m) (h : m < 18446744073709551616) : txt (dig m ++ (t ++ r)) m = (0, t, r) := by
  have ht := tk_dig m (t ++ r) h
  unfold txt
  rw [if_neg (by omega), ht]
  dsimp only
  rw [if_neg (by simp), if_neg (by omega), if_neg (by rw [List.length_append, List.length_append]; omega), List.drop_left, ← hm, List.take_left, ← List.drop_drop, hm, List.drop_left, ← hm, List.drop_left]
/-- Cut short it ends too soon. -/
theorem txt_cut (t : List UInt8) (m d : Nat) (hm : t.length = m) (hd : (dig m).length = d) (h : m < 18446744073709551616) : txt ((dig m ++ t).take (d + m - 1)) m = (4, [], []) := by
  rcases Nat.eq_zero_or_pos m with rfl | h0
  · have h1 := (dig_one 0).2 (by omega)
    rw [show d + 0 - 1 = 0 by omega, List.take_zero]
    rfl
  · have e : (dig m ++ t).take (d + m - 1) = dig m ++ t.take (m - 1) := by
      rw [List.take_append, List.take_of_length_le (by omega), hd, show d + m - 1 - d = m - 1 by omega]
    have ht := tk_dig m (t.take (m - 1)) h
    rw [e]
    unfold txt
    rw [if_neg (by omega), ht]
    dsimp only
    rw [if_neg (by simp), if_neg (by omega), if_pos (by rw [List.length_append, List.length_take]; omega)]

theorem putText_s (A : Option Addr) (n c sz d : Nat) (l sl : List UInt8) (s : ByteArray) (w : World) (hn : l.length = n) (hr : Rd w A (bs l)) (hl : n ≤ 1000000) (hs : s = str sl) (hsl : sl.length = sz) (hsz : sz ≤ 1000000) (hd : (dig sz).length = d) :
    Calls Tryd.prog 15 #[.slice A n c, .string s] w fun e w' => ∃ A' c', e = .returned (.slice A' (n + d + sz) c') ∧ Rd w' A' (bs (l ++ (dig sz ++ sl))) ∧ n + d + sz ≤ c' ∧ Below w.heap.size w w' := by
  subst hs
  have e1 : (str sl).size = sz := hsl
  refine (putText_n A n c l (str sl) w hn hr hl (by omega)).mono ?_
  rintro e w' ⟨v, rfl, hown, hb⟩
  rw [e1, hd, str_toList, List.append_assoc] at hown
  obtain ⟨A', c', rfl, hc, _, _, hR, _⟩ := owns_form hown
  exact ⟨A', c', rfl, hR, hc, hb⟩

set_option maxRecDepth 100000 in
set_option maxHeartbeats 4000000 in
theorem back_core (Az : Option Addr) (m cz : Nat) (zs : List Int) (s : ByteArray) (sl : List UInt8) (sz : Nat) (Am : Option Addr) (q cm : Nat) (mo : List UInt8) (w : World) (hg : ErrT w)
    (hrz : Rd w Az (is64 zs)) (hm : zs.length = m) (hm2 : m ≤ 200) (hbz : ∀ z ∈ zs, -9223372036854775808 ≤ z ∧ z ≤ 9223372036854775807) (hs : s = str sl) (hsl : sl.length = sz) (hsz : sz ≤ 4000)
    (hrm : Rd w Am (bs mo)) (hq : mo.length = q) (hq4 : q ≤ 4000) :
    Calls Tryd.prog 5 #[.slice Az m cz, .string s, .slice Am q cm] w fun e w' => e = .returned (.bool true) ∧ Below w.heap.size w w' := by
  have HG := Lib.hid hg
  have HRZ := Lib.hid hrz
  have HM := Lib.hid hm
  have HBZ := Lib.hid hbz
  have HS := Lib.hid hs
  have HSL := Lib.hid hsl
  have HRM := Lib.hid hrm
  have HQ := Lib.hid hq
  have hss : s.size = sz := by rw [hs]; exact hsl
  obtain ⟨d, hd⟩ : ∃ d, (dig sz).length = d := ⟨_, rfl⟩
  have hd10 : d ≤ 10 := by rw [← hd]; exact dig_len10 (by omega)
  have hd1 : 0 < d := by rw [← hd]; exact dig_pos sz
  have HD := Lib.hid hd
  have hel : (encs zs).length ≤ 2000 := by have := encs_len zs hbz; omega
  have HEL := Lib.hid hel
  have j1 : ¬ (200 : Int) < (m : Int) := by omega
  have j2 : ¬ (4000 : Int) < (sz : Int) := by omega
  have j3 : ¬ (4000 : Int) < (q : Int) := by omega
  clear hg hrz hm hbz hs hsl hrm hq hd hel
  go_enter Tryd.func5, Tryd.ntmps5
  go_wp2_with fail
  go_loopw [7, 8] (fun b i wr => ∃ (k p c' : Nat) (A' : Option Addr), i = .int .i64 k ∧ k ≤ m ∧ b = .slice A' p c' ∧ p ≤ c' ∧ (encs (zs.take k)).length = p ∧ Rd wr A' (bs (encs (zs.take k))) ∧ Below w.heap.size w wr) (fun _ i _ => m - (intOf i).toNat)
  case atStart => exact ⟨0, 0, 0, none, rfl, Nat.zero_le _, rfl, Nat.le_refl _, rfl, Rd.nil, Below.refl _ _⟩
  case round =>
    obtain ⟨k, p, c', A', rfl, hk, rfl, hpc, hp, hR, hB⟩ := hrel
    have HP := Lib.hid hp
    have HR := Lib.hid hR
    have HB := Lib.hid hB
    have hp10 : p ≤ 2000 := by
      have h := encs_len (zs.take k) fun z hz => HBZ.out z (List.mem_of_mem_take hz)
      rw [hp, List.length_take] at h
      omega
    clear hp hR hB
    rcases Nat.lt_or_ge k m with hkm | hkm
    · have hkz : k < zs.length := by rw [HM.out]; exact hkm
      obtain ⟨az, rfl, hcell⟩ := (HRZ.out.below HB.out).int64 hkz
      have hz := HBZ.out zs[k] (List.getElem_mem hkz)
      have HE : Hid (encs (zs.take (k + 1)) = encs (zs.take k) ++ dig (enc zs[k])) := by
        unfold Hid
        rw [List.take_succ_eq_append_getElem hkz, encs_snoc]
      generalize zs[k] = z at *
      obtain ⟨hz0, hz1⟩ := hz
      have hkm' : (k : Int) < (m : Int) := by omega
      go_wp2_with fail
      refine (putInt_n A' p c' (encs (zs.take k)) z wr HP.out HR.out hz0 hz1 (by omega)).mono ?_
      rintro e w1 ⟨x1, rfl, hown1, hb1⟩
      rw [← HE.out] at hown1
      obtain ⟨A1, c1, rfl, hc1, _, hl1, hR1, _⟩ := owns_form hown1
      have HB1 := Lib.hid (HB.out.trans (hb1.mono HB.out.size))
      have HR1 := Lib.hid hR1
      rw [bs_length] at hl1
      have HL1 := Lib.hid hl1
      clear hown1 hb1 hR1 hl1
      go_wp2_with fail
      go_roundw
      case rel => exact ⟨k + 1, _, c1, A1, by go_num, by omega, rfl, hc1, HL1.out, HR1.out, HB1.out⟩
      case measure => simp [intOf]; omega
    · obtain rfl : k = m := by omega
      have hpz : zs.take k = zs := List.take_of_length_le (by rw [HM.out]; exact Nat.le_refl _)
      rw [hpz] at HP HR
      clear hpz hk hkm
      go_wp2_with fail
      refine (putText_s A' p c' sz d (encs zs) sl s wr HP.out HR.out (by omega) HS.out HSL.out (by omega) HD.out).mono ?_
      rintro e w2 ⟨A2, c2, rfl, hR2, hc2, hb2⟩
      have HB2 := Lib.hid (HB.out.trans (hb2.mono HB.out.size))
      have cv1 := run_conv_str (P := Tryd.prog) Tryd.underlying22 Tryd.underlying5 Tryd.underlying9 (n := p + d + sz) (c := c2) (by rw [List.length_append, List.length_append, HP.out, HD.out, HSL.out]; omega) hR2
      have cv2 := run_conv_str (P := Tryd.prog) Tryd.underlying22 Tryd.underlying5 Tryd.underlying9 (c := cm) HQ.out (HRM.out.below HB2.out)
      have hall := str_app (encs zs ++ (dig sz ++ sl)) mo
      obtain ⟨A3, c3, w3, hrun3, hc3, hR3, hb3⟩ := conv_bytes (P := Tryd.prog) w2 9 22 5 (encs zs ++ (dig sz ++ sl) ++ mo) (p + d + sz + q) (by rw [List.length_append, List.length_append, List.length_append, HP.out, HD.out, HSL.out, HQ.out]; omega) Tryd.underlying9 Tryd.underlying22 Tryd.underlying5
      have hps : ¬ 9223372036854775807 < (str (encs zs ++ (dig sz ++ sl))).size + (str mo).size := by
        have h1 := HP.out
        have h2 := HD.out
        have h3 := HSL.out
        have h4 := HQ.out
        rw [str_size, str_size, List.length_append, List.length_append]
        omega
      have e3 : encs zs ++ (dig sz ++ sl) ++ mo = encs zs ++ (dig sz ++ (sl ++ mo)) := by rw [List.append_assoc, List.append_assoc]
      rw [e3] at hall hrun3 hR3
      have HR3 := Lib.hid hR3
      have HB3 := Lib.hid (HB2.out.trans (hb3.mono HB2.out.size))
      generalize str (encs zs ++ (dig sz ++ sl)) = p1 at *
      generalize str mo = p2 at *
      generalize str (encs zs ++ (dig sz ++ (sl ++ mo))) = p3 at *
      clear hR2 hb2 hR3 hb3 e3 HR
      go_wp2_with fail
      clear hall hrun3 hps cv1 cv2
      obtain ⟨tl, htl⟩ : ∃ tl, dig sz ++ (sl ++ mo) = tl := ⟨_, rfl⟩
      have htx : txt tl sz = (0, sl, mo) := by rw [← htl]; exact txt_put sl mo sz HSL.out (by omega)
      have htll : tl.length = d + (sz + q) := by rw [← htl, List.length_append, List.length_append, HD.out, HSL.out, HQ.out]
      rw [htl] at HR3
      have HTX := Lib.hid htx
      have HTL := Lib.hid htll
      clear htl htx htll
      go_loopw [10, 11] (fun b i wr => ∃ (j p c' : Nat) (A' : Option Addr), i = .int .i64 j ∧ j ≤ k ∧ b = .slice A' p c' ∧ p ≤ c' ∧ (encs (zs.drop j) ++ tl).length = p ∧ p ≤ 100000 ∧ Rd wr A' (bs (encs (zs.drop j) ++ tl)) ∧ Below w.heap.size w wr) (fun _ i _ => k - (intOf i).toNat)
      case atStart => exact ⟨0, _, c3, A3, rfl, Nat.zero_le _, rfl, hc3, by rw [List.drop_zero, List.length_append, HP.out, HTL.out]; omega, by omega, HR3.out, HB3.out⟩
      case round =>
        obtain ⟨j, p', c', A', rfl, hj, rfl, hpc, hp, hp5, hR, hB⟩ := hrel
        clear HP HR3 HB3 HB2 HB
        have HP := Lib.hid hp
        have HR := Lib.hid hR
        have HB := Lib.hid hB
        clear hp hR hB
        rcases Nat.lt_or_ge j k with hjk | hjk
        · have hjz : j < zs.length := by rw [HM.out]; exact hjk
          obtain ⟨az, rfl, hcell⟩ := (HRZ.out.below HB.out).int64 hjz
          have hz := HBZ.out zs[j] (List.getElem_mem hjz)
          have HE : Hid (encs (zs.drop j) ++ tl = dig (enc zs[j]) ++ (encs (zs.drop (j + 1)) ++ tl)) := by
            unfold Hid
            rw [List.drop_eq_getElem_cons hjz, encs, List.append_assoc]
          generalize zs[j] = z at *
          obtain ⟨hz0, hz1⟩ := hz
          have hel := enc_lt z hz0 hz1
          have ht := tk_dig (enc z) (encs (zs.drop (j + 1)) ++ tl) hel
          have hdc := dec_enc z
          obtain ⟨dd, hdd⟩ : ∃ dd, (dig (enc z)).length = dd := ⟨_, rfl⟩
          have HRest : Hid ((encs (zs.drop j) ++ tl).drop dd = encs (zs.drop (j + 1)) ++ tl) := by
            unfold Hid
            rw [HE.out, ← hdd, List.drop_left]
          have hpl : p' = dd + (encs (zs.drop (j + 1)) ++ tl).length := by rw [← HP.out, HE.out, List.length_append, hdd]
          rw [hdd] at ht
          rw [← HE.out] at ht
          have HT := Lib.hid ht
          have HPL : Hid ((encs (zs.drop (j + 1)) ++ tl).length = p' - dd) := by unfold Hid; omega
          have hdp : dd ≤ p' := by omega
          have HDC := Lib.hid hdc
          have hjk' : (j : Int) < (k : Int) := by omega
          have hzz : (z != z) = false := by simp
          clear hpl ht hdd hdc
          go_wp2_with fail
          refine (takeInt_ok A' p' c' (enc z) dd (encs (zs.drop j) ++ tl) wr HP.out HR.out hpc (by omega) HT.out hdp hel).mono ?_
          rintro e w1 ⟨A1, c1, rfl, hR1, hc1, hb1⟩
          rw [HDC.out]
          rw [HRest.out] at hR1
          have HB1 := Lib.hid (HB.out.trans (hb1.mono HB.out.size))
          have HR1 := Lib.hid hR1
          have hcell1 : w1.cell? (az.add j) = some (.int .i64 z) := (World.cell?_of_block (a := az.add j) (hb1.block _ (World.block_lt_of_cell? wr _ hcell))).trans hcell
          clear hb1 hR1 hcell
          go_wp2_with fail
          exact ⟨⟨j + 1, _, c1, A1, by go_num, by omega, rfl, hc1, HPL.out, by omega, HR1.out, HB1.out⟩, by simp [intOf]; omega⟩
        · obtain rfl : j = k := by omega
          have hpz : encs (zs.drop j) ++ tl = tl := by rw [List.drop_of_length_le (by rw [HM.out]; exact Nat.le_refl _)]; rfl
          rw [hpz] at HP HR
          clear hpz hj hjk
          go_wp2_with fail
          refine (takeText_n A' p' c' tl (sz : Int) wr HP.out HR.out hpc (by omega) (by omega) (by omega)).mono ?_
          rintro e w4 ⟨A4, c4, he, hR4, hc4, hb4⟩
          rw [HTX.out] at he hR4
          dsimp only at he hR4
          rw [← HS.out, HQ.out, errV0] at he
          subst he
          have HB4 := Lib.hid (HB.out.trans (hb4.mono HB.out.size))
          have cv1 := run_conv_str (P := Tryd.prog) Tryd.underlying22 Tryd.underlying5 Tryd.underlying9 (c := c4) HQ.out hR4
          have cv2 := run_conv_str (P := Tryd.prog) Tryd.underlying22 Tryd.underlying5 Tryd.underlying9 (c := cm) HQ.out (HRM.out.below HB4.out)
          obtain ⟨pm, hpm⟩ : ∃ pm, str mo = pm := ⟨_, rfl⟩
          rw [hpm] at cv1 cv2
          clear hR4 hb4 hpm
          go_wp2_with fail
          clear cv1 cv2
          refine (putText_s none 0 0 sz d [] sl s w4 rfl Rd.nil (by omega) HS.out HSL.out (by omega) HD.out).mono ?_
          rintro e w5 ⟨A5, c5, rfl, hR5, hc5, hb5⟩
          rw [List.nil_append] at hR5
          obtain ⟨u, hu⟩ : ∃ u, 0 + d + sz = u + 1 := ⟨d + sz - 1, by omega⟩
          rw [hu] at hc5 ⊢
          have htu : txt ((dig sz ++ sl).take u) sz = (4, [], []) := by
            have := txt_cut sl sz d HSL.out HD.out (by omega)
            rw [show d + sz - 1 = u by omega] at this
            exact this
          have HTU := Lib.hid htu
          have hul : ((dig sz ++ sl).take u).length = u := by rw [List.length_take, List.length_append, HD.out, HSL.out]; omega
          have HUL := Lib.hid hul
          have HR5 : Hid (Rd w5 A5 (bs ((dig sz ++ sl).take u))) := by unfold Hid; rw [← bs_take]; exact hR5.take
          have HB5 := Lib.hid (HB4.out.trans (hb5.mono HB4.out.size))
          have i1 : (u : Int) ≤ (c5 : Int) := by omega
          have i2 : u ≤ c5 := by omega
          have i3 : u ≤ 1000000 := by omega
          clear hR5 hb5 htu hul hu
          go_wp2_with fail
          refine (takeText_n A5 u c5 _ (sz : Int) w5 HUL.out HR5.out i2 i3 (by omega) (by omega)).mono ?_
          rintro e w6 ⟨A6, c6, he, _, _, hb6⟩
          rw [HTU.out] at he
          dsimp only at he
          rw [errV4] at he
          subst he
          have HB6 := Lib.hid (HB5.out.trans (hb6.mono HB5.out.size))
          clear hb6
          go_wp2_with fail
          refine (num_err 4 w6 (HG.out.below HB6.out)).mono ?_
          rintro e w7 ⟨rfl, hb7⟩
          have HB7 := Lib.hid (HB6.out.trans (hb7.mono HB6.out.size))
          clear hb7
          go_wp2_with fail
          refine (sure_any w7).mono ?_
          rintro e w8 ⟨rfl, hb8⟩
          have HB8 := Lib.hid (HB7.out.trans (hb8.mono HB7.out.size))
          clear hb8
          go_wp2_with fail
          go_ret
          exact ⟨rfl, HB8.out⟩
theorem back_any (Az : Option Addr) (cz : Nat) (zs : List Int) (s : ByteArray) (Am : Option Addr) (cm : Nat) (mo : List UInt8) (w : World) (hg : ErrT w)
    (hrz : Rd w Az (is64 zs)) (_ : zs.length ≤ cz) (_ : cz ≤ maxLen) (hbz : ∀ z ∈ zs, -9223372036854775808 ≤ z ∧ z ≤ 9223372036854775807) (_ : s.size ≤ maxLen) (hrm : Rd w Am (bs mo)) (_ : mo.length ≤ cm) (_ : cm ≤ maxLen) :
    Calls Tryd.prog 5 #[.slice Az zs.length cz, .string s, .slice Am mo.length cm] w fun e w' => e = .returned (.bool true) ∧ Below w.heap.size w w' := by
  obtain ⟨sl, hs⟩ := str_of_bytes s
  have hsz : s.size = sl.length := by rw [hs]; rfl
  by_cases h : zs.length ≤ 200 ∧ sl.length ≤ 4000 ∧ mo.length ≤ 4000
  · exact back_core Az zs.length cz zs s sl sl.length Am mo.length cm mo w hg hrz rfl h.1 hbz hs rfl h.2.1 hrm rfl h.2.2
  · have HH := Lib.hid h
    clear hg hrz hbz hrm hs h
    generalize sl.length = n2 at *
    generalize zs.length = n1 at *
    generalize mo.length = n3 at *
    have h := HH.out
    rcases Nat.lt_or_ge 200 n1 with h1 | h1
    · have i1 : (200 : Int) < (n1 : Int) := by omega
      clear h
      go_enter Tryd.func5, Tryd.ntmps5
      go_wp2_with fail
      refine (sure_any w).mono ?_
      rintro e w2 ⟨rfl, hb2⟩
      go_wp2_with fail
      go_ret
      exact ⟨rfl, hb2⟩
    · have i1 : ¬ (200 : Int) < (n1 : Int) := by omega
      rcases Nat.lt_or_ge 4000 n2 with h2 | h2
      · have i2 : (4000 : Int) < (n2 : Int) := by omega
        clear h
        go_enter Tryd.func5, Tryd.ntmps5
        go_wp2_with fail
        refine (sure_any w).mono ?_
        rintro e w2 ⟨rfl, hb2⟩
        go_wp2_with fail
        go_ret
        exact ⟨rfl, hb2⟩
      · have i2 : ¬ (4000 : Int) < (n2 : Int) := by omega
        have i3 : (4000 : Int) < (n3 : Int) := by omega
        clear h
        go_enter Tryd.func5, Tryd.ntmps5
        go_wp2_with fail
        refine (sure_any w).mono ?_
        rintro e w2 ⟨rfl, hb2⟩
        go_wp2_with fail
        go_ret
        exact ⟨rfl, hb2⟩
end Go.Proofs.YtkhlmlmbgfnolaaDoor

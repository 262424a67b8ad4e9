/- Contracts: the document's blank, Trim, ends. -/
import Derived.Test.YtbeehedppofpnaaGreatDoorLxMem
namespace Go.Proofs.YtbeehedppofpnaaGreatDoor
open Go.RowKit

theorem blk_int (c : UInt8) : blk c = (((c.toNat : Int) == 32) || ((c.toNat : Int) == 9) || ((c.toNat : Int) == 13)) := by
  have h : ∀ k : UInt8, (((c.toNat : Int)) == ((k.toNat : Nat) : Int)) = (c == k) := fun k => by
    rw [Bool.eq_iff_iff]
    simp only [beq_iff_eq]
    exact ⟨fun e => UInt8.toNat_inj.1 (by omega), fun e => by rw [e]⟩
  have h1 := h 32
  have h2 := h 9
  have h3 := h 13
  unfold blk
  rw [← h1, ← h2, ← h3]
  rfl
theorem ret_bool8 {a b : Bool} (h : a = b) : Ending.returned (.bool a) = .returned (.bool b) := by rw [h]
theorem ret_str8 {a b : ByteArray} (h : a = b) : Ending.returned (.string a) = .returned (.string b) := by rw [h]
theorem refBlank_any (c : UInt8) (w : World) : Calls Tryz.prog 38 #[.int .u8 (c.toNat : Int)] w fun e w' => e = .returned (.bool (blk c)) ∧ w = w' := by
  have HB := Lib.hid (blk_int c)
  generalize blk c = B at *
  generalize (c.toNat : Int) = x at *
  go_enter Tryz.func38, Tryz.ntmps38
  go_wp2_with fail
  all_goals
    go_ret
    exact ⟨ret_bool8 (by rw [HB.out] <;> simp_all), rfl⟩
/-- The byte that a string ends with. -/
theorem last_at (l : Tx) (n : Nat) (hn : l.length = n + 1) : ∃ t x, l = t ++ [x] ∧ t.length = n ∧ goes l = (x == 92) := by
  rcases List.eq_nil_or_concat l with rfl | ⟨t, x, rfl⟩
  · cases hn
  · rw [List.concat_eq_append] at hn ⊢
    exact ⟨t, x, rfl, by simpa using hn, goes_snoc t x⟩
theorem u8_eq92 (x : UInt8) : (((x.toNat : Int)) == 92) = (x == 92) := by
  rw [Bool.eq_iff_iff]
  simp only [beq_iff_eq]
  exact ⟨fun e => UInt8.toNat_inj.1 (by have : (92 : UInt8).toNat = 92 := rfl; omega), fun e => by rw [e]; rfl⟩
set_option maxRecDepth 100000 in
theorem refEnds_any (l : Tx) (w : World) (hl : l.length ≤ 4611686018427387904) : Calls Tryz.prog 36 #[.string (str l)] w fun e w' => e = .returned (.bool (goes l)) ∧ w = w' := by
  obtain ⟨n, hn⟩ : ∃ n, l.length = n := ⟨_, rfl⟩
  have hsz : (str l).size = n := hn
  rw [hn] at hl
  rcases n with _ | n
  · have HG : Hid (goes l = false) := by unfold Hid; rw [List.eq_nil_of_length_eq_zero hn]; rfl
    generalize str l = S at *
    generalize goes l = G at *
    clear hn
    go_enter Tryz.func36, Tryz.ntmps36
    go_wp2_with fail
    go_ret
    exact ⟨ret_bool8 HG.out.symm, rfl⟩
  · obtain ⟨t, x, rfl, ht, hg⟩ := last_at l n hn
    have hx : (str (t ++ [x]))[n]'(by rw [hsz]; omega) = x := by
      rw [str_at _ n (by rw [hn]; omega)]
      subst ht
      simp
    have HG := Lib.hid hg
    have HX := Lib.hid (u8_eq92 x)
    generalize str (t ++ [x]) = S at *
    generalize goes (t ++ [x]) = G at *
    clear hn hg ht
    go_enter Tryz.func36, Tryz.ntmps36
    go_wp2_with fail
    go_ret
    exact ⟨ret_bool8 (by rw [HG.out, ← HX.out]), rfl⟩
def szOf : Value → Nat
  | .string b => b.size
  | _ => 0
/-- A string that begins with x, that ends with x. -/
theorem cons_facts (x : UInt8) (r : Tx) (m : Nat) (h : r.length = m) : ∃ S, str (x :: r) = S ∧ ∃ hs : S.size = m + 1, S[0]'(hs ▸ Nat.succ_pos m) = x ∧ S.extract 1 (m + 1) = str r := by
  subst h
  refine ⟨_, rfl, rfl, rfl, ?_⟩
  rw [str_cut]
  simp
theorem snoc_facts (r : Tx) (x : UInt8) (m : Nat) (h : r.length = m) : ∃ S, str (r ++ [x]) = S ∧ ∃ hs : S.size = m + 1, S[m]'(hs ▸ Nat.lt_succ_self m) = x ∧ S.extract 0 m = str r := by
  have hl : (r ++ [x]).length = m + 1 := by rw [List.length_append, h]; rfl
  refine ⟨_, rfl, hl, ?_, ?_⟩
  · rw [str_at _ m (by rw [hl]; omega)]
    subst h
    simp
  · subst h
    rw [str_cut]
    simp
theorem ldr_cases (t l : Tx) (ht : ldr t = ldr l) : (∃ x r, t = x :: r ∧ blk x = true ∧ ldr r = ldr l) ∨ (t = [] ∧ ldr l = []) ∨ ∃ x r, t = x :: r ∧ blk x = false ∧ ldr l = x :: r := by
  rcases t with _ | ⟨x, r⟩
  · exact .inr (.inl ⟨rfl, ht.symm⟩)
  · cases hb : blk x <;> rw [ldr_cons, hb] at ht
    · exact .inr (.inr ⟨x, r, rfl, hb, ht.symm⟩)
    · exact .inl ⟨x, r, rfl, hb, ht⟩
theorem rdr_cases (t l : Tx) (ht : rdr t = rdr l) : (∃ r x, t = r ++ [x] ∧ blk x = true ∧ rdr r = rdr l) ∨ (t = [] ∧ rdr l = []) ∨ ∃ r x, t = r ++ [x] ∧ blk x = false ∧ rdr l = r ++ [x] := by
  rcases List.eq_nil_or_concat t with rfl | ⟨r, x, rfl⟩
  · exact .inr (.inl ⟨rfl, ht.symm⟩)
  · rw [List.concat_eq_append] at ht ⊢
    cases hb : blk x <;> rw [rdr_snoc, hb] at ht
    · exact .inr (.inr ⟨r, x, rfl, hb, ht.symm⟩)
    · exact .inl ⟨r, x, rfl, hb, ht⟩
set_option maxRecDepth 100000 in
theorem refTrim_any (l : Tx) (w : World) (hl : l.length ≤ 4611686018427387904) : Calls Tryz.prog 23 #[.string (str l)] w fun e w' => e = .returned (.string (str (trim l))) ∧ w = w' := by
  have HT : Hid (trim l = rdr (ldr l)) := rfl
  obtain ⟨N, hN⟩ : ∃ N, l.length = N := ⟨_, rfl⟩
  rw [hN] at hl
  have HN := Lib.hid hN
  clear hN
  obtain ⟨Z, hZ⟩ : ∃ Z, trim l = Z := ⟨_, rfl⟩
  rw [hZ] at HT ⊢
  clear hZ
  go_enter Tryz.func23, Tryz.ntmps23
  go_wp2_with fail
  go_loop [0] (fun v => ∃ t : Tx, v = .string (str t) ∧ ldr t = ldr l ∧ t.length ≤ N) (fun v => szOf v)
  case atStart => exact ⟨l, rfl, rfl, by rw [HN.out]; exact Nat.le_refl _⟩
  case round =>
    obtain ⟨t, rfl, ht, hle⟩ := hrel
    rcases ldr_cases t l ht with ⟨x, r, rfl, hb, hr⟩ | hend
    · have HS := Lib.hid hr
      obtain ⟨m, hm⟩ : ∃ m, r.length = m := ⟨_, rfl⟩
      obtain ⟨S, hS, hsz, hx, hc⟩ := cons_facts x r m hm
      have HC := Lib.hid hc
      have HB := Lib.hid (fun W => refBlank_any x W)
      rw [hb] at HB
      rw [List.length_cons, hm] at hle
      have HM := Lib.hid hm
      rw [hS]
      clear ht hb hm hr hS hc
      go_wp2_with fail
      refine (HB.out _).mono ?_
      rintro e w' ⟨rfl, rfl⟩
      go_wp2_with fail
      go_round
      case rel => exact ⟨r, congrArg Value.string HC.out, HS.out, by rw [HM.out]; omega⟩
      case measure =>
        rw [HC.out]
        show r.length < S.size
        rw [HM.out, hsz]
        omega
    · have HE : Hid (Z = rdr t) := by
        unfold Hid
        rw [HT.out]
        rcases hend with ⟨rfl, h⟩ | ⟨x, r, rfl, _, h⟩ <;> rw [h]
      clear ht
      rcases hend with ⟨rfl, h⟩ | ⟨x, r, rfl, hb, h⟩
      case' inl =>
        have hz : (str []).size = 0 := rfl
        obtain ⟨S, hS⟩ : ∃ S, str [] = S := ⟨_, rfl⟩
        obtain ⟨T, hT⟩ : ∃ T : Tx, T = [] := ⟨_, rfl⟩
        have HS : Hid (S = str T) := by unfold Hid; rw [hT, hS]
        have HL : Hid (T.length ≤ N) := by unfold Hid; rw [hT]; exact Nat.zero_le _
        rw [← hT] at HE
        rw [hS] at hz ⊢
        clear hS h hle hT
        go_wp2_with fail
      case' inr =>
        obtain ⟨m, hm⟩ : ∃ m, r.length = m := ⟨_, rfl⟩
        obtain ⟨S, hS, hsz, hx, hc⟩ := cons_facts x r m hm
        have HB := Lib.hid (fun W => refBlank_any x W)
        rw [hb] at HB
        have HL := Lib.hid hle
        rw [List.length_cons, hm] at hle
        obtain ⟨T, hT⟩ : ∃ T : Tx, T = x :: r := ⟨_, rfl⟩
        have HS : Hid (S = str T) := by unfold Hid; rw [hT, hS]
        rw [← hT] at HE HL
        rw [hS]
        clear hb hm hS hc h hT
        go_wp2_with fail
        refine (HB.out _).mono ?_
        rintro e w' ⟨rfl, rfl⟩
        go_wp2_with fail
      all_goals
        go_loop [0] (fun v => ∃ t : Tx, v = .string (str t) ∧ rdr t = rdr T ∧ t.length ≤ N) (fun v => szOf v)
        case atStart => exact ⟨T, congrArg Value.string HS.out, rfl, HL.out⟩
        case round =>
          obtain ⟨t, rfl, ht, hle⟩ := hrel
          rcases rdr_cases t T ht with ⟨r, x, rfl, hb, hr⟩ | ⟨rfl, h⟩ | ⟨r, x, rfl, hb, h⟩
          · have HSS := Lib.hid hr
            obtain ⟨m, hm⟩ : ∃ m, r.length = m := ⟨_, rfl⟩
            obtain ⟨S', hS', hsz', hx', hc'⟩ := snoc_facts r x m hm
            have HC := Lib.hid hc'
            have HB := Lib.hid (fun W => refBlank_any x W)
            rw [hb] at HB
            rw [List.length_append, hm] at hle
            have hle' : m + 1 ≤ N := hle
            have HM := Lib.hid hm
            rw [hS']
            clear ht hb hm hr hS' hc' hle
            go_wp2_with fail
            refine (HB.out _).mono ?_
            rintro e w' ⟨rfl, rfl⟩
            go_wp2_with fail
            go_round
            case rel => exact ⟨r, congrArg Value.string HC.out, HSS.out, by rw [HM.out]; omega⟩
            case measure =>
              rw [HC.out]
              show r.length < S'.size
              rw [HM.out, hsz']
              omega
          · have HZ : Hid (str [] = str Z) := by unfold Hid; rw [HE.out, h]
            have hz' : (str []).size = 0 := rfl
            obtain ⟨S', hS'⟩ : ∃ S', str [] = S' := ⟨_, rfl⟩
            rw [hS'] at HZ hz' ⊢
            clear hS' ht hle h
            go_wp2_with fail
            go_ret
            exact ⟨ret_str8 HZ.out, rfl⟩
          · have HZ : Hid (str (r ++ [x]) = str Z) := by unfold Hid; rw [HE.out, h]
            obtain ⟨m, hm⟩ : ∃ m, r.length = m := ⟨_, rfl⟩
            obtain ⟨S', hS', hsz', hx', hc'⟩ := snoc_facts r x m hm
            have HB := Lib.hid (fun W => refBlank_any x W)
            rw [hb] at HB
            rw [List.length_append, hm] at hle
            have hle' : m + 1 ≤ N := hle
            rw [hS'] at HZ ⊢
            clear ht hb hm h hS' hc' hle
            go_wp2_with fail
            refine (HB.out _).mono ?_
            rintro e w' ⟨rfl, rfl⟩
            go_wp2_with fail
            go_ret
            exact ⟨ret_str8 HZ.out, rfl⟩
end Go.Proofs.YtbeehedppofpnaaGreatDoor

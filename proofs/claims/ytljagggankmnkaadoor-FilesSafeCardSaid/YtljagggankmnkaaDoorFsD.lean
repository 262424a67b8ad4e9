/- Package files: Write, Rename, Remove, Read. -/
import Derived.Test.YtljagggankmnkaaDoorFsC
namespace Go.Proofs.YtljagggankmnkaaDoor
open Go.RowKit Go.Maps

theorem hd_parts {w : World} {B p : Nat} {F : Nat → Prop} {su no : List (Bs × Bs)} {st : List (Stp Bs)} (hd : Disk w B p F su no st) : ∃ (ba bb : Nat) (sv : Value) (Vn : List (Bs × Pay)), w.heap[p]? = some (.cells #[.map (some ba), .map (some bb), sv] 61) ∧ MapIs w bb Vn ∧ no = on2 Prod.snd Vn ∧ (∀ t ∈ Vn, Hv w F t.2) := by
  obtain ⟨ba, bb, sv, Vs, Vn, T, hd, _, rfl, _⟩ := hd
  exact ⟨ba, bb, sv, Vn, hd.cell, hd.mn, rfl, hd.hn⟩
/-- has, by the disk's word. -/
theorem has_d {w : World} {B p : Nat} {F : Nat → Prop} {su no : List (Bs × Bs)} {st : List (Stp Bs)} (k : Bs) (hk : k.length ≤ 1000000) (hd : Disk w B p F su no st) :
    Calls Tryd.prog 28 #[.pointer (some ⟨p, 0, none⟩), .string (str k)] w fun e w' => e = .returned (.bool (hasF k no)) ∧ w = w' := by
  obtain ⟨ba, bb, sv, Vn, hc, hm, rfl, _⟩ := hd_parts hd
  rw [on2_has]
  exact has_is k hk p bb _ sv Vn w hc hm
theorem len_put_le {k : Bs} {a : Bs} {no : List (Bs × Bs)} (h : no.length ≤ 64) (hf : ¬ (hasF k no = false ∧ 64 ≤ no.length)) : (put k a no).length ≤ 64 := by
  rw [len_put]
  by_cases h1 : hasF k no = true
  · have := len_del_has h1; omega
  · have h2 : hasF k no = false := by simpa using h1
    have := len_del k no
    have : ¬ 64 ≤ no.length := fun h3 => hf ⟨h2, h3⟩
    omega
theorem wpList_mlen {w : World} {ops : Array Oper} {rest : List Oper} {o : Oper} {a : Act} {Q : Exit → Act → World → Prop} (hg : o.guard = none) (m : Operand) (hop : o.op = Op.call { callee := Callee.builtin Builtin.len, args := #[m], argTypes := #[58] }) (b : Nat) (V : List (Bs × Pay))
    (hm : a.eval m = .map (some b)) (hown : MapIs w b V) (hK : wpList Tryd.prog ops Q rest (a.put o.dst (.int .i64 V.length)) w) : wpList Tryd.prog ops Q (o :: rest) a w :=
  wpList_len_own w hg m 58 hop 9 36 Tryd.underlying58 rv b V.length (mp V) hm hown (by rw [mp_size]; exact hK)
theorem named_len {l : Bs} (h : named l = true) : l.length ≤ 32 := by
  rcases Nat.lt_or_ge l.length 33 with h1 | h1
  · omega
  · rw [named_long (by omega)] at h; cases h

section
variable {B p : Nat} {F : Nat → Prop} {su no : List (Bs × Bs)} {st : List (Stp Bs)}
/-- What an act on a disk leaves. -/
def Acted (B p : Nat) (F : Nat → Prop) (su no : List (Bs × Bs)) (st : List (Stp Bs)) (σ : Stp Bs) (w : World) (e : Ending) (w' : World) : Prop :=
  e = .returned (errV (errOf no st σ)) ∧ ∃ F', Turn F w F' w' ∧ Disk w' B p F' su (noOf no st σ) (stOf no st σ)
theorem Acted.none {σ : Stp Bs} {w w' : World} {k : Nat} (hk : errOf no st σ = k) (h0 : k ≠ 0) (hd : Disk w B p F su no st) (hb : Below w.heap.size w w') : Acted B p F su no st σ w (.returned (errV k)) w' := by
  refine ⟨by rw [hk], F, Turn.of_below F hb, ?_⟩
  unfold noOf stOf
  rw [hk, if_neg h0, if_neg h0]
  exact hd.below hb
theorem Acted.done {σ : Stp Bs} {w w1 w' : World} {F' : Nat → Prop} {e : Ending} (hb : Below w.heap.size w w1) (ht : Turn F w1 F' w') (hk : errOf no st σ = if 4096 ≤ st.length then 10 else 0)
    (h : (4096 ≤ st.length ∧ e = .returned (errV 10) ∧ Disk w' B p F' su no st) ∨ (¬ 4096 ≤ st.length ∧ e = .returned (errV 0) ∧ Disk w' B p F' su (actF [] no σ) (st ++ [σ]))) : Acted B p F su no st σ w e w' := by
  unfold Acted noOf stOf
  rcases h with ⟨h1, h2, h3⟩ | ⟨h1, h2, h3⟩
  · rw [if_pos h1] at hk
    rw [hk]
    exact ⟨h2, F', (Turn.of_below F hb).trans ht, h3⟩
  · rw [if_neg h1] at hk
    rw [hk]
    exact ⟨h2, F', (Turn.of_below F hb).trans ht, h3⟩
set_option maxHeartbeats 2000000 in
set_option maxRecDepth 100000 in
theorem write_is (nm b : Bs) (A : Option Addr) (n c : Nat) (w : World) (hd : Disk w B p F su no st) (hB : B ≤ w.heap.size) (hn : b.length = n) (hnc : n ≤ 2 ^ 64) (hr : Rd w A (bs b)) :
    Calls Tryd.prog 17 #[.pointer (some ⟨p, 0, none⟩), .string (str nm), .slice A n c] w (Acted B p F su no st ⟨0, nm, [], b⟩ w) := by
  have HD := Lib.hid hd
  have HN := Lib.hid (And.intro hn (And.intro hr hB))
  clear hd hn hr hB
  cases hnm : named nm
  · have he : errOf no st ⟨0, nm, [], b⟩ = 11 := by simp [errOf, hnm]
    have HE := Lib.hid he
    have HNM := Lib.hid hnm
    clear he hnm
    go_enter Tryd.func17, Tryd.ntmps17
    go_wp2_with fail
    refine (isName_is nm _).mono ?_
    rw [HNM.out]
    rintro e w1 ⟨rfl, hb⟩
    have HB := Lib.hid hb
    clear hb
    go_wp2_with fail
    go_ret
    exact Acted.none HE.out (by decide) HD.out HB.out
  by_cases hlong : 65536 < n
  · have he : errOf no st ⟨0, nm, [], b⟩ = 2 := by simp [errOf, hnm, HN.out.1, hlong]
    have HE := Lib.hid he
    have HNM := Lib.hid hnm
    have h1 : decide ((65536 : Int) < n) = true := by simp; omega
    clear he hnm
    go_enter Tryd.func17, Tryd.ntmps17
    go_wp2_with fail
    refine (isName_is nm _).mono ?_
    rw [HNM.out]
    rintro e w1 ⟨rfl, hb⟩
    have HB := Lib.hid hb
    clear hb
    go_wp2_with fail
    go_ret
    exact Acted.none HE.out (by decide) HD.out HB.out
  have HLG := Lib.hid hlong
  have hl1 : decide ((65536 : Int) < n) = false := by simp; omega
  have HNM := Lib.hid hnm
  have hk1 : nm.length ≤ 1000000 := by have := named_len hnm; omega
  by_cases hfull : hasF nm no = false ∧ 64 ≤ no.length
  · have he : errOf no st ⟨0, nm, [], b⟩ = 10 := by simp [errOf, hnm, HN.out.1, hlong, hfull.1, hfull.2]
    have HE := Lib.hid he
    have HF := Lib.hid hfull
    have HK := Lib.hid hk1
    clear he hnm hfull hlong hk1
    go_enter Tryd.func17, Tryd.ntmps17
    go_wp2_with fail
    refine (isName_is nm _).mono ?_
    rw [HNM.out]
    rintro e w1 ⟨rfl, hb⟩
    have hd1 := HD.out.below hb
    obtain ⟨ba, bb, sv, Vn, hc, hm, hno, _⟩ := hd_parts hd1
    have c1 := cell_blk hc 1 (v := .map (some bb)) rfl
    have hln := hm.len 3
    have hlen : (Vn.length : Int) == 64 := by
      have h1 := HF.out.2
      have h2 := hd1.hist.le.2
      rw [hno, on2_len] at h1 h2
      simp; omega
    have HB := Lib.hid (And.intro hb (And.intro hd1 hm))
    clear hb hd1 hc hm hno
    go_wp2_with fail
    refine (has_d nm HK.out HB.out.2.1).mono ?_
    rw [HF.out.1]
    rintro e w2 ⟨rfl, rfl⟩
    go_wp2_with fail
    go_ret
    exact Acted.none HE.out (by decide) HD.out HB.out.1
  · have he : errOf no st ⟨0, nm, [], b⟩ = if 4096 ≤ st.length then 10 else 0 := by
      unfold errOf
      simp only [hnm, HN.out.1]
      simp only [if_true, if_neg hlong, if_neg hfull]
      simp
    have HE := Lib.hid he
    have HPL := Lib.hid (show ∀ a : Bs, (put nm a no).length ≤ 64 from fun a => len_put_le HD.out.hist.le.2 hfull)
    have HF := Lib.hid hfull
    have HK := Lib.hid hk1
    clear he hnm hfull hlong hk1
    go_enter Tryd.func17, Tryd.ntmps17
    go_wp2_with fail
    refine (isName_is nm _).mono ?_
    rw [HNM.out]
    rintro e w1 ⟨rfl, hb⟩
    have hd1 := HD.out.below hb
    obtain ⟨ba, bb, sv, Vn, hc, hm, hno, _⟩ := hd_parts hd1
    have c1 := cell_blk hc 1 (v := .map (some bb)) rfl
    have hln := hm.len 3
    have HB := Lib.hid (And.intro hb (And.intro hd1 (And.intro hm hno)))
    clear hb hd1 hc hm hno
    go_wp2_with fail
    refine (has_d nm HK.out HB.out.2.1).mono ?_
    cases hh : hasF nm no
    case' false =>
      have hlen : ((Vn.length : Int) == 64) = false := by
        have h1 : ¬ 64 ≤ no.length := fun h => HF.out ⟨hh, h⟩
        rw [HB.out.2.2.2, on2_len] at h1
        simp; omega
    all_goals
      clear hh
      rintro e w2 ⟨rfl, rfl⟩
      go_wp2_with fail
      refine (copied_is b A n c _ HN.out.1 (HN.out.2.1.below HB.out.1) (by have := HLG.out; omega)).mono ?_
      rintro e w2 ⟨v, rfl, hb2, ho⟩
      obtain ⟨A1, cc, rfl, hc1, hc2, hl1', hr1, ha1⟩ := owns_form ho
      have hd2 := HB.out.2.1.below hb2
      have HX := Lib.hid (And.intro hb2 (And.intro hc1 (And.intro hc2 (And.intro hl1' (And.intro hr1 (And.intro ha1 hd2))))))
      clear hb2 hc1 hc2 hl1' hr1 ha1 hd2 ho
      have hdo := do_is (s := ⟨0, nm, [], (.slice A1 n cc, b)⟩) (σ := ⟨0, nm, [], b⟩) w2 rfl HX.out.2.2.2.2.2.2 (Nat.le_trans HN.out.2.2 (Nat.le_trans HB.out.1.size HX.out.1.size))
        ⟨⟨A1, cc, by rw [HN.out.1], by dsimp only; rw [HN.out.1]; exact HX.out.2.1, HX.out.2.2.1, by have := HLG.out; dsimp only; rw [HN.out.1]; omega, HX.out.2.2.2.2.1, fun a e => ⟨(HX.out.2.2.2.2.2.1 a e).2, fun hf => by have h1 := (HB.out.2.1.lt _ hf).2; have h2 := (HX.out.2.2.2.2.2.1 a e).1; omega⟩⟩, (by show (0:Nat) ≤ 2; omega), (by have := HK.out; have := named_len HNM.out; dsimp only; omega), Nat.zero_le _⟩
        (fun h => absurd rfl h) ⟨HNM.out, fun h => by cases h⟩ (HPL.out b)
      have hsv : stepV ⟨0, nm, [], (.slice A1 n cc, b)⟩ = .agg #[.int .i64 0, .string (str nm), .string ⟨#[]⟩, .slice A1 n cc] := rfl
      rw [hsv] at hdo
      have HDO := Lib.hid hdo
      clear hdo hsv
      go_wp2_with fail
      refine HDO.out.mono ?_
      clear HDO
      rintro e w3 ⟨F', ht, hr⟩
      have hee : ∃ ev, e = .returned ev := by rcases hr with ⟨_, h, _⟩ | ⟨_, h, _⟩ <;> exact ⟨_, h⟩
      obtain ⟨ev, rfl⟩ := hee
      have HR := Lib.hid (And.intro ht hr)
      clear ht hr
      go_wp2_with fail
      go_ret
      exact Acted.done (HB.out.1.trans (HX.out.1.mono HB.out.1.size)) HR.out.1 HE.out HR.out.2
set_option maxHeartbeats 2000000 in
set_option maxRecDepth 100000 in
theorem remove_is (nm : Bs) (w : World) (hd : Disk w B p F su no st) (hB : B ≤ w.heap.size) :
    Calls Tryd.prog 19 #[.pointer (some ⟨p, 0, none⟩), .string (str nm)] w (Acted B p F su no st ⟨2, nm, [], []⟩ w) := by
  have HD := Lib.hid (And.intro hd hB)
  clear hd hB
  cases hnm : named nm
  · have HE := Lib.hid (show errOf no st ⟨2, nm, [], []⟩ = 11 by simp [errOf, hnm])
    have HNM := Lib.hid hnm
    clear hnm
    go_enter Tryd.func19, Tryd.ntmps19
    go_wp2_with fail
    refine (isName_is nm _).mono ?_
    rw [HNM.out]
    rintro e w1 ⟨rfl, hb⟩
    have HB := Lib.hid hb
    clear hb
    go_wp2_with fail
    go_ret
    exact Acted.none HE.out (by decide) HD.out.1 HB.out
  have HNM := Lib.hid hnm
  have HK := Lib.hid (show nm.length ≤ 1000000 by have := named_len hnm; omega)
  cases hh : hasF nm no
  · have HE := Lib.hid (show errOf no st ⟨2, nm, [], []⟩ = 8 by simp [errOf, hnm, hh])
    have HH := Lib.hid hh
    clear hh hnm
    go_enter Tryd.func19, Tryd.ntmps19
    go_wp2_with fail
    refine (isName_is nm _).mono ?_
    rw [HNM.out]
    rintro e w1 ⟨rfl, hb⟩
    have HB := Lib.hid hb
    clear hb
    go_wp2_with fail
    refine (has_d nm HK.out (HD.out.1.below HB.out)).mono ?_
    rw [HH.out]
    rintro e w2 ⟨rfl, rfl⟩
    go_wp2_with fail
    go_ret
    exact Acted.none HE.out (by decide) HD.out.1 HB.out
  · have HE := Lib.hid (show errOf no st ⟨2, nm, [], []⟩ = if 4096 ≤ st.length then 10 else 0 by simp [errOf, hnm, hh])
    have HPL := Lib.hid (show (actF [] no ⟨2, nm, [], []⟩).length ≤ 64 by have := HD.out.1.hist.le.2; have := len_del nm no; simp [actF]; omega)
    have HH := Lib.hid hh
    clear hh hnm
    go_enter Tryd.func19, Tryd.ntmps19
    go_wp2_with fail
    refine (isName_is nm _).mono ?_
    rw [HNM.out]
    rintro e w1 ⟨rfl, hb⟩
    have HB := Lib.hid hb
    clear hb
    go_wp2_with fail
    refine (has_d nm HK.out (HD.out.1.below HB.out)).mono ?_
    rw [HH.out]
    rintro e w2 ⟨rfl, rfl⟩
    have hdo := do_is (s := ⟨2, nm, [], nilPay⟩) (σ := ⟨2, nm, [], []⟩) w1 rfl (HD.out.1.below HB.out) (Nat.le_trans HD.out.2 HB.out.size) ⟨Hv.nil _ _, Nat.le_refl 2, (by have := named_len HNM.out; dsimp only; omega), Nat.zero_le _⟩ (fun _ => HH.out) ⟨HNM.out, fun h => by cases h⟩ HPL.out
    have hsv : stepV ⟨2, nm, [], nilPay⟩ = .agg #[.int .i64 2, .string (str nm), .string ⟨#[]⟩, .slice none 0 0] := rfl
    rw [hsv] at hdo
    have HDO := Lib.hid hdo
    clear hdo hsv
    go_wp2_with fail
    refine HDO.out.mono ?_
    clear HDO
    rintro e w3 ⟨F', ht, hr⟩
    have hee : ∃ ev, e = .returned ev := by rcases hr with ⟨_, h, _⟩ | ⟨_, h, _⟩ <;> exact ⟨_, h⟩
    obtain ⟨ev, rfl⟩ := hee
    have HR := Lib.hid (And.intro ht hr)
    clear ht hr
    go_wp2_with fail
    go_ret
    exact Acted.done HB.out HR.out.1 HE.out HR.out.2
set_option maxHeartbeats 2000000 in
set_option maxRecDepth 100000 in
theorem rename_is (nm to : Bs) (w : World) (hd : Disk w B p F su no st) (hB : B ≤ w.heap.size) :
    Calls Tryd.prog 21 #[.pointer (some ⟨p, 0, none⟩), .string (str nm), .string (str to)] w (Acted B p F su no st ⟨1, nm, to, []⟩ w) := by
  have HD := Lib.hid (And.intro hd hB)
  clear hd hB
  cases hnm : named nm
  · have HE := Lib.hid (show errOf no st ⟨1, nm, to, []⟩ = 11 by simp [errOf, hnm])
    have HNM := Lib.hid hnm
    clear hnm
    go_enter Tryd.func21, Tryd.ntmps21
    go_wp2_with fail
    refine (isName_is nm _).mono ?_
    rw [HNM.out]
    rintro e w1 ⟨rfl, hb⟩
    have HB := Lib.hid hb
    clear hb
    go_wp2_with fail
    go_ret
    exact Acted.none HE.out (by decide) HD.out.1 HB.out
  cases hto : named to
  · have HE := Lib.hid (show errOf no st ⟨1, nm, to, []⟩ = 11 by simp [errOf, hto])
    have HNM := Lib.hid (And.intro hnm hto)
    clear hnm hto
    go_enter Tryd.func21, Tryd.ntmps21
    go_wp2_with fail
    refine (isName_is nm _).mono ?_
    rw [HNM.out.1]
    rintro e w1 ⟨rfl, hb⟩
    have HB := Lib.hid hb
    clear hb
    go_wp2_with fail
    refine (isName_is to _).mono ?_
    rw [HNM.out.2]
    rintro e w2 ⟨rfl, hb⟩
    have HB2 := Lib.hid hb
    clear hb
    go_wp2_with fail
    go_ret
    exact Acted.none HE.out (by decide) HD.out.1 (HB.out.trans (HB2.out.mono HB.out.size))
  have HNM := Lib.hid (And.intro hnm hto)
  have HK := Lib.hid (show nm.length ≤ 1000000 by have := named_len hnm; omega)
  cases hh : hasF nm no
  · have HE := Lib.hid (show errOf no st ⟨1, nm, to, []⟩ = 8 by simp [errOf, hnm, hto, hh])
    have HH := Lib.hid hh
    clear hh hnm hto
    go_enter Tryd.func21, Tryd.ntmps21
    go_wp2_with fail
    refine (isName_is nm _).mono ?_
    rw [HNM.out.1]
    rintro e w1 ⟨rfl, hb⟩
    have HB := Lib.hid hb
    clear hb
    go_wp2_with fail
    refine (isName_is to _).mono ?_
    rw [HNM.out.2]
    rintro e w2 ⟨rfl, hb⟩
    have HB2 := Lib.hid (HB.out.trans (hb.mono HB.out.size))
    clear hb
    go_wp2_with fail
    refine (has_d nm HK.out (HD.out.1.below HB2.out)).mono ?_
    rw [HH.out]
    rintro e w3 ⟨rfl, rfl⟩
    go_wp2_with fail
    go_ret
    exact Acted.none HE.out (by decide) HD.out.1 HB2.out
  · have HE := Lib.hid (show errOf no st ⟨1, nm, to, []⟩ = if 4096 ≤ st.length then 10 else 0 by simp [errOf, hnm, hto, hh])
    have HPL := Lib.hid (show (actF [] no ⟨1, nm, to, []⟩).length ≤ 64 by have := HD.out.1.hist.le.2; have := len_del_has hh; have := len_del to (del nm no); simp [actF, len_put]; omega)
    have HH := Lib.hid hh
    clear hh hnm hto
    go_enter Tryd.func21, Tryd.ntmps21
    go_wp2_with fail
    refine (isName_is nm _).mono ?_
    rw [HNM.out.1]
    rintro e w1 ⟨rfl, hb⟩
    have HB1 := Lib.hid hb
    clear hb
    go_wp2_with fail
    refine (isName_is to _).mono ?_
    rw [HNM.out.2]
    rintro e w2 ⟨rfl, hb⟩
    have HB := Lib.hid (HB1.out.trans (hb.mono HB1.out.size))
    clear hb
    go_wp2_with fail
    refine (has_d nm HK.out (HD.out.1.below HB.out)).mono ?_
    rw [HH.out]
    rintro e w3 ⟨rfl, rfl⟩
    have hdo := do_is (s := ⟨1, nm, to, nilPay⟩) (σ := ⟨1, nm, to, []⟩) w2 rfl (HD.out.1.below HB.out) (Nat.le_trans HD.out.2 HB.out.size) ⟨Hv.nil _ _, (by show (1:Nat) ≤ 2; omega), by have := named_len HNM.out.1; dsimp only; omega, by have := named_len HNM.out.2; dsimp only; omega⟩ (fun _ => HH.out) ⟨HNM.out.1, fun _ => HNM.out.2⟩ HPL.out
    have hsv : stepV ⟨1, nm, to, nilPay⟩ = .agg #[.int .i64 1, .string (str nm), .string (str to), .slice none 0 0] := rfl
    rw [hsv] at hdo
    have HDO := Lib.hid hdo
    clear hdo hsv
    go_wp2_with fail
    refine HDO.out.mono ?_
    clear HDO
    rintro e w3 ⟨F', ht, hr⟩
    have hee : ∃ ev, e = .returned ev := by rcases hr with ⟨_, h, _⟩ | ⟨_, h, _⟩ <;> exact ⟨_, h⟩
    obtain ⟨ev, rfl⟩ := hee
    have HR := Lib.hid (And.intro ht hr)
    clear ht hr
    go_wp2_with fail
    go_ret
    exact Acted.done HB.out HR.out.1 HE.out HR.out.2

/-- What Read tells of a name: its error's number. -/
def readErr (no : List (Bs × Bs)) (k : Bs) : Nat := if named k = false then 11 else if hasF k no = false then 8 else 0
set_option maxHeartbeats 2000000 in
set_option maxRecDepth 100000 in
theorem read_is (nm : Bs) (w : World) (hd : Disk w B p F su no st) :
    Calls Tryd.prog 12 #[.pointer (some ⟨p, 0, none⟩), .string (str nm)] w fun e w' => ∃ v, e = .returned (.tuple #[v, errV (readErr no nm)]) ∧ Below w.heap.size w w' ∧
      w'.ownsRow w.heap.size 5 1 v (if readErr no nm = 0 then ((got nm no).getD []).length else 0) (if readErr no nm = 0 then bs ((got nm no).getD []) else []) := by
  have HD := Lib.hid hd
  clear hd
  cases hnm : named nm
  · have he : readErr no nm = 11 := by simp [readErr, hnm]
    rw [he]
    have HNM := Lib.hid hnm
    clear hnm he
    go_enter Tryd.func12, Tryd.ntmps12
    go_wp2_with fail
    refine (isName_is nm _).mono ?_
    rw [HNM.out]
    rintro e w1 ⟨rfl, hb⟩
    have HB := Lib.hid hb
    clear hb
    go_wp2_with fail
    go_ret2
    exact ⟨_, rfl, HB.out, World.ownsRow_nil _ _ _ _⟩
  have HNM := Lib.hid hnm
  have HK := Lib.hid (show nm.length ≤ 1000000 by have := named_len hnm; omega)
  cases hh : hasF nm no
  · have he : readErr no nm = 8 := by simp [readErr, hnm, hh]
    rw [he]
    have HH := Lib.hid hh
    clear hh hnm he
    go_enter Tryd.func12, Tryd.ntmps12
    go_wp2_with fail
    refine (isName_is nm _).mono ?_
    rw [HNM.out]
    rintro e w1 ⟨rfl, hb⟩
    have HB := Lib.hid hb
    clear hb
    go_wp2_with fail
    refine (has_d nm HK.out (HD.out.below HB.out)).mono ?_
    rw [HH.out]
    rintro e w2 ⟨rfl, rfl⟩
    go_wp2_with fail
    go_ret2
    exact ⟨_, rfl, HB.out, World.ownsRow_nil _ _ _ _⟩
  · have he : readErr no nm = 0 := by simp [readErr, hnm, hh]
    rw [he, if_pos rfl, if_pos rfl]
    have HH := Lib.hid hh
    obtain ⟨l, hl⟩ : ∃ l, (got nm no).getD [] = l := ⟨_, rfl⟩
    rw [hl]
    have HL := Lib.hid hl
    clear hh hnm he hl
    go_enter Tryd.func12, Tryd.ntmps12
    go_wp2_with fail
    refine (isName_is nm _).mono ?_
    rw [HNM.out]
    rintro e w1 ⟨rfl, hb⟩
    have hd1 := HD.out.below hb
    obtain ⟨ba, bb, sv, Vn, hc, hm, hno, hhv⟩ := hd_parts hd1
    have c1 := cell_blk hc 1 (v := .map (some bb)) rfl
    have hlook := hm.look HK.out
    have HB := Lib.hid (And.intro hb hd1)
    have hv : ∃ A c, ((got nm Vn).getD nilPay).1 = .slice A l.length c ∧ l.length ≤ 100000 ∧ Rd w1 A (bs l) := by
      have h1 := HL.out
      have h2 := HH.out
      rw [hno, on2_got] at h1
      rw [hno, on2_has, ← got_has] at h2
      cases hg : got nm Vn with
      | none => rw [hg] at h2; cases h2
      | some q =>
        rw [hg] at h1
        obtain ⟨A, c, e1, _, _, e4, e5, _⟩ := hhv _ (got_mem hg)
        dsimp only at e1 e4 e5
        have h1' : q.2 = l := by simpa using h1
        rw [h1'] at e1 e4 e5
        exact ⟨A, c, by simpa using e1, e4, e5⟩
    obtain ⟨A, c, hv1, hv2, hv3⟩ := hv
    rw [hv1] at hlook
    obtain ⟨n, hn⟩ : ∃ n, l.length = n := ⟨_, rfl⟩
    rw [hn] at hlook
    have HV := Lib.hid (And.intro hv2 (And.intro hv3 hn))
    clear hb hd1 hc hm hno hhv hv1 hv2 hv3 hn
    go_wp2_with fail
    refine (has_d nm HK.out HB.out.2).mono ?_
    rw [HH.out]
    rintro e w2 ⟨rfl, rfl⟩
    go_wp2_with fail
    refine (copied_is l A n c _ HV.out.2.2 HV.out.2.1 (by have := HV.out.1; have := HV.out.2.2; omega)).mono ?_
    rintro e w2 ⟨v, rfl, hb2, ho⟩
    have HX := Lib.hid (And.intro hb2 ho)
    clear hb2 ho
    go_wp2_with fail
    go_ret2
    rw [HV.out.2.2]
    exact ⟨_, rfl, HB.out.1.trans (HX.out.1.mono HB.out.1.size), ⟨HX.out.2.1, by
      rcases HX.out.2.2 with h | ⟨g, cap, cur, h1, h2, h3⟩
      · exact .inl h
      · exact .inr ⟨g, cap, cur, h1, Nat.le_trans HB.out.1.size h2, h3⟩⟩⟩
end
end Go.Proofs.YtljagggankmnkaaDoor

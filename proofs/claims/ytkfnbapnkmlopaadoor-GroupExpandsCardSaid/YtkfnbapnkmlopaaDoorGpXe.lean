/- Law GroupExpands, walked. -/
import Derived.Test.YtkfnbapnkmlopaaDoorGpNu
namespace Go.Proofs.YtkfnbapnkmlopaaDoor
open Go.RowKit

set_option maxHeartbeats 4000000 in
set_option maxRecDepth 100000 in
theorem expands_walk (hP : PgX) (v u : Value) (g : List Grp) (x : List Itm) (w : World) (hE : ErrT w) (hT : Tz w) (hS : SmG g x) (hv : RowG w v g) (hu : RowX w u x) :
    Calls Tryd.prog 3 #[v, u] w fun e w' => e = .returned (.bool true) ∧ Below w.heap.size w w' := by
  have hH := huge_any13 v u g x w hv hu
  have HSu := Lib.hid (fun W (hb : Below w.heap.size w W) => sure_any13 hP W (hT.below hb))
  cases hh : hugeG g x with
  | true =>
    rw [hh] at hH
    have HH := Lib.hid hH
    clear hH hh hv hu hE hP hT hS
    go_enter Tryd.func3, Tryd.ntmps3
    go_wp2_with fail
    with_reducible refine HH.out.mono ?_
    rintro e w1 ⟨rfl, hb1⟩
    go_wp2_with fail
    with_reducible refine (HSu.out _ hb1).mono ?_
    rintro e w2 ⟨rfl, hb2⟩
    have HB := Lib.hid (hb1.trans (hb2.mono hb1.size))
    clear hb1 hb2
    go_wp2_with fail
    go_ret
    exact ⟨rfl, HB.out⟩
  | false =>
    rw [hh] at hH
    obtain ⟨hgl, hxl, _⟩ := hugeG_no hh
    have HH := Lib.hid hH
    have HGi := Lib.hid (fun W (hb : Below w.heap.size w W) => give_any v u g x W (hv.below hb) (hu.below hb) (by omega) (by omega))
    have HCk := Lib.hid (fun W (hb : Below w.heap.size w W) => refGCk_any v u g x W (hv.below hb) (hu.below hb))
    have HEx := Lib.hid (fun W (hb : Below w.heap.size w W) (ho : OkG g x) => refGEx_any v u g x W (hv.below hb) (hu.below hb) ho)
    have HPx := Lib.hid (fun a b W (hb : Below w.heap.size w W) (h1 : RowG W a g) (h2 : RowX W b x) => hP.ex a b g x W (hT.below hb) hS h1 h2)
    have HEr := Lib.hid hE
    have hck0 := ckG_zero (g := g) (x := x)
    have hat0 := ckG_at (g := g) (x := x)
    obtain ⟨at_, hat⟩ : ∃ y, (ckG g x).1 = y := ⟨_, rfl⟩
    obtain ⟨f, hf⟩ : ∃ y, (ckG g x).2 = y := ⟨_, rfl⟩
    rw [hat, hf] at HCk HPx
    rw [hf] at hck0
    have HNu := Lib.hid (fun W (hb : Below w.heap.size w W) => num13_any f W (hE.below hb))
    have H0 := Lib.hid (And.intro hck0 hf)
    clear hH hh hv hu hE hP hT hS hgl hxl hck0 hat0 hat hf
    by_cases hf0 : f = 0
    · subst hf0
      have hok := H0.out.1.1 rfl
      have HOk := Lib.hid hok
      rw [if_pos rfl, errE_zero] at HPx
      rw [errE_zero] at HNu
      clear hok
      go_enter Tryd.func3, Tryd.ntmps3
      go_wp2_with fail
      with_reducible refine HH.out.mono ?_
      rintro e w1 ⟨rfl, hb1⟩
      have HB1 := Lib.hid hb1
      clear hb1
      go_wp2_with fail
      with_reducible refine (HGi.out _ HB1.out).mono ?_
      rintro e w2 ⟨a, b, rfl, hra, hrb, hb2⟩
      have HB2 := Lib.hid (HB1.out.trans (hb2.mono HB1.out.size))
      have HR := Lib.hid (And.intro hra hrb)
      clear hra hrb hb2
      go_wp2_with fail
      with_reducible refine (HPx.out _ _ _ HB2.out HR.out.1 HR.out.2).mono ?_
      rintro e w3 ⟨lv, rfl, hrl, hb3⟩
      have HB3 := Lib.hid (HB2.out.trans (hb3.mono HB2.out.size))
      have HL := Lib.hid hrl
      clear hrl hb3
      go_wp2_with fail
      with_reducible refine (HCk.out _ HB3.out).mono ?_
      rintro e w4 ⟨rfl, hb4⟩
      have HB4 := Lib.hid (HB3.out.trans (hb4.mono HB3.out.size))
      have HL4 := Lib.hid (HL.out.below hb4)
      clear hb4
      go_wp2_with fail
      with_reducible refine (HNu.out _ HB4.out).mono ?_
      rintro e w5 ⟨rfl, hb5⟩
      have HB5 := Lib.hid (HB4.out.trans (hb5.mono HB4.out.size))
      have HL5 := Lib.hid (HL4.out.below hb5)
      clear hb5
      go_wp2_with fail
      with_reducible refine (HEx.out _ HB5.out HOk.out).mono ?_
      rintro e w6 ⟨o, rfl, hro, hb6⟩
      have HB6 := Lib.hid (HB5.out.trans (hb6.mono HB5.out.size))
      have hli := lists_any lv o _ _ w6 (HL5.out.below hb6) hro
      rw [decide_eq_true rfl] at hli
      have HLi := Lib.hid hli
      clear hb6 hro hli
      go_wp2_with fail
      with_reducible refine HLi.out.mono ?_
      rintro e w7 ⟨rfl, hb7⟩
      have HB7 := Lib.hid (HB6.out.trans (hb7.mono HB6.out.size))
      clear hb7
      go_wp2_with fail
      with_reducible refine (HSu.out _ HB7.out).mono ?_
      rintro e w8 ⟨rfl, hb8⟩
      have HB8 := Lib.hid (HB7.out.trans (hb8.mono HB7.out.size))
      clear hb8
      go_wp2_with fail
      go_ret
      exact ⟨rfl, HB8.out⟩
    · rw [if_neg hf0, errE_pos hf0] at HPx
      rw [errE_pos hf0] at HNu
      unfold errK at HPx HNu
      have hfi : ¬ ((f : Int) = 0) := by omega
      clear hf0
      go_enter Tryd.func3, Tryd.ntmps3
      go_wp2_with fail
      with_reducible refine HH.out.mono ?_
      rintro e w1 ⟨rfl, hb1⟩
      have HB1 := Lib.hid hb1
      clear hb1
      go_wp2_with fail
      with_reducible refine (HGi.out _ HB1.out).mono ?_
      rintro e w2 ⟨a, b, rfl, hra, hrb, hb2⟩
      have HB2 := Lib.hid (HB1.out.trans (hb2.mono HB1.out.size))
      have HR := Lib.hid (And.intro hra hrb)
      clear hra hrb hb2
      go_wp2_with fail
      with_reducible refine (HPx.out _ _ _ HB2.out HR.out.1 HR.out.2).mono ?_
      rintro e w3 ⟨lv, rfl, hrl, hb3⟩
      obtain ⟨Al, cl, hlv, _⟩ := hrl.form
      subst hlv
      have HB3 := Lib.hid (HB2.out.trans (hb3.mono HB2.out.size))
      clear hrl hb3
      go_wp2_with fail
      with_reducible refine (HCk.out _ HB3.out).mono ?_
      rintro e w4 ⟨rfl, hb4⟩
      have HB4 := Lib.hid (HB3.out.trans (hb4.mono HB3.out.size))
      clear hb4
      go_wp2_with fail
      with_reducible refine (HNu.out _ HB4.out).mono ?_
      rintro e w5 ⟨rfl, hb5⟩
      have HB5 := Lib.hid (HB4.out.trans (hb5.mono HB4.out.size))
      clear hb5
      go_wp2_with fail
      with_reducible refine (HSu.out _ HB5.out).mono ?_
      rintro e w8 ⟨rfl, hb8⟩
      have HB8 := Lib.hid (HB5.out.trans (hb8.mono HB5.out.size))
      clear hb8
      go_wp2_with fail
      go_ret
      exact ⟨rfl, HB8.out⟩
end Go.Proofs.YtkfnbapnkmlopaaDoor

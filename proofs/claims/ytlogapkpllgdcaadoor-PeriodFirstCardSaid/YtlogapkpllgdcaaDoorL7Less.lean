/- PeriodLess' walk: what is in a period is in none that it excludes. -/
import Derived.Test.YtlogapkpllgdcaaDoorPdSure
import Derived.Test.YtlogapkpllgdcaaDoorPdGv
import Derived.Test.YtlogapkpllgdcaaDoorPdHuge
namespace Go.Proofs.YtlogapkpllgdcaaDoor
open Go.RowKit

theorem u64_rem7 (t : Int) (b : Nat) (hb : 0 < b) : ∃ a : Nat, (IntKind.u64.wrap t).tmod b = a ∧ a < b := by
  have h : 0 ≤ IntKind.u64.wrap t := by
    unfold IntKind.wrap
    simp [IntKind.signed, IntKind.bits]
    omega
  have h1 := Int.emod_nonneg (IntKind.u64.wrap t) (show (b : Int) ≠ 0 by omega)
  have h2 := Int.emod_lt_of_pos (IntKind.u64.wrap t) (show (0 : Int) < b by omega)
  exact ⟨((IntKind.u64.wrap t) % b).toNat, by rw [Int.tmod_eq_emod_of_nonneg h]; omega, by omega⟩
/-- What is in a period is in none that it excludes. -/
theorem less_ex {l : List Prd} {q : Nat} {a : Int} {p : Prd} (hc : chk l = 0) (hp : l[q]? = some p) (h : inT l q 0 a = true) (ha1 : 0 ≤ a) (ha2 : a ≤ 4611686018427387904) : ∀ x ∈ p.ex, errI l x a 0 = 0 ∧ inT l x 0 a = false := by
  intro x hx
  have hg := good_of hc
  obtain ⟨h1, h2⟩ := hg.range p (List.mem_of_getElem? hp) x hx
  refine ⟨errI_none (err7_none hc h1 h2) ha1 ha2 (by omega) (by omega), ?_⟩
  unfold inT at h ⊢
  rw [show ((q : Int)).toNat = q by omega, inn_eq _ hg.loops hg.range hp, Bool.and_eq_true] at h
  have h3 := h.2
  simp only [Bool.not_eq_true', List.any_eq_false] at h3
  simpa using h3 x hx
set_option maxRecDepth 100000 in
set_option maxHeartbeats 2000000 in
theorem less_walk (l : List Prd) (v : Value) (i t : Int) (w : World) (ht : Tab w) (hz : Tz w) (hset : HPd w v l) (_ : -9223372036854775808 ≤ i ∧ i ≤ 9223372036854775807) (_ : -9223372036854775808 ≤ t ∧ t ≤ 9223372036854775807) :
    Calls Tryd.prog 5 #[v, .int .i64 i, .int .i64 t] w fun e w' => e = .returned (.bool true) ∧ Below w.heap.size w w' := by
  have HH := Lib.hid (huge_any l v w hset)
  have HS := Lib.hid (fun W (hW : Below w.heap.size w W) => sure_any W (ht.below hW) (hz.below hW))
  by_cases hbig : hugeB l = true
  · rw [hbig] at HH
    obtain ⟨A, c, E, U, rfl, _, _, _⟩ := hset
    go_enter Tryd.func5, Tryd.ntmps5
    go_wp2_with fail
    refine HH.out.mono ?_
    rintro e w1 ⟨rfl, rfl⟩
    go_wp2_with fail
    refine (HS.out _ (Below.refl _ _)).mono ?_
    rintro e w2 ⟨rfl, hb⟩
    have HB := Lib.hid hb
    clear hb
    go_wp2_with fail
    go_ret
    exact ⟨rfl, HB.out⟩
  have hsm : hugeB l = false := by simpa using hbig
  rw [hsm] at HH
  obtain ⟨hl, hb⟩ := not_huge hsm
  have HG := Lib.hid (give_any l v w hset hl hb)
  have HI := Lib.hid (fun u x a o W (hW : Below w.heap.size w W) (hs : HPd W u l) (h : errI l x a o = 0) => in_ok l u x a o W (ht.below hW) hs h)
  have HN := Lib.hid (fun u x a o W (hW : Below w.heap.size w W) (hs : HPd W u l) (h : errI l x a o ≠ 0) => in_no l u x a o W (ht.below hW) hs h)
  obtain ⟨A, c, E, U, rfl, _, _, hk⟩ := hset
  obtain ⟨n, hn⟩ : ∃ n, l.length = n := ⟨_, rfl⟩
  have hn9 : (n : Int) ≤ 100 := by omega
  rw [hn] at HH HG ⊢
  have HBX := Lib.hid hb
  clear hbig hsm hb hl ht hz
  by_cases hi : i < 0 ∨ (n : Int) ≤ i
  · have hi2 : i < 0 ∨ (¬ i < 0 ∧ (n : Int) ≤ i) := by omega
    clear hi hk HG HI HN
    rcases hi2 with h1 | ⟨h1, h2⟩
    · have d1 : decide (i < 0) = true := decide_eq_true h1
      go_enter Tryd.func5, Tryd.ntmps5
      go_wp2_with fail
      refine HH.out.mono ?_
      rintro e w1 ⟨rfl, rfl⟩
      go_wp2_with fail
      refine (HS.out _ (Below.refl _ _)).mono ?_
      rintro e w2 ⟨rfl, hb⟩
      have HB := Lib.hid hb
      clear hb
      go_wp2_with fail
      go_ret
      exact ⟨rfl, HB.out⟩
    · have d1 : decide (i < 0) = false := decide_eq_false h1
      have d2 : decide ((n : Int) ≤ i) = true := decide_eq_true h2
      go_enter Tryd.func5, Tryd.ntmps5
      go_wp2_with fail
      refine HH.out.mono ?_
      rintro e w1 ⟨rfl, rfl⟩
      go_wp2_with fail
      refine (HS.out _ (Below.refl _ _)).mono ?_
      rintro e w2 ⟨rfl, hb⟩
      have HB := Lib.hid hb
      clear hb
      go_wp2_with fail
      go_ret
      exact ⟨rfl, HB.out⟩
  obtain ⟨q, rfl⟩ : ∃ q : Nat, i = q := ⟨i.toNat, by omega⟩
  have hq : q < n := by omega
  have hq' : q < l.length := by omega
  obtain ⟨⟨ad, X, rfl, hX, x1, x2⟩, _, hex⟩ := hk q hq'
  obtain ⟨p, hp⟩ : ∃ p, l.getD q dP = p := ⟨_, rfl⟩
  rw [hp] at hex
  obtain ⟨Au, cu, hU, _, _, hux⟩ := hex
  obtain ⟨mu, hmu⟩ : ∃ mu, p.ex.length = mu := ⟨_, rfl⟩
  rw [hmu] at hU hux
  have hmu9 : (mu : Int) ≤ 100 := by have := (HBX.out p (by rw [← hp]; exact getD_mem hq' dP)).2.1; omega
  rw [hU] at x2
  obtain ⟨a, ha, ha2⟩ := u64_rem7 t 1099511627776 (by omega)
  have HP := Lib.hid (show l[q]? = some p by rw [← hp]; exact getD_some hq' dP)
  have HX := Lib.hid hux
  have HMU := Lib.hid hmu
  have X2 := Lib.hid x2
  have d1 : decide ((q : Int) < 0) = false := decide_eq_false (by omega)
  have d2 : decide ((n : Int) ≤ q) = false := decide_eq_false (by omega)
  have HA2 := Lib.hid ha2
  have HA := Lib.hid ha
  clear hi hk hux hmu hp hU x1 x2 hq' hn ha2 ha
  go_enter Tryd.func5, Tryd.ntmps5
  go_wp2_with fail
  refine HH.out.mono ?_
  rintro e w1 ⟨rfl, rfl⟩
  go_wp2_with fail
  refine HG.out.mono ?_
  rintro e w2 ⟨u, rfl, hset, hb2⟩
  have HSET := Lib.hid hset
  have HB2 := Lib.hid hb2
  clear hset hb2
  have hw' : wrap64 ((IntKind.u64.wrap t).tmod 1099511627776) = (a : Int) := by rw [show (IntKind.u64.wrap t).tmod 1099511627776 = (a : Int) from HA.out]; exact IntWalk.wrap64_in _ ⟨by omega, by have := HA2.out; omega⟩
  go_wp2_with fail
  rw [hw']
  clear hw'
  by_cases he : errI l q a 0 = 0
  case neg =>
    refine (HN.out u q a 0 _ HB2.out HSET.out he).mono ?_
    rintro e w3 ⟨rfl, hb3⟩
    have HB3 := Lib.hid (HB2.out.trans (hb3.mono HB2.out.size))
    rw [errE_ne he]
    unfold errK
    clear hb3 he
    go_wp2_with fail
    refine (HS.out _ HB3.out).mono ?_
    rintro e w4 ⟨rfl, hb4⟩
    have HB4 := Lib.hid (HB3.out.trans (hb4.mono HB3.out.size))
    clear hb4
    go_wp2_with fail
    go_ret
    exact ⟨rfl, HB4.out⟩
  refine (HI.out u q a 0 _ HB2.out HSET.out he).mono ?_
  rintro e w3 ⟨rfl, hb3⟩
  have HB3 := Lib.hid (HB2.out.trans (hb3.mono HB2.out.size))
  have HS3 := Lib.hid (HSET.out.below hb3)
  have HE := Lib.hid he
  clear hb3 he
  by_cases hin : inT l q 0 a = true
  case neg =>
    have hf : inT l q 0 a = false := by simpa using hin
    rw [hf]
    clear hf hin
    go_wp2_with fail
    refine (HS.out _ HB3.out).mono ?_
    rintro e w4 ⟨rfl, hb4⟩
    have HB4 := Lib.hid (HB3.out.trans (hb4.mono HB3.out.size))
    clear hb4
    go_wp2_with fail
    go_ret
    exact ⟨rfl, HB4.out⟩
  have hall := less_ex (err7_zero (errI_zero HE.out).1).1 HP.out hin (by omega) (by have := HA2.out; omega)
  have HALL := Lib.hid hall
  rw [hin]
  clear hin hall
  go_wp2_with fail
  go_loopw [11] (fun s wr => ∃ k : Nat, k ≤ mu ∧ s = .int .i64 k ∧ Below w3.heap.size w3 wr) (fun s _ => mu - (intOf s).toNat)
  case atStart => exact ⟨0, Nat.zero_le _, rfl, Below.refl _ _⟩
  case round =>
    obtain ⟨k, hk, rfl, hb⟩ := hrel
    have HB := Lib.hid (HB3.out.trans (hb.mono HB3.out.size))
    have HSR := Lib.hid (HS3.out.below hb)
    have x2 := cell_below X2.out HB.out
    obtain ⟨w4, hw4⟩ : ∃ w4, w4 = wr := ⟨_, rfl⟩
    subst hw4
    have HB4 := Lib.hid hb
    clear hb
    by_cases hlt : k < mu
    · have hlt' : k < p.ex.length := by rw [HMU.out]; exact hlt
      obtain ⟨ae, hAu, hc⟩ := HX.out k hlt
      obtain ⟨x, hx⟩ : ∃ x, p.ex.getD k 0 = x := ⟨_, rfl⟩
      obtain ⟨h1, h2⟩ := HALL.out x (by rw [← hx]; exact getD_mem hlt' 0)
      rw [hx] at hc
      have y1 := cell_below hc HB.out
      rw [hAu] at x2
      have HIX := Lib.hid (HI.out u x a 0 _ HB.out HSR.out h1)
      rw [h2] at HIX
      clear hlt' hAu hc hx h1 h2
      go_wp2_with fail
      refine HIX.out.mono ?_
      rintro e w5 ⟨rfl, hb5⟩
      have HB5 := Lib.hid (HB4.out.trans (hb5.mono HB4.out.size))
      clear hb5
      go_wp2_with fail
      go_round
      case rel => exact ⟨k + 1, by omega, by go_num, HB5.out⟩
      case measure => simp [intOf]; omega
    · obtain rfl : k = mu := by omega
      have HSX := Lib.hid (HS.out _ HB.out)
      go_wp2_with fail
      refine HSX.out.mono ?_
      rintro e w5 ⟨rfl, hb5⟩
      have HB5 := Lib.hid (HB.out.trans (hb5.mono HB.out.size))
      clear hb5
      go_wp2_with fail
      go_ret
      exact ⟨rfl, HB5.out⟩
end Go.Proofs.YtlogapkpllgdcaaDoor

/- Layer 15: Set, List as contracts; what the package answers (pgP). -/
import Derived.Test.YtkihfafkglkjnaaDoorQuLi
import Derived.Test.YtkihfafkglkjnaaDoorQuPt
namespace Go.Proofs.YtkihfafkglkjnaaDoor
open Go.RowKit

set_option maxRecDepth 100000 in
set_option maxHeartbeats 2000000 in
theorem list_any (v : Value) (F : Nat → Prop) (n : Int) (L : List Ev) (w : World) (h : IsQ w v F n L) :
    Calls Tryd.prog 18 #[v] w fun x w' => ∃ u, x = .returned u ∧ RowP (fun k => k < w.heap.size) w' u L ∧ Below w.heap.size w w' := by
  obtain ⟨q, g, v, H, rfl, rfl, h3, h4, h5, _⟩ := h
  obtain ⟨A, c, rfl, hc, _⟩ := h3.form
  have c1 := cell9_blk h3.blk 1 rfl
  have hlen := h3.len
  obtain ⟨m, hm⟩ : ∃ m, H.length = m := ⟨_, rfl⟩
  have hrd : Rd w A (H.flatMap evC) := by
    obtain ⟨A', c', e, _, _, _, hr, _⟩ := owns_formk h3.row
    injection e with e
    rw [e]
    exact hr
  rw [hm] at hlen hc
  have c1' : w.cell? ⟨q, 1, none⟩ = some (.slice A m c) := by rw [← hm]; exact c1
  have HC := Lib.hid (clone_any A m c H w hm (by omega) hrd)
  have HX := Lib.hid (And.intro h5 hm)
  clear h3 h4 h5 c1 hrd hm
  go_enter Tryd.func18, Tryd.ntmps18
  go_wp2_with fail
  with_reducible refine HC.out.mono ?_
  rintro e w1 ⟨u, rfl, hu, hb⟩
  rw [← HX.out.2] at hu
  have HS := Lib.hid (sortQ_any w.heap.size u H w1 (by rw [HX.out.2]; omega) hu)
  have HB := Lib.hid hb
  clear hu hb
  go_wp2_with fail
  with_reducible refine HS.out.mono ?_
  rintro e w2 ⟨rfl, ys, hpm, hso, hrow, hb2⟩
  have H2 := Lib.hid (And.intro hpm (And.intro hso (And.intro hrow hb2)))
  clear hpm hso hrow hb2
  go_wp2_with fail
  go_ret
  have hk : KeyE ys := HX.out.1.key.perm H2.out.1
  have hs : SrE ys := ⟨(H2.out.2.1.and hk).imp (fun {a b} h => ahE_tot h.1 (fun e => h.2 (by rw [e]))), hk⟩
  have he : ys = L := hs.one HX.out.1.sr (fun x => (H2.out.1.trans HX.out.1.pm).mem_iff)
  have hr := H2.out.2.2.1
  rw [he] at hr
  exact ⟨_, rfl, hr, HB.out.trans H2.out.2.2.2⟩
theorem set_any (v : Value) (F : Nat → Prop) (n : Int) (L : List Ev) (e : Ev) (w : World) (h1 : In64 e.2.1) (h2 : In64 e.2.2) (h : IsQ w v F n L) :
    Calls Tryd.prog 9 #[v, evV e] w fun x w' => x = .returned (errE (stE L n e).2) ∧ ∃ F', IsQ w' v F' n (stE L n e).1 ∧ TuF F F' w w' := by
  obtain ⟨q, g, v, H, rfl, rfl, h3, h4, h5, h6, h7⟩ := h
  unfold stE
  by_cases hbad : badE15 e = true
  · rw [if_pos hbad]
    refine (setBad_any q e w hbad).mono ?_
    rintro x w' ⟨rfl, hb⟩
    exact ⟨rfl, FqB q g v, ⟨q, g, v, H, rfl, rfl, h3.bl hb, h4, h5, h6, h7⟩, .of hb⟩
  · rw [if_neg hbad]
    replace hbad : badE15 e = false := by simpa using hbad
    have hfd := (h5.fd e.2.1 e.2.2).1
    cases hp : PosE H (e.2.1, e.2.2) with
    | some j =>
      rw [hp] at hfd
      have hyes : 0 ≤ fdE e.2.1 e.2.2 L 0 := hfd.2 rfl
      obtain ⟨t, ht⟩ : ∃ t : Nat, fdE e.2.1 e.2.2 L 0 = t := ⟨(fdE e.2.1 e.2.2 L 0).toNat, by omega⟩
      rw [if_pos hyes, ht, Int.toNat_natCast]
      obtain ⟨hjl, _⟩ := PosE.at_ hp
      refine (setPut_any q g v n H e j w h3 h4 hbad ⟨h1, h2⟩ hp).mono ?_
      rintro x w' ⟨rfl, H', hI, hpm, hh, htu⟩
      refine ⟨rfl, FqB q g v, ⟨q, g, v, H', rfl, rfl, hI, hh, (h5.put hp ht).perm hpm, ⟨?_, h6.2⟩, fun x hx => ?_⟩, htu⟩
      · have e1 := insE_len e (wioE L t)
        have e2 := wioE_len (fdE_lt ht)
        have e3 := h6.1
        dsimp only
        omega
      · rcases insE_mem.1 hx with rfl | hx
        · exact hbad
        · exact h7 x ((wioE_sub L t).subset hx)
    | none =>
      rw [hp] at hfd
      have hno : ¬ 0 ≤ fdE e.2.1 e.2.2 L 0 := fun h => by have := hfd.1 h; cases this
      rw [if_neg hno]
      by_cases hr : n ≤ L.length
      · rw [if_pos hr]
        have he : (H.length : Int) = n := by rw [h5.len]; have := h6.1; omega
        refine (setFull_any q g v n H e w h3 h4 hbad ⟨h1, h2⟩ hp he h6.2).mono ?_
        rintro x w' ⟨rfl, hb⟩
        exact ⟨rfl, FqB q g v, ⟨q, g, v, H, rfl, rfl, h3.bl hb, h4, h5, h6, h7⟩, .of hb⟩
      · rw [if_neg hr]
        have he : (H.length : Int) < n := by rw [h5.len]; omega
        refine (setAdd_any q g v n H e w h3 h4 hbad ⟨h1, h2⟩ hp he h6.2).mono ?_
        rintro x w' ⟨rfl, v', H', hI, hpm, hh, htu⟩
        refine ⟨rfl, FqB q g v', ⟨q, g, v', H', rfl, rfl, hI, hh, (h5.add hp).perm hpm, ⟨?_, h6.2⟩, fun x hx => ?_⟩, htu⟩
        · have e1 := insE_len e L
          have e2 := h5.len
          dsimp only
          omega
        · rcases insE_mem.1 hx with rfl | hx
          · exact hbad
          · exact h7 x hx
theorem pgP : PgP IsQ where
  kept := fun h hb => isQ_kept h hb
  fp := fun h => isQ_fp h
  ptr := fun h => isQ_ptr h
  len := fun h => isQ_len h
  keys := fun h => isQ_keys h
  new := fun n w h1 h2 => new_any n w h1 h2
  set := fun v F n L e w h1 h2 h => set_any v F n L e w h1 h2 h
  first := fun v F n L w h => first_any v F n L w h
  pop := fun v F n L w h => pop_any v F n L w h
  find := fun v F n L k i w h1 h2 h => find_any v F n L k i w h1 h2 h
  leng := fun v F n L w h => leng_any v F n L w h
  list := fun v F n L w h => list_any v F n L w h
end Go.Proofs.YtkihfafkglkjnaaDoor

/- Contracts: check: the number of its error. -/
import Derived.Test.YtbeehedppofpnaaGreatDoorBkCl
import Derived.Test.YtbeehedppofpnaaGreatDoorBkH
namespace Go.Proofs.YtbeehedppofpnaaGreatDoor
open Go.RowKit Go.Maps

def misM (b : MB) : Bool := !wordT b.2.1 || b.2.2.any fun f => !wordT f.2.1
def badM (b : MB) : Bool := b.2.2.any fun f => badV (zF f)
def twM (b : MB) : Bool := twice (b.2.2.map zF)
def ovM (b : MB) : Bool := decide (64 < b.2.2.length)
theorem Smal.fields {b : MB} (h : Smal 9000 b) : b.2.2.length ≤ 80 ∧ b.2.1.length ≤ 9000 ∧ ∀ f ∈ b.2.2, f.2.1.length ≤ 9000 ∧ f.2.2.length ≤ 9000 :=
  ⟨h.1, by have := h.2.1; omega, fun f hf => by have := h.2.2 f hf; omega⟩
theorem entNw : Ent1 43 := enters_of Tryz.func43 (by kernel_rfl) rfl
theorem entOt : Ent1 48 := enters_of Tryz.func48 (by kernel_rfl) rfl
theorem entMis : Ent1 45 := enters_of Tryz.func45 (by kernel_rfl) rfl
theorem entMal : Ent1 47 := enters_of Tryz.func47 (by kernel_rfl) rfl
theorem entOvr : Ent1 49 := enters_of Tryz.func49 (by kernel_rfl) rfl
theorem entTwc : Ent1 51 := enters_of Tryz.func51 (by kernel_rfl) rfl
def BoP (b : Bool) (w : World) (e : Ending) (w' : World) : Prop := e = .returned (.bool b) ∧ Below w.heap.size w w'
theorem boP {b B : Bool} {w w' : World} (hb : b = B) (h : Below w.heap.size w w') : BoP b w (.returned (.bool B)) w' := ⟨by rw [hb], h⟩
set_option maxRecDepth 100000 in
theorem over_any (b : MB) (u : Value) (w : World) (hs : Smal 9000 b) (hu : RowF w u b.2.2) :
    Calls Tryz.prog 49 #[.agg #[.int .i64 b.1, .string (str b.2.1), u]] w (BoP (ovM b) w) := by
  obtain ⟨A, c, rfl, _⟩ := hu.form
  have HN := Lib.hid hs.1
  unfold ovM
  generalize str b.2.1 = S at *
  generalize b.1 = a at *
  generalize b.2.2.length = n at *
  clear hs hu
  go_enter Tryz.func49, Tryz.ntmps49
  go_wp2_with fail
  go_ret
  exact boP (by exact decide_eq_decide.2 (by omega)) ((Below.refl _ _).alloc (Nat.le_refl _) _)
set_option maxRecDepth 100000 in
theorem mal_any (b : MB) (u : Value) (w : World) (hs : Smal 9000 b) (hu : RowF w u b.2.2) :
    Calls Tryz.prog 47 #[.agg #[.int .i64 b.1, .string (str b.2.1), u]] w (BoP (badM b) w) := by
  have HX : Hid (∀ W, Below w.heap.size w W → Calls Tryz.prog 46 #[u, .func (.func 48) #[] #[]] W fun e w' => e = .returned (.bool (badM b)) ∧ Below W.heap.size W w') := fun W hW =>
    containsF0 48 #[] W entOt (fun f => badV (zF f)) (by have := hs.1; omega) (hu.below hW) fun f W' hf _ => isOther_any f W' (by have := hs.fields.2.2 f hf; omega) (by have := hs.fields.2.2 f hf; omega)
  generalize badM b = B at *
  generalize str b.2.1 = S at *
  generalize b.1 = a at *
  clear hs hu
  go_enter Tryz.func47, Tryz.ntmps47
  go_wp2_with fail
  refine (HX.out _ ((Below.refl _ _).alloc (Nat.le_refl _) _)).mono ?_
  rintro e w' ⟨rfl, hb⟩
  have HB := Lib.hid hb
  clear hb
  go_wp2_with fail
  go_ret
  exact boP rfl (((Below.refl _ _).alloc (Nat.le_refl _) _).trans (HB.out.mono (by rw [World.size_alloc]; omega)))
set_option maxHeartbeats 1000000 in
set_option maxRecDepth 100000 in
theorem mis_any (b : MB) (u : Value) (w : World) (cb : Nat) (t : TypeId) (hs : Smal 9000 b) (hu : RowF w u b.2.2) (hc : w.heap[cb]? = some (.cells #[.func (.func 43) #[] #[]] t (0, 0))) :
    Calls Tryz.prog 45 #[.agg #[.int .i64 b.1, .string (str b.2.1), u], .pointer (some ⟨cb, 0, none⟩)] w (BoP (misM b) w) := by
  have HX : Hid (∀ W, Below w.heap.size w W → Calls Tryz.prog 46 #[u, .func (.func 43) #[] #[]] W fun e w' => e = .returned (.bool (b.2.2.any fun f => !wordT f.2.1)) ∧ Below W.heap.size W w') := fun W hW =>
    containsF0 43 #[] W entNw (fun f => !wordT f.2.1) (by have := hs.1; omega) (hu.below hW) fun f W' hf _ => noWord_any f W' (by have := hs.fields.2.2 f hf; omega)
  have HW := Lib.hid (fun W => isWord_any b.2.1 W (by have := hs.fields.2.1; omega))
  have HM : Hid (misM b = (!wordT b.2.1 || b.2.2.any fun f => !wordT f.2.1)) := rfl
  generalize misM b = R at *
  generalize (b.2.2.any fun f => !wordT f.2.1) = B at *
  generalize wordT b.2.1 = C at *
  generalize str b.2.1 = S at *
  generalize b.1 = a at *
  obtain ⟨w1, hw1⟩ : ∃ x, w.alloc (.cells #[.int .i64 a, .string S, u] 46) = x := ⟨_, rfl⟩
  have hb0 : Below w.heap.size w w1 := by rw [← hw1]; exact (Below.refl _ _).alloc (Nat.le_refl _) _
  have hc0 : w1.heap[w.heap.size]? = some (.cells #[.int .i64 a, .string S, u] 46 (0, 0)) := by rw [← hw1]; exact (MapKept.heap_alloc w _).1
  have hc1 : w1.heap[cb]? = some (.cells #[.func (.func 43) #[] #[]] t (0, 0)) := (hb0.block _ (blk9_lt hc)).trans hc
  have k1 := cell9_blk hc0 1 (v := .string S) rfl
  have k2 := cell9_blk hc0 2 (v := u) rfl
  have k3 := cell9_blk hc1 0 (v := .func (.func 43) #[] #[]) rfl
  have HB := Lib.hid hb0
  clear hb0 hc0 hc1 hs hu hc
  cases C
  · have HR : Hid (R = true) := by unfold Hid; rw [HM.out]; rfl
    clear HM HX
    go_enter Tryz.func45, Tryz.ntmps45
    go_wp2_with fail
    refine (HW.out _).mono ?_
    rintro e w3 ⟨rfl, rfl⟩
    go_wp2_with fail
    go_ret
    exact boP HR.out HB.out
  · have HR : Hid (R = B) := by unfold Hid; rw [HM.out]; rfl
    clear HM
    go_enter Tryz.func45, Tryz.ntmps45
    go_wp2_with fail
    refine (HW.out _).mono ?_
    rintro e w3 ⟨rfl, rfl⟩
    go_wp2_with fail
    refine (HX.out _ HB.out).mono ?_
    rintro e w4 ⟨rfl, hb4⟩
    have HB4 := Lib.hid (HB.out.trans (hb4.mono HB.out.size))
    clear hb4
    go_wp2_with fail
    go_ret
    exact boP HR.out HB4.out
/-- The number of check's error. -/
def chkN (L : List MB) : Nat := if L.any misM = true then 11 else if L.any badM = true then 3 else if L.any twM = true then 7 else if L.any ovM = true then 10 else 0
def ChP (L : List MB) (w : World) (e : Ending) (w' : World) : Prop := e = .returned (errE (chkN L)) ∧ Below w.heap.size w w'
set_option maxHeartbeats 2000000 in
set_option maxRecDepth 100000 in
theorem check_any (v : Value) (L : List MB) (w : World) (hl : L.length ≤ 1024) (hs : ∀ b ∈ L, Smal 9000 b) (hv : RowB w v L) :
    Calls Tryz.prog 26 #[v] w (ChP L w) := by
  have HC : Hid (∀ t : TypeId, ∀ W, Below w.heap.size w W → W.heap[w.heap.size]? = some (.cells #[.func (.func 43) #[] #[]] t (0, 0)) → Calls Tryz.prog 50 #[v, .func (.func 45) #[] #[.pointer (some ⟨w.heap.size, 0, none⟩)]] W fun e w' => e = .returned (.bool (L.any misM)) ∧ Below W.heap.size W w') := fun t W hW hc =>
    containsB _ _ W entMis misM (by omega) (hv.below hW) fun b u W' hb hu hW' => mis_any b u W' w.heap.size t (hs b hb) hu ((hW'.block _ (blk9_lt hc)).trans hc)
  have HM : Hid (∀ W, Below w.heap.size w W → Calls Tryz.prog 50 #[v, .func (.func 47) #[] #[]] W fun e w' => e = .returned (.bool (L.any badM)) ∧ Below W.heap.size W w') := fun W hW =>
    containsB _ _ W entMal badM (by omega) (hv.below hW) fun b u W' hb hu hW' => mal_any b u W' (hs b hb) hu
  have HT : Hid (∀ W, Below w.heap.size w W → Calls Tryz.prog 50 #[v, .func (.func 51) #[] #[]] W fun e w' => e = .returned (.bool (L.any twM)) ∧ Below W.heap.size W w') := fun W hW =>
    containsB _ _ W entTwc twM (by omega) (hv.below hW) fun b u W' hb hu hW' => hasTwice_any b u W' (by have := (hs b hb).1; omega) (fun f hf => by have := (hs b hb).fields.2.2 f hf; omega) hu
  have HV : Hid (∀ W, Below w.heap.size w W → Calls Tryz.prog 50 #[v, .func (.func 49) #[] #[]] W fun e w' => e = .returned (.bool (L.any ovM)) ∧ Below W.heap.size W w') := fun W hW =>
    containsB _ _ W entOvr ovM (by omega) (hv.below hW) fun b u W' hb hu hW' => over_any b u W' (hs b hb) hu
  obtain ⟨A, c, rfl, _⟩ := hv.form
  generalize L.length = n at *
  unfold ChP
  have HK : Hid (chkN L = if L.any misM = true then 11 else if L.any badM = true then 3 else if L.any twM = true then 7 else if L.any ovM = true then 10 else 0) := rfl
  generalize chkN L = K at *
  generalize L.any misM = b1 at *
  generalize L.any badM = b2 at *
  generalize L.any twM = b3 at *
  generalize L.any ovM = b4 at *
  have HA : Hid (∀ t : TypeId, Below w.heap.size w (w.alloc (.cells #[.func (.func 43) #[] #[]] t)) ∧ (w.alloc (.cells #[.func (.func 43) #[] #[]] t)).heap[w.heap.size]? = some (.cells #[.func (.func 43) #[] #[]] t (0, 0))) := fun t =>
    ⟨(Below.refl _ _).alloc (Nat.le_refl _) _, (MapKept.heap_alloc w _).1⟩
  clear hs hv
  cases b1
  · cases b2
    · cases b3
      · cases b4
        · have HR : Hid (Ending.returned (.nilIface) = .returned (errE K)) := by unfold Hid; rw [HK.out]; rfl
          unfold errK at HR
          clear HK
          go_enter Tryz.func26, Tryz.ntmps26
          go_wp2_with fail
          refine (HC.out _ _ (HA.out _).1 (HA.out _).2).mono ?_
          rintro e w1 ⟨rfl, hb⟩
          have HB1 := Lib.hid ((HA.out _).1.trans (hb.mono (HA.out _).1.size))
          clear hb
          go_wp2_with fail
          refine (HM.out _ HB1.out).mono ?_
          rintro e w2 ⟨rfl, hb⟩
          have HB2 := Lib.hid (HB1.out.trans (hb.mono HB1.out.size))
          clear hb
          go_wp2_with fail
          refine (HT.out _ HB2.out).mono ?_
          rintro e w3 ⟨rfl, hb⟩
          have HB3 := Lib.hid (HB2.out.trans (hb.mono HB2.out.size))
          clear hb
          go_wp2_with fail
          refine (HV.out _ HB3.out).mono ?_
          rintro e w4 ⟨rfl, hb⟩
          have HB4 := Lib.hid (HB3.out.trans (hb.mono HB3.out.size))
          clear hb
          go_wp2_with fail
          go_ret
          exact ⟨HR.out, HB4.out⟩
        · have HR : Hid (Ending.returned (errK 10) = .returned (errE K)) := by unfold Hid; rw [HK.out]; rfl
          unfold errK at HR
          clear HK
          go_enter Tryz.func26, Tryz.ntmps26
          go_wp2_with fail
          refine (HC.out _ _ (HA.out _).1 (HA.out _).2).mono ?_
          rintro e w1 ⟨rfl, hb⟩
          have HB1 := Lib.hid ((HA.out _).1.trans (hb.mono (HA.out _).1.size))
          clear hb
          go_wp2_with fail
          refine (HM.out _ HB1.out).mono ?_
          rintro e w2 ⟨rfl, hb⟩
          have HB2 := Lib.hid (HB1.out.trans (hb.mono HB1.out.size))
          clear hb
          go_wp2_with fail
          refine (HT.out _ HB2.out).mono ?_
          rintro e w3 ⟨rfl, hb⟩
          have HB3 := Lib.hid (HB2.out.trans (hb.mono HB2.out.size))
          clear hb
          go_wp2_with fail
          refine (HV.out _ HB3.out).mono ?_
          rintro e w4 ⟨rfl, hb⟩
          have HB4 := Lib.hid (HB3.out.trans (hb.mono HB3.out.size))
          clear hb
          go_wp2_with fail
          go_ret
          exact ⟨HR.out, HB4.out⟩
      · have HR : Hid (Ending.returned (errK 7) = .returned (errE K)) := by unfold Hid; rw [HK.out]; rfl
        unfold errK at HR
        clear HK
        go_enter Tryz.func26, Tryz.ntmps26
        go_wp2_with fail
        refine (HC.out _ _ (HA.out _).1 (HA.out _).2).mono ?_
        rintro e w1 ⟨rfl, hb⟩
        have HB1 := Lib.hid ((HA.out _).1.trans (hb.mono (HA.out _).1.size))
        clear hb
        go_wp2_with fail
        refine (HM.out _ HB1.out).mono ?_
        rintro e w2 ⟨rfl, hb⟩
        have HB2 := Lib.hid (HB1.out.trans (hb.mono HB1.out.size))
        clear hb
        go_wp2_with fail
        refine (HT.out _ HB2.out).mono ?_
        rintro e w3 ⟨rfl, hb⟩
        have HB3 := Lib.hid (HB2.out.trans (hb.mono HB2.out.size))
        clear hb
        go_wp2_with fail
        go_ret
        exact ⟨HR.out, HB3.out⟩
    · have HR : Hid (Ending.returned (errK 3) = .returned (errE K)) := by unfold Hid; rw [HK.out]; rfl
      unfold errK at HR
      clear HK
      go_enter Tryz.func26, Tryz.ntmps26
      go_wp2_with fail
      refine (HC.out _ _ (HA.out _).1 (HA.out _).2).mono ?_
      rintro e w1 ⟨rfl, hb⟩
      have HB1 := Lib.hid ((HA.out _).1.trans (hb.mono (HA.out _).1.size))
      clear hb
      go_wp2_with fail
      refine (HM.out _ HB1.out).mono ?_
      rintro e w2 ⟨rfl, hb⟩
      have HB2 := Lib.hid (HB1.out.trans (hb.mono HB1.out.size))
      clear hb
      go_wp2_with fail
      go_ret
      exact ⟨HR.out, HB2.out⟩
  · have HR : Hid (Ending.returned (errK 11) = .returned (errE K)) := by unfold Hid; rw [HK.out]; rfl
    unfold errK at HR
    clear HK
    go_enter Tryz.func26, Tryz.ntmps26
    go_wp2_with fail
    refine (HC.out _ _ (HA.out _).1 (HA.out _).2).mono ?_
    rintro e w1 ⟨rfl, hb⟩
    have HB1 := Lib.hid ((HA.out _).1.trans (hb.mono (HA.out _).1.size))
    clear hb
    go_wp2_with fail
    go_ret
    exact ⟨HR.out, HB1.out⟩
end Go.Proofs.YtbeehedppofpnaaGreatDoor

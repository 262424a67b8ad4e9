/- Br, IhOwn, IhTm, IhUs, in one text. -/
import Derived.Test.YthnogakjaaopkaaGreatDoorBa
import Derived.Test.YthnogakjaaopkaaGreatDoorBp9
import Derived.Test.YthnogakjaaopkaaGreatDoorVaLb
import Derived.BigQuiet
import Derived.Deep.QuietTactic
import Derived.Test.YthnogakjaaopkaaGreatDoorIhM
import Derived.Test.YthnogakjaaopkaaGreatDoorBg
import Derived.Test.YthnogakjaaopkaaGreatDoorRn
import Derived.Deep.RegionHeld3
/- Contracts: the document's words and names, its way to find a field. -/
namespace Go.Proofs.YthnogakjaaopkaaGreatDoor
open Go.RowKit

def wordL : Tx := [97, 98, 99, 100, 101, 102, 103, 104, 105, 106, 107, 108, 109, 110, 111, 112, 113, 114, 115, 116, 117, 118, 119, 120, 121, 122, 48, 49, 50, 51, 52, 53, 54, 55, 56, 57, 95]
def nameL : Tx := [97, 98, 99, 100, 101, 102, 103, 104, 105, 106, 107, 108, 109, 110, 111, 112, 113, 114, 115, 116, 117, 118, 119, 120, 121, 122, 65, 66, 67, 68, 69, 70, 71, 72, 73, 74, 75, 76, 77, 78, 79, 80, 81, 82, 83, 84, 85, 86, 87, 88, 89, 90, 48, 49, 50, 51, 52, 53, 54, 55, 56, 57, 95, 45, 46]
theorem wordL_any (c : UInt8) : wordL.any (· == c) = wdB c := by
  have : ∀ c : Fin 256, wordL.any (· == UInt8.ofNat c) = wdB (UInt8.ofNat c) := by decide +kernel
  have hc : UInt8.ofNat c.toNat = c := by simp
  have := this ⟨c.toNat, UInt8.toNat_lt c⟩
  rw [hc] at this
  exact this
theorem nameL_any (c : UInt8) : nameL.any (· == c) = nmB c := by
  have : ∀ c : Fin 256, nameL.any (· == UInt8.ofNat c) = nmB (UInt8.ofNat c) := by decide +kernel
  have hc : UInt8.ofNat c.toNat = c := by simp
  have := this ⟨c.toNat, UInt8.toNat_lt c⟩
  rw [hc] at this
  exact this
theorem any_step {p : UInt8 → Bool} {l : Tx} {k : Nat} {x : UInt8} {r : Tx} (hd : l.drop k = x :: r) : (l.take (k + 1)).any p = ((l.take k).any p || p x) := by
  have hk : k < l.length := by
    rcases Nat.lt_or_ge k l.length with h | h
    · exact h
    · rw [List.drop_eq_nil_of_le h] at hd
      cases hd
  rw [List.drop_eq_getElem_cons hk] at hd
  injection hd with hd _
  rw [List.take_succ_eq_append_getElem hk, List.any_append, hd]
  simp
theorem u8_eqb (x y : UInt8) : (((x.toNat : Int)) == (y.toNat : Int)) = (x == y) := by
  rw [Bool.eq_iff_iff]
  simp only [beq_iff_eq]
  exact ⟨fun e => UInt8.toNat_inj.1 (by omega), fun e => by rw [e]⟩
set_option maxHeartbeats 2000000 in
set_option maxRecDepth 100000 in
theorem among_any (l m : Tx) (w : World) (hl : l.length ≤ 100000) (hm : m.length ≤ 1000) : Calls Tryz.prog 60 #[.string (str l), .string (str m)] w fun e w' => e = .returned (.bool (madeT (fun c => m.any (· == c)) l)) ∧ Below w.heap.size w w' := by
  obtain ⟨n, hn⟩ : ∃ n, l.length = n := ⟨_, rfl⟩
  obtain ⟨q, hq⟩ : ∃ q, m.length = q := ⟨_, rfl⟩
  rw [hn] at hl
  rw [hq] at hm
  have hs : (str l).size = n := hn
  have hs2 : (str m).size = q := hq
  have HN := Lib.hid (And.intro hn hq)
  obtain ⟨S, hS⟩ : ∃ S, str l = S := ⟨_, rfl⟩
  obtain ⟨M, hM⟩ : ∃ M, str m = M := ⟨_, rfl⟩
  have HS := Lib.hid (And.intro hS hM)
  rw [hS] at hs ⊢
  rw [hM] at hs2 ⊢
  have HD : Hid (madeT (fun c => m.any (· == c)) l = (l.all (fun c => m.any (· == c)) && (decide (0 < n) && decide (n < 33)))) := by
    unfold Hid madeT
    rw [hn, Bool.and_assoc]
  clear hS hM hn hq
  go_enter Tryz.func60, Tryz.ntmps60
  go_wp2_with fail
  go_loopw [5] (fun i wr => ∃ k : Nat, i = .int .i64 k ∧ k ≤ n ∧ Below w.heap.size w wr ∧ (l.take k).all (fun c => m.any (· == c)) = true) (fun i _ => n - (intOf i).toNat)
  case atStart => exact ⟨0, rfl, Nat.zero_le _, Below.refl _ _, rfl⟩
  case round =>
    obtain ⟨k, rfl, hk, hb, hall⟩ := hrel
    have HA := Lib.hid (And.intro hb hall)
    clear hb hall
    rcases Nat.lt_or_ge k n with hlt | hge
    · obtain ⟨x, r, e1, e2, S', e3, hs', hx, hc⟩ := at_facts l n k HN.out.1 hlt
      obtain rfl : S' = S := e3.symm.trans HS.out.1
      have q0 : (0 : Int) ≤ k := by omega
      have q1 : (k : Int) < n := by omega
      have hD := Lib.hid e1
      clear e1 e2 e3 hc
      go_wp2_with fail
      go_loopw [6, 7] (fun ok j w2 => ∃ a : Nat, j = .int .i64 a ∧ a ≤ q ∧ Below wr.heap.size wr w2 ∧ ok = .bool ((m.take a).any (· == x))) (fun _ j _ => q - (intOf j).toNat)
      case atStart => exact ⟨0, rfl, Nat.zero_le _, Below.refl _ _, rfl⟩
      case round =>
        obtain ⟨a, rfl, ha, hb2, rfl⟩ := hrel
        have HB := Lib.hid hb2
        clear hb2
        rcases Nat.lt_or_ge a q with hla | hga
        · obtain ⟨y, r2, f1, f2, M', f3, hm', hy, hc2⟩ := at_facts m q a HN.out.2 hla
          obtain rfl : M' = M := f3.symm.trans HS.out.2
          have g0 : (0 : Int) ≤ a := by omega
          have g1 : (a : Int) < q := by omega
          have hstep := any_step (p := (· == x)) f1
          have hE := u8_eqb y x
          have HSt := Lib.hid hstep
          clear f1 f2 f3 hc2 hstep
          cases hB : (m.take a).any (· == x)
          · have HBo := Lib.hid hB
            clear hB
            cases hyx : (y == x)
            · rw [hyx] at hE
              have hE' : ¬ ((y.toNat : Int) = (x.toNat : Int)) := by simpa using hE
              have HYX := Lib.hid hyx
              clear hyx
              go_wp2_with fail
              go_quiet (fail)
              go_wp2_with fail
              exact ⟨⟨a + 1, by go_num, hla, HB.out.trans (below_dr _ _), congrArg Value.bool (by rw [HSt.out, HBo.out, HYX.out]; rfl)⟩, by simp [intOf]; omega⟩
            · rw [hyx] at hE
              have hE' : ((y.toNat : Int) = (x.toNat : Int)) := by simpa using hE
              have HYX := Lib.hid hyx
              clear hyx
              go_wp2_with fail
              go_quiet (fail)
              go_wp2_with fail
              exact ⟨⟨a + 1, by go_num, hla, HB.out.trans (below_dr _ _), congrArg Value.bool (by rw [HSt.out, HBo.out, HYX.out]; rfl)⟩, by simp [intOf]; omega⟩
          · have HBo := Lib.hid hB
            clear hB hE
            go_wp2_with fail
            go_quiet (fail)
            go_wp2_with fail
            exact ⟨⟨a + 1, by go_num, hla, HB.out.trans (below_dr _ _), congrArg Value.bool (by rw [HSt.out, HBo.out]; rfl)⟩, by simp [intOf]; omega⟩
        · obtain rfl : a = q := by omega
          have g1 : ¬ ((a : Int) < a) := by omega
          have htk : m.take a = m := List.take_of_length_le (by rw [HN.out.2]; exact Nat.le_refl _)
          rw [htk]
          cases hB : m.any (· == x)
          · have HBo := Lib.hid hB
            clear hB htk
            go_wp2_with fail
            go_ret
            have hst : l.all (fun c => m.any (· == c)) = false := all_stop (p := fun c => m.any (· == c)) hD.out HBo.out
            exact ⟨ret_bool8 (by rw [HD.out, hst]; rfl), HA.out.1.trans (HB.out.mono HA.out.1.size)⟩
          · have HBo := Lib.hid hB
            clear hB htk
            go_wp2_with fail
            exact ⟨⟨k + 1, by go_num, hlt, HA.out.1.trans (HB.out.mono HA.out.1.size), by rw [all_upto (p := fun c => m.any (· == c)) hD.out, HA.out.2, HBo.out]; rfl⟩, by simp [intOf]; omega⟩
    · obtain rfl : k = n := by omega
      have q1 : ¬ ((k : Int) < k) := by omega
      have h2 := HA.out.2
      rw [List.take_of_length_le (by rw [HN.out.1]; exact Nat.le_refl _)] at h2
      have HDD : Hid (madeT (fun c => m.any (· == c)) l = (decide (0 < k) && decide (k < 33))) := by
        unfold Hid
        rw [HD.out, h2]
        rfl
      clear h2
      by_cases h0 : 0 < k
      · have d0 : decide (0 < k) = true := decide_eq_true h0
        by_cases h33 : k < 33
        · have d1 : decide ((k : Int) < 33) = true := decide_eq_true (by omega)
          have d2 : (k : Int) < 33 := by omega
          go_wp2_with fail
          go_ret
          exact ⟨ret_bool8 (by rw [HDD.out, decide_eq_true h0, decide_eq_true h33]; rfl), HA.out.1⟩
        · have d1 : decide ((k : Int) < 33) = false := decide_eq_false (by omega)
          have d2 : ¬ (k : Int) < 33 := by omega
          go_wp2_with fail
          go_ret
          exact ⟨ret_bool8 (by rw [HDD.out, decide_eq_true h0, decide_eq_false h33]; rfl), HA.out.1⟩
      · obtain rfl : k = 0 := by omega
        go_wp2_with fail
        go_ret
        exact ⟨ret_bool8 (by rw [HDD.out]; rfl), HA.out.1⟩
set_option maxRecDepth 100000 in
theorem refName_any (l : Tx) (w : World) (hl : l.length ≤ 100000) : Calls Tryz.prog 36 #[.string (str l)] w fun e w' => e = .returned (.bool (nameT l)) ∧ Below w.heap.size w w' := by
  have e : madeT (fun c => nameL.any (· == c)) l = nameT l := by
    unfold madeT nameT
    congr 3
    funext c
    exact nameL_any c
  have HM : Hid (∀ (W : World) (m : ByteArray), m = str nameL → Calls Tryz.prog 60 #[.string (str l), .string m] W fun e w' => e = .returned (.bool (nameT l)) ∧ Below W.heap.size W w') := by
    rintro W m rfl
    rw [← e]
    exact among_any l nameL W hl (by decide)
  generalize nameT l = B at *
  generalize str l = S at *
  clear e hl
  go_enter Tryz.func36, Tryz.ntmps36
  go_wp2_with fail
  refine (HM.out _ _ rfl).mono ?_
  rintro e w' ⟨rfl, hb⟩
  have HB := Lib.hid hb
  clear hb
  go_wp2_with fail
  go_ret
  exact ⟨rfl, HB.out⟩
/-- Where a name stands first; -1: nowhere. -/
def fndN (k : Tx) : List MF → Nat → Int
  | [], _ => -1
  | f :: r, i => if f.2.1 = k then i else fndN k r (i + 1)
set_option maxHeartbeats 1000000 in
set_option maxRecDepth 100000 in
theorem refFind_any (at_ : Int) (kd : ByteArray) (v : Value) (L : List MF) (k : Tx) (w : World) (hl : L.length ≤ 1000000) (hv : RowF w v L) :
    Calls Tryz.prog 18 #[.agg #[.int .i64 at_, .string kd, v], .string (str k)] w fun e w' => e = .returned (.int .i64 (fndN k L 0)) ∧ Below w.heap.size w w' := by
  obtain ⟨A, c, rfl, hr⟩ := hv.form
  have hc1 := hr.parts.2.1
  have hc2 := hr.parts.2.2.1
  obtain ⟨n, hn⟩ : ∃ n, L.length = n := ⟨_, rfl⟩
  rw [hn] at hr hl hc1 ⊢
  have hbox := (Below.refl w.heap.size w).alloc (Nat.le_refl _) (.cells #[.int .i64 at_, .string kd, .slice A n c] 52)
  have hbl := (MapKept.heap_alloc w (.cells #[.int .i64 at_, .string kd, .slice A n c] 52)).1
  have HR := Lib.hid (And.intro (hr.below hbox) (And.intro hbl hbox))
  obtain ⟨R, hR⟩ : ∃ R, fndN k L 0 = R := ⟨_, rfl⟩
  rw [hR]
  have HK := Lib.hid (And.intro hR hn)
  obtain ⟨S, hS⟩ : ∃ S, str k = S := ⟨_, rfl⟩
  have HS := Lib.hid hS
  rw [hS]
  obtain ⟨w0, hw0⟩ : ∃ x, w.alloc (.cells #[.int .i64 at_, .string kd, .slice A n c] 52) = x := ⟨_, rfl⟩
  rw [hw0] at HR
  clear hr hbox hbl hR hn hS hv
  go_enter Tryz.func18, Tryz.ntmps18
  go_wp2_with fail
  go_loopw [5] (fun i wr => ∃ a : Nat, i = .int .i64 a ∧ a ≤ n ∧ Below w0.heap.size w0 wr ∧ fndN k (L.drop a) a = R) (fun i _ => n - (intOf i).toNat)
  case atStart => exact ⟨0, rfl, Nat.zero_le _, Below.refl _ _, HK.out.1⟩
  case round =>
    obtain ⟨a, rfl, ha, hb, hd⟩ := hrel
    have hbl := (hb.block _ (blk9_lt HR.out.2.1)).trans HR.out.2.1
    have c2 := cell9_blk hbl 2 (v := .slice A n c) rfl
    rcases Nat.lt_or_ge a n with hlt | hge
    · have hal : a < L.length := by rw [HK.out.2]; exact hlt
      have hp := (HR.out.1.below hb).parts.2.2.2
      obtain ⟨ad, X, rfl, hX, k0, k1, k2⟩ := hp a hlt L[a] (List.getElem?_eq_getElem hal)
      rw [List.drop_eq_getElem_cons hal, fndN] at hd
      obtain ⟨f, hf⟩ : ∃ f, L[a] = f := ⟨_, rfl⟩
      rw [hf] at k1 hd
      have q0 : (0 : Int) ≤ a := by omega
      have q1 : (a : Int) < n := by omega
      have hE : ((str f.2.1).toList == S.toList) = decide (f.2.1 = k) := by
        rw [← HS.out, str_toList, str_toList]
        exact Bool.eq_iff_iff.2 (by simp)
      obtain ⟨T, hT⟩ : ∃ T, str f.2.1 = T := ⟨_, rfl⟩
      rw [hT] at k1 hE
      have HB := Lib.hid hb
      by_cases hfk : f.2.1 = k
      · rw [decide_eq_true hfk] at hE
        rw [if_pos hfk] at hd
        have HD := Lib.hid hd
        have hE' : T.toList = S.toList := by simpa using hE
        clear hd hfk hb hf hT k0 k2 hp hbl
        go_wp2_with fail
        go_ret
        exact ⟨congrArg (fun x => Ending.returned (Value.int .i64 x)) HD.out, HR.out.2.2.trans (HB.out.mono HR.out.2.2.size)⟩
      · rw [decide_eq_false hfk] at hE
        rw [if_neg hfk] at hd
        have HD := Lib.hid hd
        have hE' : ¬ T.toList = S.toList := by simpa using hE
        clear hd hfk hb hf hT k0 k2 hp hbl
        go_wp2_with fail
        exact ⟨⟨a + 1, by go_num, hlt, HB.out, HD.out⟩, by simp [intOf]; omega⟩
    · obtain rfl : a = n := by omega
      have q1 : ¬ ((a : Int) < a) := by omega
      have HB := Lib.hid (And.intro hb hd)
      clear hb hd hbl
      go_wp2_with fail
      go_ret
      have h2 := HB.out.2
      rw [List.drop_eq_nil_of_le (by rw [HK.out.2]; exact Nat.le_refl _), fndN] at h2
      exact ⟨congrArg (fun x => Ending.returned (Value.int .i64 x)) h2, HR.out.2.2.trans (HB.out.1.mono HR.out.2.2.size)⟩
end Go.Proofs.YthnogakjaaopkaaGreatDoor
/- Contracts: the document's own, template. -/
namespace Go.Proofs.YthnogakjaaopkaaGreatDoor
open Go.RowKit

theorem results_cellO {P : Program} {fn : Func} {p u : Tmp} {ty : TypeId} (h : fn.results = #[.cell p ty, .tmp u]) (tmps : Array Value) (w : World) (g : Nat) (t : TypeId) (cs : Array Value) (fr : Nat × Nat) (d : TypeDesc)
    (hp : tmps.getD p undef = .pointer (some ⟨g, 0, none⟩)) (hg : w.heap[g]? = some (.cells cs t fr))
    (hu : P.underlying ty = some d) (hd : (match d with | .struct _ | .array _ _ => true | _ => false) = true) (hi : (P.info? ty).map (·.size) = some cs.size) :
    (results fn tmps).run P w = .ok (.tuple #[.agg cs, tmps.getD u undef]) w := by
  rw [results_cell_tmp h, hp]
  simp [asAddr, run_loadVar_row w g t ty cs fr d hg hu hd hi]
theorem set3O {w : World} {g : Nat} {a b c x y z : Value} {t : TypeId} (h : w.heap[g]? = some (.cells #[a, b, c] t (0, 0))) : (((w.setCell ⟨g, 0, none⟩ x).setCell ⟨g, 1, none⟩ y).setCell ⟨g, 2, none⟩ z).heap[g]? = some (.cells #[x, y, z] t (0, 0)) :=
  heap_setCell_same _ g 2 _ t z (heap_setCell_same _ g 1 _ t y (heap_setCell_same w g 0 _ t x h))
theorem below_set3O {w W : World} {B g : Nat} {x y z : Value} (h : Below B w W) (hg : B ≤ g) : Below B w (((W.setCell ⟨g, 0, none⟩ x).setCell ⟨g, 1, none⟩ y).setCell ⟨g, 2, none⟩ z) :=
  ((h.setCell hg x).setCell hg y).setCell hg z
/-- A field, or none, as own answers it. -/
def fdO (o : Option MF) : Array Value := match o with
  | none => #[.int .i64 0, .string { data := #[] }, .string { data := #[] }]
  | some f => #[.int .i64 f.1, .string (str f.2.1), .string (str f.2.2)]
theorem fnd_cases (k : Tx) : ∀ (L : List MF) (i : Nat), (fndN k L i = -1 ∧ L.find? (fun f => f.2.1 == k) = none) ∨
    ∃ j f, fndN k L i = ((i + j : Nat) : Int) ∧ L[j]? = some f ∧ L.find? (fun f => f.2.1 == k) = some f
  | [], i => .inl ⟨rfl, rfl⟩
  | f :: L, i => by
    rw [fndN]
    by_cases hf : f.2.1 = k
    · rw [if_pos hf]
      refine .inr ⟨0, f, rfl, rfl, ?_⟩
      exact List.find?_cons_of_pos (p := fun f : MF => f.2.1 == k) (by simpa using hf)
    · rw [if_neg hf]
      have hne : ¬ (f.2.1 == k) = true := by simpa using hf
      have hfe : List.find? (fun f : MF => f.2.1 == k) (f :: L) = L.find? (fun f => f.2.1 == k) := List.find?_cons_of_neg hne
      rw [hfe]
      rcases fnd_cases k L (i + 1) with h | ⟨j, g, h1, h2, h3⟩
      · exact .inl h
      · exact .inr ⟨j + 1, g, by rw [h1]; congr 1; omega, h2, h3⟩
/-- What own answers. -/
def OwE (o : Option MF) (w : World) (e : Ending) (w' : World) : Prop := e = .returned (.tuple #[.agg (fdO o), .bool o.isSome]) ∧ Below w.heap.size w w'
theorem owE_of {o : Option MF} {w w' : World} {cs : Array Value} {b : Bool} (h1 : fdO o = cs) (h2 : o.isSome = b) (hb : Below w.heap.size w w') : OwE o w (.returned (.tuple #[.agg cs, .bool b])) w' := by
  subst h1
  subst h2
  exact ⟨rfl, hb⟩
set_option maxHeartbeats 1000000 in
set_option maxRecDepth 100000 in
theorem refOwn_any (at_ : Int) (kd : ByteArray) (v : Value) (L : List MF) (k : Tx) (w : World) (hl : L.length ≤ 1000000) (hv : RowF w v L) :
    Calls Tryz.prog 25 #[.agg #[.int .i64 at_, .string kd, v], .string (str k)] w (OwE (L.find? fun f => f.2.1 == k) w) := by
  obtain ⟨A, c, rfl, hr⟩ := hv.form
  obtain ⟨n, hn⟩ : ∃ n, L.length = n := ⟨_, rfl⟩
  rw [hn] at hr hl ⊢
  obtain ⟨g, hg⟩ : ∃ g, w.heap.size = g := ⟨_, rfl⟩
  obtain ⟨wB, hwB⟩ : ∃ x, (w.alloc (.cells #[.int .i64 at_, .string kd, .slice A n c] 52)).alloc (.cells #[.int .i64 0, .string { data := #[] }, .string { data := #[] }] 49) = x := ⟨_, rfl⟩
  have hbB : Below w.heap.size w wB := by rw [← hwB]; exact ((Below.refl _ _).alloc (Nat.le_refl _) _).alloc (by simp) _
  have hB1 : wB.heap[g]? = some (.cells #[.int .i64 at_, .string kd, .slice A n c] 52 (0, 0)) := by
    rw [← hwB, ← hg]
    exact (((Below.refl _ _).alloc (Nat.le_refl _) _).block _ (by simp)).trans (MapKept.heap_alloc w _).1
  have hB2 : wB.heap[g + 1]? = some (.cells #[.int .i64 0, .string { data := #[] }, .string { data := #[] }] 49 (0, 0)) := by
    rw [← hwB, ← hg]
    have h := (MapKept.heap_alloc (w.alloc (.cells #[.int .i64 at_, .string kd, .slice A n c] 52)) (.cells #[.int .i64 0, .string { data := #[] }, .string { data := #[] }] 49)).1
    rwa [World.size_alloc] at h
  have HF := Lib.hid (fun W (h : RowF W (.slice A n c) L) => refFind_any at_ kd (.slice A n c) L k W (by omega) h)
  have HB := Lib.hid (And.intro hbB (And.intro hB1 (And.intro hB2 hr)))
  have HFnd := Lib.hid (fnd_cases k L 0)
  have m0 := cell9_blk hB1 0 rfl
  have m1 := cell9_blk hB1 1 rfl
  have m2 := cell9_blk hB1 2 rfl
  generalize str k = S at *
  clear hbB hB1 hB2 hr hv
  go_enter Tryz.func25, Tryz.ntmps25
  go_wp2_with fail
  with_reducible refine (HF.out _ (HB.out.2.2.2.below HB.out.1)).mono ?_
  rintro e w2 ⟨rfl, hb⟩
  have hs : wB.heap.size = g + 2 := by rw [← hwB]; simp [hg]
  have h1 := (hb.block g (by omega)).trans HB.out.2.1
  have h2 := (hb.block (g + 1) (by omega)).trans HB.out.2.2.1
  have n2 := cell9_blk h1 2 rfl
  have z0 := cell9_blk h2 0 rfl
  have z1 := cell9_blk h2 1 rfl
  have z2 := cell9_blk h2 2 rfl
  have y0 := frz9_blk h2 0
  have y1 := frz9_blk h2 1
  have y2 := frz9_blk h2 2
  have HW := Lib.hid (And.intro hb (And.intro h2 (HB.out.2.2.2.below (HB.out.1.trans (hb.mono HB.out.1.size)))))
  rcases HFnd.out with ⟨f1, f2⟩ | ⟨j, f, f1, f2, f3⟩
  · rw [f1]
    have HO := Lib.hid f2
    clear f1 f2 hb h1 hs
    go_wp2_with fail
    refine bodyPost_ret (results_cellO rfl _ _ (g + 1) _ _ (0, 0) _ rfl (set3O h2) Tryz.underlying49 rfl (by kernel_rfl)) rfl ?_
    rw [HO.out]
    exact owE_of rfl rfl (below_set3O (HB.out.1.trans (HW.out.1.mono HB.out.1.size)) (by omega))
  · rw [f1, Nat.zero_add]
    have HO := Lib.hid f3
    have hjl := (List.getElem?_eq_some_iff.1 f2).1
    obtain ⟨ad, X, rfl, hX, k0, k1, k2⟩ := HW.out.2.2.parts.2.2.2 j (by omega) f f2
    have q0 : (0 : Int) ≤ j := by omega
    have q1 : (j : Int) < n := by omega
    clear f1 f2 f3 hb h1 hs
    go_wp2_with fail
    refine bodyPost_ret (results_cellO rfl _ _ (g + 1) _ _ (0, 0) _ rfl (set3O h2) Tryz.underlying49 rfl (by kernel_rfl)) rfl ?_
    rw [HO.out]
    exact owE_of rfl rfl (below_set3O (HB.out.1.trans (HW.out.1.mono HB.out.1.size)) (by omega))
end Go.Proofs.YthnogakjaaopkaaGreatDoor
/- Contract: the document's template. -/
namespace Go.Proofs.YthnogakjaaopkaaGreatDoor
open Go.RowKit

/-- A place, -1: none. -/
def tmI (o : Option Nat) : Int := match o with
  | some i => (i : Int)
  | none => -1
theorem tm_hit {l : List MB} {kd nm : Tx} {k : Nat} (hk : k < l.length) (h : isTm kd nm l[k] = true) (hno : ∀ b ∈ l.take k, isTm kd nm b = false) : (k : Int) = tmI (tmpl l kd nm) := by
  have : tmpl l kd nm = some k := by
    unfold tmpl
    refine List.findIdx?_eq_some_iff_getElem.2 ⟨hk, h, fun j hj => ?_⟩
    have := hno l[j] (List.mem_take_iff_getElem.2 ⟨j, by omega, rfl⟩)
    simpa using this
  rw [this]
  rfl
theorem tm_none {l : List MB} {kd nm : Tx} (hno : ∀ b ∈ l, isTm kd nm b = false) : (-1 : Int) = tmI (tmpl l kd nm) := by
  have : tmpl l kd nm = none := by
    unfold tmpl
    exact List.findIdx?_eq_none_iff.2 hno
  rw [this]
  rfl
theorem str_eqb (a b : Tx) : ((str a).toList == (str b).toList) = (a == b) := by rw [str_toList, str_toList]
set_option maxHeartbeats 2000000 in
set_option maxRecDepth 100000 in
theorem refTm_any (v : Value) (l : List MB) (kd nm : Tx) (w : World) (hl : l.length ≤ 1000000) (hf : ∀ b ∈ l, b.2.2.length ≤ 1000000) (hv : RowB w v l) :
    Calls Tryz.prog 37 #[v, .string (str kd), .string (str nm)] w fun e w' => e = .returned (.int .i64 (tmI (tmpl l kd nm))) ∧ Below w.heap.size w w' := by
  obtain ⟨A, c, rfl, hr⟩ := hv.form
  obtain ⟨n, hn⟩ : ∃ n, l.length = n := ⟨_, rfl⟩
  rw [hn] at hr hl ⊢
  have HR := Lib.hid (And.intro hr (And.intro hn hf))
  have HO := Lib.hid (fun at_ kdb v L W h1 h2 => refOwn_any at_ kdb v L nmN W h1 h2)
  have HK : Hid (∀ b : MB, ∀ f : MF, ownF b nmN = some f → isTm kd nm b = (((str b.2.1).toList == (str kd).toList) && ((str f.2.2).toList == (str nm).toList))) := fun b f h => by
    unfold isTm
    rw [h, str_eqb, str_eqb]
  have e0 : str nmN = { data := #[110, 97, 109, 101] } := rfl
  rw [e0] at HO
  generalize str kd = KD at *
  generalize str nm = NM at *
  clear hr hv hn hf e0
  go_enter Tryz.func37, Tryz.ntmps37
  go_wp2_with fail
  go_loopw [7] (fun i wr => ∃ k : Nat, i = .int .i64 k ∧ k ≤ n ∧ Below w.heap.size w wr ∧ ∀ b ∈ l.take k, isTm kd nm b = false) (fun i _ => n - (intOf i).toNat)
  case atStart => exact ⟨0, rfl, Nat.zero_le _, Below.refl _ _, fun b hb => by simp at hb⟩
  case round =>
    obtain ⟨k, rfl, hk, hb, hno⟩ := hrel
    have HB := Lib.hid (And.intro hb hno)
    clear hb hno
    rcases Nat.lt_or_ge k n with hlt | hge
    · have q0 : (0 : Int) ≤ k := by omega
      have q1 : (k : Int) < n := by omega
      have hkl : k < l.length := by rw [HR.out.2.1]; exact hlt
      obtain ⟨ad, X, vF, rfl, hX, k0, k1, k2, hrf⟩ := (HR.out.1.below HB.out.1).parts.2.2.2 k hlt l[k] (List.getElem?_eq_getElem hkl)
      have HT : Hid (isTm kd nm l[k] = false → ∀ b ∈ l.take (k + 1), isTm kd nm b = false) := fun h b hb => by
        rw [List.take_succ_eq_append_getElem hkl] at hb
        rcases List.mem_append.1 hb with h1 | h1
        · exact HB.out.2 b h1
        · rw [List.mem_singleton.1 h1]; exact h
      have HH : Hid (isTm kd nm l[k] = true → (k : Int) = tmI (tmpl l kd nm)) := fun h => tm_hit hkl h HB.out.2
      obtain ⟨bk, hbk⟩ : ∃ b, l[k] = b := ⟨_, rfl⟩
      have hfl := HR.out.2.2 l[k] (List.getElem_mem hkl)
      rw [hbk] at k0 k1 hrf HT HH hfl
      have HKb := Lib.hid (HK.out bk)
      have HO1 := Lib.hid (HO.out bk.1 (str bk.2.1) vF bk.2.2 wr hfl hrf)
      obtain ⟨KB, hKB⟩ : ∃ x, str bk.2.1 = x := ⟨_, rfl⟩
      rw [hKB] at k1 HKb HO1
      unfold OwE at HO1
      have k1' : Hid (∀ W, Below wr.heap.size wr W → W.cell? { block := X.block, off := X.off + 1 } = some (.string KB)) := fun W h => cell9_below k1 h
      clear hkl hbk hrf hfl hKB
      go_wp2_with fail
      with_reducible refine HO1.out.mono ?_
      rintro e w2 ⟨rfl, hb2⟩
      have j1 := k1'.out w2 hb2
      have HB2 := Lib.hid (HB.out.1.trans (hb2.mono HB.out.1.size))
      cases ho : ownF bk nmN with
      | none =>
        have HF : Hid (isTm kd nm bk = false) := by unfold Hid isTm; rw [ho]
        unfold ownF at ho
        rw [ho]
        dsimp only [Option.isSome_none, fdO]
        clear ho hb2
        go_wp2_with fail
        exact ⟨⟨k + 1, by go_num, hlt, HB2.out.alloc HB2.out.size _, HT.out HF.out⟩, by simp [intOf]; omega⟩
      | some f =>
        have HF := Lib.hid (HKb.out f ho)
        unfold ownF at ho
        rw [ho]
        dsimp only [Option.isSome_some, fdO]
        obtain ⟨FV, hFV⟩ : ∃ x, str f.2.2 = x := ⟨_, rfl⟩
        obtain ⟨FN, hFN⟩ : ∃ x, str f.2.1 = x := ⟨_, rfl⟩
        obtain ⟨w3, hw3⟩ : ∃ x, w2.alloc (.cells #[.int .i64 f.1, .string FN, .string FV] 49) = x := ⟨_, rfl⟩
        have hb3 : Below w2.heap.size w2 w3 := by rw [← hw3]; exact (Below.refl _ _).alloc (Nat.le_refl _) _
        have c1 := cell9_below j1 hb3
        have h3 : w3.heap[w2.heap.size]? = some (.cells #[.int .i64 f.1, .string FN, .string FV] 49 (0, 0)) := by rw [← hw3]; exact (MapKept.heap_alloc w2 _).1
        have c2 := cell9_blk h3 2 rfl
        have HB3 := Lib.hid (HB2.out.trans (hb3.mono HB2.out.size))
        rw [hFV] at HF ⊢
        rw [hFN]
        clear ho hb2 hb3 h3 hFV hFN
        cases g1 : (KB.toList == KD.toList) <;> rw [g1] at HF
        · go_wp2_with fail
          exact ⟨⟨k + 1, by go_num, hlt, HB3.out, HT.out HF.out⟩, by simp [intOf]; omega⟩
        · cases g2 : (FV.toList == NM.toList) <;> rw [g2] at HF
          · go_wp2_with fail
            exact ⟨⟨k + 1, by go_num, hlt, HB3.out, HT.out HF.out⟩, by simp [intOf]; omega⟩
          · go_wp2_with fail
            go_ret
            exact ⟨congrArg (fun x => Ending.returned (Value.int .i64 x)) (HH.out HF.out), HB3.out⟩
    · obtain rfl : k = n := by omega
      have q1 : ¬ ((k : Int) < k) := by omega
      have HN : Hid ((-1 : Int) = tmI (tmpl l kd nm)) := tm_none (by have := HB.out.2; rwa [List.take_of_length_le (by rw [HR.out.2.1]; exact Nat.le_refl _)] at this)
      go_wp2_with fail
      go_ret
      exact ⟨congrArg (fun x => Ending.returned (Value.int .i64 x)) HN.out, HB.out.1⟩
end Go.Proofs.YthnogakjaaopkaaGreatDoor
/- Contract: the document's Uses. -/
namespace Go.Proofs.YthnogakjaaopkaaGreatDoor
open Go.RowKit

theorem allS_snoc {α : Type} : ∀ (q : List (Option α)) (js : List α) (j : α), allS q = some js → allS (q ++ [some j]) = some (js ++ [j])
  | [], js, j, h => by
    cases h
    rfl
  | none :: _, _, _, h => by cases h
  | some a :: q, js, j, h => by
    rw [allS] at h
    cases hq : allS q with
    | none => rw [hq] at h; cases h
    | some r =>
      rw [hq] at h
      cases h
      rw [List.cons_append, allS, allS_snoc q r j hq]
      rfl
theorem allS_none {α : Type} : ∀ (q : List (Option α)), none ∈ q → allS q = none
  | none :: _, _ => rfl
  | some a :: q, h => by
    have h1 : none ∈ q := by simpa using h
    rw [allS, allS_none q h1]
    rfl
theorem allS_len {α : Type} : ∀ {q : List (Option α)} {js : List α}, allS q = some js → js.length = q.length
  | [], js, h => by cases h; rfl
  | none :: _, _, h => by cases h
  | some a :: q, js, h => by
    rw [allS] at h
    cases hq : allS q with
    | none => rw [hq] at h; cases h
    | some r => rw [hq] at h; cases h; rw [List.length_cons, List.length_cons, allS_len hq]
theorem ls_lenR (s : Tx) : (listT s).1.length ≤ 4096 := by
  unfold listT
  split
  · simp
  · split
    · simp
    · rename_i h
      have h0 : chkT (partsT s) = 0 := by simpa using h
      unfold chkT at h0
      split at h0
      · omega
      · split at h0
        · omega
        · split at h0
          · omega
          · show (partsT s).length ≤ 4096
            omega
theorem namesU_ok {l : List MB} {kd : Tx} {q : List Tx} {js : List Nat} (h : allS (q.map (tmpl l kd)) = some js) : namesU l kd q = (js, 0) := by
  unfold namesU
  rw [h]
theorem namesU_no {l : List MB} {kd : Tx} {q : List Tx} (h : none ∈ q.map (tmpl l kd)) : namesU l kd q = ([], 8) := by
  unfold namesU
  rw [allS_none _ h]
/-- How Uses ends. -/
def UsE (R : List Nat × Nat) (w : World) (e : Ending) (w' : World) : Prop := ∃ v, e = .returned (.tuple #[v, .int .i64 (R.2 : Nat)]) ∧ RowN w' v R.1 ∧ Below w.heap.size w w'
theorem usE_of {R : List Nat × Nat} {w w' : World} {v : Value} {L : List Nat} {k : Nat} {j : Int} (hR : (L, k) = R) (hj : j = k) (hv : RowN w' v L) (hb : Below w.heap.size w w') : UsE R w (.returned (.tuple #[v, .int .i64 j])) w' := by
  subst hR
  subst hj
  exact ⟨v, rfl, hv, hb⟩
set_option maxHeartbeats 4000000 in
set_option maxRecDepth 100000 in
theorem refUses_any (v : Value) (l : List MB) (i : Nat) (b : MB) (w : World) (hl : l.length ≤ 1000000) (hf : ∀ b ∈ l, b.2.2.length ≤ 1000000 ∧ ∀ f ∈ b.2.2, f.2.2.length ≤ 900000) (hb : l[i]? = some b) (hv : RowB w v l) :
    Calls Tryz.prog 39 #[v, .int .i64 (i : Nat)] w (UsE (usesB l b) w) := by
  obtain ⟨A, c, rfl, hr⟩ := hv.form
  obtain ⟨n, hn⟩ : ∃ n, l.length = n := ⟨_, rfl⟩
  rw [hn] at hr hl ⊢
  have hil : i < n := by rw [← hn]; exact (List.getElem?_eq_some_iff.1 hb).1
  have hbm : b ∈ l := List.mem_of_getElem? hb
  obtain ⟨ad, X, vF, rfl, hX, k0, k1, k2, hrf⟩ := hr.parts.2.2.2 i hil b hb
  obtain ⟨R, hR⟩ : ∃ R, usesB l b = R := ⟨_, rfl⟩
  rw [hR]
  have HO1 := Lib.hid (refOwn_any b.1 (str b.2.1) vF b.2.2 nmU w (hf b hbm).1 hrf)
  have e0 : str nmU = { data := #[117, 115, 101] } := rfl
  rw [e0] at HO1
  unfold OwE at HO1
  have HT := Lib.hid (fun nm W (h : RowB W (.slice (some ad) n c) l) => refTm_any (.slice (some ad) n c) l b.2.1 nm W (by rw [hn]; exact hl) (fun b hb => (hf b hb).1) h)
  obtain ⟨KB, hKB⟩ : ∃ x, str b.2.1 = x := ⟨_, rfl⟩
  rw [hKB] at k1 HO1 HT
  have q0 : (0 : Int) ≤ i := by omega
  have q1 : (i : Int) < n := by omega
  have HK1 : Hid (∀ W, Below w.heap.size w W → W.cell? { block := X.block, off := X.off + 1 } = some (.string KB)) := fun W h => cell9_below k1 h
  have HRr := Lib.hid hr
  have hown : ∀ f, ownF b nmU = some f → f ∈ b.2.2 := fun f h => List.mem_of_find?_eq_some h
  cases ho : ownF b nmU with
  | none =>
    have HR : Hid (([], 0) = R) := by unfold Hid; rw [← hR, usesB, ho]
    unfold ownF at ho
    rw [ho] at HO1
    dsimp only [Option.isSome_none, fdO] at HO1
    clear ho hR hf hr hv hrf hown hn hbm
    go_enter Tryz.func39, Tryz.ntmps39
    go_wp2_with fail
    with_reducible refine HO1.out.mono ?_
    rintro e w2 ⟨rfl, hb2⟩
    have HB2 := Lib.hid hb2
    clear hb2
    go_wp2_with fail
    go_ret2
    exact usE_of HR.out rfl (RowN.none _) (HB2.out.alloc HB2.out.size _)
  | some f =>
    have hfm := hown f ho
    have hfl := (hf b hbm).2 f hfm
    have hRR : (if (listT f.2.2).2 ≠ 0 then ([], (listT f.2.2).2) else namesU l b.2.1 (listT f.2.2).1) = R := by rw [← hR, usesB, ho]
    have HLs := Lib.hid (fun W => refList_any f.2.2 W hfl)
    unfold RlE at HLs
    unfold ownF at ho
    rw [ho] at HO1
    dsimp only [Option.isSome_some, fdO] at HO1
    have hlen := ls_lenR f.2.2
    rcases hq : listT f.2.2 with ⟨q, k⟩
    rw [hq] at HLs hRR hlen
    dsimp only at HLs hRR hlen
    have HRR := Lib.hid hRR
    obtain ⟨FV, hFV⟩ : ∃ x, str f.2.2 = x := ⟨_, rfl⟩
    obtain ⟨FN, hFN⟩ : ∃ x, str f.2.1 = x := ⟨_, rfl⟩
    rw [hFV] at HLs HO1
    rw [hFN] at HO1
    clear ho hR hf hr hv hrf hown hn hbm hfm hfl hRR hq hFV hFN
    go_enter Tryz.func39, Tryz.ntmps39
    go_wp2_with fail
    with_reducible refine HO1.out.mono ?_
    rintro e w2 ⟨rfl, hb2⟩
    obtain ⟨w3, hw3⟩ : ∃ x, w2.alloc (.cells #[.int .i64 f.1, .string FN, .string FV] 49) = x := ⟨_, rfl⟩
    have hb3 : Below w2.heap.size w2 w3 := by rw [← hw3]; exact (Below.refl _ _).alloc (Nat.le_refl _) _
    have h3 : w3.heap[w2.heap.size]? = some (.cells #[.int .i64 f.1, .string FN, .string FV] 49 (0, 0)) := by rw [← hw3]; exact (MapKept.heap_alloc w2 _).1
    have c2 := cell9_blk h3 2 rfl
    have HB3 := Lib.hid (hb2.trans (hb3.mono hb2.size))
    clear hb2 hb3 h3
    go_wp2_with fail
    with_reducible refine (HLs.out _).mono ?_
    rintro e w4 ⟨v4, rfl, hrow, hb4⟩
    have HB4 := Lib.hid (HB3.out.trans (hb4.mono HB3.out.size))
    by_cases hk : k = 0
    · subst hk
      obtain ⟨A4, c4, rfl, _, _, hr4⟩ := hrow
      have HQ := Lib.hid hr4
      obtain ⟨m, hm⟩ : ∃ m, q.length = m := ⟨_, rfl⟩
      rw [hm] at hlen ⊢
      have HM := Lib.hid hm
      rw [if_neg (by simp)] at HRR
      clear hb4 hr4 hm
      go_wp2_with fail
      go_loopw [10, 11] (fun o kv wr => ∃ (a : Nat) (js : List Nat), kv = .int .i64 a ∧ a ≤ m ∧ allS ((q.take a).map (tmpl l b.2.1)) = some js ∧ js.length = a ∧ wr.ownsRow w4.heap.size 3 1 o a (js.map intC) ∧ Below w4.heap.size w4 wr) (fun _ kv _ => m - (intOf kv).toNat)
      case atStart => exact ⟨0, [], rfl, Nat.zero_le _, rfl, rfl, World.ownsRow_nil _ _ _ _, Below.refl _ _⟩
      case round =>
        obtain ⟨a, js, rfl, ha, hal, hjs, how, hbw⟩ := hrel
        have HA := Lib.hid (And.intro hal (And.intro hjs (And.intro how hbw)))
        have HBw := Lib.hid (HB4.out.trans (hbw.mono HB4.out.size))
        rcases Nat.lt_or_ge a m with hlt | hge
        · have q2 : (0 : Int) ≤ a := by omega
          have q3 : (a : Int) < m := by omega
          have haq : a < q.length := by rw [HM.out]; exact hlt
          have hqm : a < (q.map txC).length := by rw [List.length_map]; exact haq
          obtain ⟨adq, rfl, cq⟩ := (Rd.below HQ.out hbw).at_ hqm
          have hx : (q.map txC)[a] = .string (str q[a]) := by rw [List.getElem_map]; rfl
          rw [hx] at cq
          have j1 := HK1.out wr HBw.out
          have HTa := Lib.hid (fun W h => HT.out q[a] W h)
          have htk : (q.take (a + 1)).map (tmpl l b.2.1) = (q.take a).map (tmpl l b.2.1) ++ [tmpl l b.2.1 q[a]] := by rw [List.take_succ_eq_append_getElem haq, List.map_append]; rfl
          have hin : tmpl l b.2.1 q[a] ∈ q.map (tmpl l b.2.1) := List.mem_map.2 ⟨q[a], List.getElem_mem haq, rfl⟩
          have HTk := Lib.hid (And.intro htk hin)
          generalize str q[a] = QA at *
          obtain ⟨t, ht⟩ : ∃ t, tmpl l b.2.1 q[a] = t := ⟨_, rfl⟩
          rw [ht] at HTa HTk
          have HS := Lib.hid (And.intro j1 cq)
          have HSt : Hid (∀ W', Below wr.drew.heap.size wr.drew W' → W'.cell? { block := X.block, off := X.off + 1 } = some (.string KB) ∧ W'.cell? (adq.add a) = some (.string QA)) := fun W' h => ⟨cell9_below (w := wr.drew) j1 h, cell9_below (w := wr.drew) cq h⟩
          have hdr : Below w.heap.size w wr.drew := ⟨HBw.out.os, HBw.out.tape, HBw.out.output, HBw.out.size, HBw.out.block⟩
          have HRd := Lib.hid (HRr.out.below hdr)
          clear hal hjs how hbw haq hqm hx htk hin ht hdr
          go_wp2_with fail
          go_region_held3 (fun W => W.cell? { block := X.block, off := X.off + 1 } = some (.string KB) ∧ W.cell? (adq.add a) = some (.string QA)) (first | exact HS.out | exact HSt.out _ (by assumption)) (first
            | (go_at_call 37
               refine (HTa.out _ HRd.out).mono ?_
               rintro e w' ⟨rfl, hbt⟩))
          have hbt2 : Below wr.heap.size wr w' := ⟨hbt.os, hbt.tape, hbt.output, hbt.size, hbt.block⟩
          have HBt := Lib.hid (And.intro hbt2 (HBw.out.trans (hbt2.mono HBw.out.size)))
          clear hbt hbt2
          cases t with
          | none =>
            have HR : Hid (([], 8) = R) := by unfold Hid; rw [← HRR.out, namesU_no HTk.out.2]
            have e5 : tmI none = -1 := rfl
            rw [e5]
            clear e5
            go_wp2_with fail
            go_ret2
            exact usE_of HR.out rfl (RowN.none _) HBt.out.2
          | some j =>
            have e5 : tmI (some j) = (j : Int) := rfl
            rw [e5]
            clear e5
            have hj0 : (0 : Int) ≤ j := by omega
            have hj1 : ¬ ((j : Int) < 0) := by omega
            have HO := Lib.hid (own_sameO HA.out.2.2.1 HBt.out.1)
            have hbb := HA.out.2.2.2.trans (HBt.out.1.mono HA.out.2.2.2.size)
            have HBB := Lib.hid hbb
            clear hbb
            go_wp2_with
              (at_builtin
               refine wpList_app rfl (.tmp 51) (.tmp 53) 64 rfl elN w4.heap.size u10 a (js.map intC) rfl (HO.out.alloc _) (some ⟨w'.heap.size, 0, none⟩) 1 1 [.int .i64 j] rfl rfl (Rd.block (MapKept.heap_alloc w' (.cells #[.int .i64 j] 3)).1) (fun u hu => by rw [List.mem_singleton.1 hu]; rfl) (by unfold maxLen; omega) (by omega) (by rw [World.size_alloc]; have := HBB.out.size; omega) ?_)
            intro v' w'' ho hg hob
            have HN2 := Lib.hid (And.intro ho (And.intro hg hob))
            clear ho hg hob
            go_wp2_with fail
            refine ⟨⟨a + 1, js ++ [j], by go_num, hlt, by rw [HTk.out.1]; exact allS_snoc _ _ _ HA.out.1, by rw [List.length_append, HA.out.2.1]; rfl, ?_, (HBB.out.alloc HBB.out.size _).grown HN2.out.2.1 (by rw [World.size_alloc]; have := HBB.out.size; omega) (fun k hk => (HO.out.lt k hk).1)⟩, by simp [intOf]; omega⟩
            rw [List.map_append, List.map_singleton]
            exact HN2.out.1
        · obtain rfl : a = m := by omega
          have q3 : ¬ ((a : Int) < a) := by omega
          have HR : Hid ((js, 0) = R) := by
            unfold Hid
            rw [← HRR.out]
            have h := HA.out.1
            rw [List.take_of_length_le (by rw [HM.out]; exact Nat.le_refl _)] at h
            rw [namesU_ok h]
          have HV := Lib.hid (RowN.owned hjs how)
          obtain ⟨A5, c5, hv5, h5⟩ := RowN.owned hjs how
          subst hv5
          clear hal how hbw h5 hge
          go_wp2_with fail
          go_ret2
          exact usE_of (v := .slice A5 a c5) HR.out rfl (by have h := HV.out; rwa [HA.out.2.1] at h) HBw.out
    · have HR : Hid (([], k) = R) := by have h := HRR.out; rwa [if_pos hk] at h
      have e1 : ((k : Int) == 0) = false := beq_eq_false_iff_ne.2 (by omega)
      have e2 : ¬ ((k : Int) = 0) := by omega
      clear hk hb4
      go_wp2_with fail
      go_ret2
      exact usE_of HR.out rfl (RowN.none _) HB4.out
theorem edg_len (l : List MB) (i : Nat) : (edg l i).length ≤ 1000000 := by
  unfold edg usesT
  split
  · simp
  · unfold usesB
    split
    · simp
    · split
      · simp
      · unfold namesU
        split
        · simp
        · rename_i js hjs
          have h1 := allS_len hjs
          rw [List.length_map] at h1
          dsimp only
          rw [h1]
          exact Nat.le_trans (ls_lenR _) (by decide)
theorem edg_at {l : List MB} {i : Nat} {b : MB} (h : l[i]? = some b) : edg l i = (usesB l b).1 := by
  unfold edg usesT
  rw [h]
theorem rowN_grown {w w' : World} {g : Nat} {v : Value} {L : List Nat} (h : RowN w v L) (hg : w.grownBy w' (some g)) (hz : ∀ j x, w.cell? ⟨g, j, none⟩ ≠ some (intC x)) : RowN w' v L := by
  obtain ⟨A, c, rfl, h1, h2, h3⟩ := h
  refine ⟨A, c, rfl, h1, h2, fun hn => ?_⟩
  obtain ⟨ad, rfl, hc⟩ := h3 hn
  have h0 := hc 0 _ (List.getElem?_eq_getElem hn)
  rw [List.getElem_map] at h0
  have hne : ad.block ≠ g := by
    rintro rfl
    obtain ⟨B, o, s⟩ := ad
    cases s with
    | none => exact hz o _ h0
    | some s =>
      unfold World.cell? at h0
      unfold Addr.add at h0
      simp only [if_true] at h0
      split at h0
      · simp at h0
      · cases h0
  have hlt := World.block_lt_of_cell? w _ h0
  rw [block_add] at hlt
  exact ⟨ad, rfl, fun j u hu => (World.cell?_of_block (a := ad.add j) (by rw [block_add]; exact hg.block _ hlt (fun e => by injection e with e; exact hne e))).trans (hc j u hu)⟩
end Go.Proofs.YthnogakjaaopkaaGreatDoor

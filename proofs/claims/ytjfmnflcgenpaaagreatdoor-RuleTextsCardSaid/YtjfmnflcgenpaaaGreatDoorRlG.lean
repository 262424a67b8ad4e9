/- Contracts: rule's tell, tellDate. -/
import Derived.Test.YtjfmnflcgenpaaaGreatDoorRlF
namespace Go.Proofs.YtjfmnflcgenpaaaGreatDoor
open Go.RowKit

def intL (ns : List Int) : List Value := ns.map fun n => .int .i64 n
theorem intL_length (ns : List Int) : (intL ns).length = ns.length := by simp [intL]
theorem str_strI {a b : ByteArray} (h : a = b) : Ending.returned (.string a) = .returned (.string b) := by rw [h]
set_option maxRecDepth 100000 in
set_option maxHeartbeats 1000000 in
theorem tell_any (sep : ByteArray) (ns : List Int) (A : Option Addr) (n c : Nat) (w : World) (hn : ns.length = n) (h1 : 1 ≤ n) (h3 : n ≤ 3) (hc : n ≤ c) (hr : Rd w A (intL ns)) (hb : ∀ x ∈ ns, -9223372036854775808 ≤ x ∧ x ≤ 9223372036854775807) (hs : sep.size ≤ 10) (hE : En w) :
    Calls Tryz.prog 30 #[.string sep, .slice A n c] w fun e w' => e = .returned (.string (str (Lib.join (ns.map Lib.itoa) sep.data.toList))) ∧ Below w.heap.size w w' := by
  have hmk := run_mk elStr n n (by omega) (by omega) (by omega) (by omega) w
  have e1 : ((n : Int)).toNat = n := by omega
  rw [e1] at hmk
  have hms : (madeCells (Value.string ByteArray.empty).cells n).size = n := size_madeCells _ _
  have HI := Lib.hid (fun i (h1 : -9223372036854775808 ≤ i) h2 W (hP : Pow W) => itoa_any i W h1 h2 hP)
  have hlen := join_len sep.data.toList (ns.map Lib.itoa) (by rw [List.length_map]; omega) (by
    intro x hx
    obtain ⟨i, hi, rfl⟩ := List.mem_map.1 hx
    exact Lib.itoa_length_le i (hb i hi).1 (hb i hi).2) (by simpa using hs)
  have HJ := Lib.hid (fun g W hc hg => join_any g n (ns.map Lib.itoa) sep W n (by rw [List.length_map]; exact hn) hc hg h3 (Nat.le_refl _) hlen)
  generalize str (Lib.join (ns.map Lib.itoa) sep.data.toList) = R at *
  have HR := Lib.hid hr
  have HE := Lib.hid hE
  have HN := Lib.hid hn
  have HBd := Lib.hid hb
  clear hr hE hlen hs hn hb
  generalize madeCells (Value.string ByteArray.empty).cells n = mc at *
  have HM := Lib.hid hms
  have G0 := Lib.hid (heap_alloc_new w (.cells mc 9))
  have HB0 := Lib.hid ((Below.refl w.heap.size w).alloc (Nat.le_refl _) (.cells mc 9))
  clear hms
  go_enter Tryz.func30, Tryz.ntmps30
  go_wp2_with fail
  go_loopw [13] (fun i wr => ∃ k : Nat, i = .int .i64 k ∧ k ≤ n ∧ Below w.heap.size w wr ∧ ∃ cs, wr.heap[w.heap.size]? = some (.cells cs 9 (0, 0)) ∧ cs.size = n ∧ ∀ j x, j < k → ns[j]? = some x → cs[j]? = some (.string (str (Lib.itoa x)))) (fun i _ => n - (intOf i).toNat)
  case atStart => exact ⟨0, rfl, Nat.zero_le _, HB0.out, mc, G0.out, HM.out, fun j x h => absurd h (Nat.not_lt_zero _)⟩
  case round =>
    obtain ⟨k, rfl, hk, hb, cs, hg, hcs, hin⟩ := hrel
    have HB := Lib.hid hb
    have HIn := Lib.hid hin
    have hlt0 := (Array.getElem?_eq_some_iff.1 hg).1
    have HG := Lib.hid hg
    clear hb hin hg G0 HB0 hmk
    by_cases hlt : k < n
    · obtain ⟨x, hx⟩ : ∃ x, ns[k]? = some x := ⟨_, List.getElem?_eq_getElem (by rw [HN.out]; exact hlt)⟩
      obtain ⟨x1, x2⟩ := HBd.out x (List.mem_of_getElem? hx)
      obtain ⟨ad, rfl, hcs0⟩ := HR.out.below HB.out (by rw [intL_length, HN.out]; omega)
      have hc0 := hcs0 k (.int .i64 x) (by unfold intL; rw [List.getElem?_map, hx]; rfl)
      have HX := Lib.hid hx
      have HI1 := Lib.hid (HI.out x x1 x2)
      clear hx hcs0 x1 x2
      go_wp2_with fail
      refine (HI1.out wr (HE.out.below HB.out).pow).mono ?_
      rintro e w2 ⟨rfl, hb2⟩
      have HB2 := Lib.hid (HB.out.trans (hb2.mono HB.out.size))
      have hg2 := (hb2.block w.heap.size hlt0).trans HG.out
      have HG2 := Lib.hid hg2
      obtain ⟨old, hold⟩ : ∃ v, cs[k]? = some v := ⟨_, Array.getElem?_eq_getElem (by rw [hcs]; exact hlt)⟩
      have hc1 := cell_blk hg2 k hold
      have hf1 := frz_blk hg2 k
      clear hb2 hg2 hold hc0 HG
      go_wp2_with fail
      go_roundw
      case rel =>
        refine ⟨k + 1, by go_num, by omega, HB2.out.setCell (Nat.le_refl _) _, _, heap_setCell_same w2 w.heap.size k cs _ _ HG2.out, by simpa using hcs, fun j z hj hz => ?_⟩
        by_cases hjk : j = k
        · subst hjk
          rw [HX.out] at hz
          injection hz with hz
          subst hz
          simp [hcs, hlt]
        · rw [Array.getElem?_setIfInBounds_ne (by omega)]
          exact HIn.out j z (by omega) hz
      case measure => simp [intOf]; omega
    · obtain rfl : k = n := by omega
      have HC : Hid (∀ (j : Nat) x, (ns.map Lib.itoa)[j]? = some x → wr.cell? ⟨w.heap.size, j, none⟩ = some (.string (str x))) := by
        intro j x hx
        rw [List.getElem?_map] at hx
        cases hq : ns[j]? with
        | none => rw [hq] at hx; cases hx
        | some z =>
          rw [hq] at hx
          injection hx with hx
          subst hx
          have hj := (List.getElem?_eq_some_iff.1 hq).1
          rw [HN.out] at hj
          exact cell_blk HG.out j (HIn.out j z hj hq)
      go_wp2_with fail
      refine (HJ.out w.heap.size wr HC.out hlt0).mono ?_
      rintro e w2 ⟨rfl, hb2⟩
      have HB2 := Lib.hid (HB.out.trans (hb2.mono HB.out.size))
      clear hb2
      go_wp2_with fail
      go_ret
      exact ⟨rfl, HB2.out⟩
theorem str_append (a b : List UInt8) : str a ++ str b = str (a ++ b) := by
  apply ByteArray.ext
  simp [str]
/-- Two strings together, by a name of their own. -/
theorem add_named (a b : ByteArray) (h : a.size ≤ 1000000) (h2 : b.size ≤ 1000000) : ∃ z : ByteArray, (∀ W, (Op.stringOp .add a b).run Tryz.prog W = .ok (.string z) W) ∧ z = a ++ b ∧ z.size = a.size + b.size :=
  ⟨a ++ b, fun W => run_string_add_sum W a b (by omega), rfl, by simp⟩
theorem join2 (sep a b : List UInt8) : Lib.join [a, b] sep = a ++ (sep ++ b) := by rw [Lib.join_cons]; simp [Lib.joinTail]
theorem join3 (sep a b c : List UInt8) : Lib.join [a, b, c] sep = a ++ (sep ++ (b ++ (sep ++ c))) := by rw [Lib.join_cons]; simp [Lib.joinTail]
theorem dtx_join (y m d : Int) : Lib.join ([y, m, d].map Lib.itoa) [45] = dtx y m d := by
  rw [List.map_cons, List.map_cons, List.map_cons, List.map_nil, join3]
  rfl
set_option maxRecDepth 100000 in
theorem tellDate_any (y m d : Int) (w : World) (hb : ∀ x ∈ [y, m, d], -9223372036854775808 ≤ x ∧ x ≤ 9223372036854775807) (hE : En w) :
    Calls Tryz.prog 31 #[dt y m d] w fun e w' => e = .returned (.string (str (dtx y m d))) ∧ Below w.heap.size w w' := by
  have hb0 := (((Below.refl w.heap.size w).alloc (Nat.le_refl _) (.cells #[.int .i64 y, .int .i64 m, .int .i64 d] 30))).alloc (by simp) (.cells #[.int .i64 y, .int .i64 m, .int .i64 d] 3)
  have hr := Rd.block (heap_new2 w (.cells #[.int .i64 y, .int .i64 m, .int .i64 d] 30) (.cells #[.int .i64 y, .int .i64 m, .int .i64 d] 3))
  have HT := Lib.hid (tell_any { data := #[45] } [y, m, d] _ 3 3 _ rfl (by omega) (by omega) (by omega) hr hb (by decide) (hE.below hb0))
  have e1 : ({ data := #[45] } : ByteArray).data.toList = [45] := rfl
  rw [e1, dtx_join] at HT
  have HB := Lib.hid hb0
  clear hr hE hb0 hb e1
  unfold dt
  go_enter Tryz.func31, Tryz.ntmps31
  go_wp2_with fail
  refine HT.out.mono ?_
  rintro e w1 ⟨rfl, hb1⟩
  have HB1 := Lib.hid (HB.out.trans (hb1.mono HB.out.size))
  clear hb1
  go_wp2_with fail
  go_ret
  exact ⟨rfl, HB1.out⟩
end Go.Proofs.YtjfmnflcgenpaaaGreatDoor

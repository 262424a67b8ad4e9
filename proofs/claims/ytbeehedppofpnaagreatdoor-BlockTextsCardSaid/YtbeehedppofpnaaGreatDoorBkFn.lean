/- Contracts: slices.IndexFunc, ContainsFunc at fields and at blocks; Get. -/
import Derived.Test.YtbeehedppofpnaaGreatDoorBkA
import Derived.Test.YtbeehedppofpnaaGreatDoorBkMem
import Derived.Test.YtbeehedppofpnaaGreatDoorBkR
namespace Go.Proofs.YtbeehedppofpnaaGreatDoor
open Go.RowKit

set_option maxRecDepth 100000 in
set_option maxHeartbeats 1000000 in
theorem indexF (A : Option Addr) (n c : Nat) (g : FuncId) (caps : Array Value) (w : World) (eg : Ent1 g) (N : Nat → MF) (I J : Nat → World → Prop)
    (hI : ∀ k W, k < n → I k W → ∃ ad X, A = some ad ∧ ad.add (k * 3) = X ∧ W.cell? X = some (.int .i64 (N k).1) ∧ W.cell? { block := X.block, off := X.off + 1 } = some (.string (str (N k).2.1)) ∧ W.cell? { block := X.block, off := X.off + 2 } = some (.string (str (N k).2.2)))
    (hp : ∀ k W, k < n → I k W → Calls Tryz.prog g (#[.agg #[.int .i64 (N k).1, .string (str (N k).2.1), .string (str (N k).2.2)]] ++ caps) W fun e W' => (e = .returned (.bool true) ∧ J k W') ∨ (e = .returned (.bool false) ∧ I (k + 1) W'))
    (h0 : I 0 w) (hl : n ≤ 1000000) :
    Calls Tryz.prog 66 #[.slice A n c, .func (.func g) #[] caps] w fun e w' => (∃ k : Nat, k < n ∧ e = .returned (.int .i64 k) ∧ J k w') ∨ (e = .returned (.int .i64 (-1)) ∧ I n w') := by
  have HI := Lib.hid hI
  have HP := Lib.hid hp
  have H0 := Lib.hid h0
  clear hI hp h0
  unfold Ent1 at eg
  go_enter Tryz.func66, Tryz.ntmps66
  go_wp2_with fail
  go_loopw [8] (fun i wr => ∃ k : Nat, k ≤ n ∧ i = .int .i64 k ∧ I k wr) (fun i _ => n - (intOf i).toNat)
  case atStart => exact ⟨0, Nat.zero_le _, rfl, H0.out⟩
  case round =>
    obtain ⟨k, hk, rfl, hik⟩ := hrel
    have HK := Lib.hid hik
    clear hik
    by_cases hlk : k < n
    · obtain ⟨ad, X, rfl, hX, c0, c1, c2⟩ := HI.out k _ hlk HK.out
      have HPk := Lib.hid (HP.out k _ hlk HK.out)
      obtain ⟨a, ha⟩ : ∃ x, (N k).1 = x := ⟨_, rfl⟩
      obtain ⟨S1, h1⟩ : ∃ x, str (N k).2.1 = x := ⟨_, rfl⟩
      obtain ⟨S2, h2⟩ : ∃ x, str (N k).2.2 = x := ⟨_, rfl⟩
      rw [ha] at c0
      rw [h1] at c1
      rw [h2] at c2
      rw [ha, h1, h2] at HPk
      clear ha h1 h2
      go_wp2_with fail
      refine HPk.out.mono ?_
      rintro e w' (⟨rfl, hj⟩ | ⟨rfl, hi⟩)
      · have HJ := Lib.hid hj
        clear hj c0 c1 c2
        go_wp2_with fail
        go_ret
        exact .inl ⟨k, hlk, rfl, HJ.out⟩
      · have HN := Lib.hid hi
        clear hi c0 c1 c2
        go_wp2_with fail
        go_roundw
        case rel => exact ⟨k + 1, by omega, by go_num, HN.out⟩
        case measure => simp [intOf]; omega
    · obtain rfl : k = n := by omega
      go_wp2_with fail
      go_ret
      exact .inr ⟨rfl, HK.out⟩
set_option maxRecDepth 100000 in
set_option maxHeartbeats 1000000 in
theorem indexB (A : Option Addr) (n c : Nat) (g : FuncId) (caps : Array Value) (w : World) (eg : Ent1 g) (N : Nat → MB) (V : Nat → Value) (I J : Nat → World → Prop)
    (hI : ∀ k W, k < n → I k W → ∃ ad X, A = some ad ∧ ad.add (k * 3) = X ∧ W.cell? X = some (.int .i64 (N k).1) ∧ W.cell? { block := X.block, off := X.off + 1 } = some (.string (str (N k).2.1)) ∧ W.cell? { block := X.block, off := X.off + 2 } = some (V k))
    (hp : ∀ k W, k < n → I k W → Calls Tryz.prog g (#[.agg #[.int .i64 (N k).1, .string (str (N k).2.1), V k]] ++ caps) W fun e W' => (e = .returned (.bool true) ∧ J k W') ∨ (e = .returned (.bool false) ∧ I (k + 1) W'))
    (h0 : I 0 w) (hl : n ≤ 1000000) :
    Calls Tryz.prog 69 #[.slice A n c, .func (.func g) #[] caps] w fun e w' => (∃ k : Nat, k < n ∧ e = .returned (.int .i64 k) ∧ J k w') ∨ (e = .returned (.int .i64 (-1)) ∧ I n w') := by
  have HI := Lib.hid hI
  have HP := Lib.hid hp
  have H0 := Lib.hid h0
  clear hI hp h0
  unfold Ent1 at eg
  go_enter Tryz.func69, Tryz.ntmps69
  go_wp2_with fail
  go_loopw [8] (fun i wr => ∃ k : Nat, k ≤ n ∧ i = .int .i64 k ∧ I k wr) (fun i _ => n - (intOf i).toNat)
  case atStart => exact ⟨0, Nat.zero_le _, rfl, H0.out⟩
  case round =>
    obtain ⟨k, hk, rfl, hik⟩ := hrel
    have HK := Lib.hid hik
    clear hik
    by_cases hlk : k < n
    · obtain ⟨ad, X, rfl, hX, c0, c1, c2⟩ := HI.out k _ hlk HK.out
      have HPk := Lib.hid (HP.out k _ hlk HK.out)
      obtain ⟨a, ha⟩ : ∃ x, (N k).1 = x := ⟨_, rfl⟩
      obtain ⟨S1, h1⟩ : ∃ x, str (N k).2.1 = x := ⟨_, rfl⟩
      obtain ⟨S2, h2⟩ : ∃ x, V k = x := ⟨_, rfl⟩
      rw [ha] at c0
      rw [h1] at c1
      rw [h2] at c2
      rw [ha, h1, h2] at HPk
      clear ha h1 h2
      go_wp2_with fail
      refine HPk.out.mono ?_
      rintro e w' (⟨rfl, hj⟩ | ⟨rfl, hi⟩)
      · have HJ := Lib.hid hj
        clear hj c0 c1 c2
        go_wp2_with fail
        go_ret
        exact .inl ⟨k, hlk, rfl, HJ.out⟩
      · have HN := Lib.hid hi
        clear hi c0 c1 c2
        go_wp2_with fail
        go_roundw
        case rel => exact ⟨k + 1, by omega, by go_num, HN.out⟩
        case measure => simp [intOf]; omega
    · obtain rfl : k = n := by omega
      go_wp2_with fail
      go_ret
      exact .inr ⟨rfl, HK.out⟩
/-- ContainsFunc of fields, by a closure that answers p k and keeps I. -/
theorem containsF {v : Value} {L : List MF} (g : FuncId) (caps : Array Value) (w : World) (eg : Ent1 g) (p : Nat → Bool) (I : Nat → World → Prop) (hl : L.length ≤ 1000000) (hv : RowF w v L) (h0 : I 0 w) (hI : ∀ k W, I k W → Below w.heap.size w W)
    (hp : ∀ k f W, L[k]? = some f → I k W → Calls Tryz.prog g (#[.agg #[.int .i64 f.1, .string (str f.2.1), .string (str f.2.2)]] ++ caps) W fun e W' => e = .returned (.bool (p k)) ∧ Below w.heap.size w W' ∧ (p k = false → I (k + 1) W')) :
    Calls Tryz.prog 46 #[v, .func (.func g) #[] caps] w fun e w' => e = .returned (.bool ((List.range L.length).any p)) ∧ Below w.heap.size w w' := by
  obtain ⟨A, c, rfl, hr⟩ := hv.form
  have HX := Lib.hid (indexF A L.length c g caps w eg (fun k => L.getD k (0, [], [])) (fun k W => I k W ∧ ∀ j, j < k → p j = false) (fun k W => Below w.heap.size w W ∧ p k = true) (fun k W hk hW => by
    have hgd : L[k]? = some (L.getD k (0, [], [])) := by rw [List.getD_eq_getElem?_getD, List.getElem?_eq_getElem hk]; rfl
    obtain ⟨ad, X, e1, e2, e3, e4, e5⟩ := (hr.below (hI k W hW.1)).parts.2.2.2 k hk _ hgd
    exact ⟨ad, X, e1, e2, e3, e4, e5⟩) (fun k W hk hW => by
    have hgd : L[k]? = some (L.getD k (0, [], [])) := by rw [List.getD_eq_getElem?_getD, List.getElem?_eq_getElem hk]; rfl
    refine (hp k _ W hgd hW.1).mono ?_
    rintro e W' ⟨rfl, hb, hi⟩
    cases hpk : p k
    · exact .inr ⟨rfl, hi hpk, fun j hj => by
        rcases Nat.lt_succ_iff_lt_or_eq.1 hj with h | h
        · exact hW.2 j h
        · rw [h]; exact hpk⟩
    · exact .inl ⟨rfl, hb, rfl⟩) ⟨h0, fun j hj => absurd hj (Nat.not_lt_zero j)⟩ hl)
  have HF := Lib.hid hI
  have hno : ∀ W, (I L.length W ∧ ∀ j, j < L.length → p j = false) → (List.range L.length).any p = false := fun W h => by
    rw [List.any_eq_false]
    intro j hj
    rw [h.2 j (List.mem_range.1 hj)]
    simp
  have hyes : ∀ k, k < L.length → p k = true → (List.range L.length).any p = true := fun k hk h => List.any_eq_true.2 ⟨k, List.mem_range.2 hk, h⟩
  have HN := Lib.hid (And.intro hno hyes)
  clear hno hyes hp h0 hI hl hv hr eg
  obtain ⟨n, hn⟩ : ∃ n, L.length = n := ⟨_, rfl⟩
  rw [hn] at HX HN ⊢
  clear hn
  go_enter Tryz.func46, Tryz.ntmps46
  go_wp2_with fail
  refine HX.out.mono ?_
  rintro e w' (⟨k, hk, rfl, hj⟩ | ⟨rfl, hi⟩)
  · have HJ := Lib.hid (And.intro hk hj)
    clear hj hk
    go_wp2_with fail
    go_ret
    exact ⟨ret_bool8 (HN.out.2 k HJ.out.1 HJ.out.2.2).symm, HJ.out.2.1⟩
  · have HJ := Lib.hid hi
    clear hi
    go_wp2_with fail
    go_ret
    exact ⟨ret_bool8 (HN.out.1 _ HJ.out).symm, HF.out _ _ HJ.out.1⟩
/-- ContainsFunc of blocks, by a closure that answers p and reads. -/
theorem containsB {v : Value} {L : List MB} (g : FuncId) (caps : Array Value) (w : World) (eg : Ent1 g) (p : MB → Bool) (hl : L.length ≤ 1000000) (hv : RowB w v L)
    (hp : ∀ b u W, b ∈ L → RowF W u b.2.2 → Below w.heap.size w W → Calls Tryz.prog g (#[.agg #[.int .i64 b.1, .string (str b.2.1), u]] ++ caps) W fun e W' => e = .returned (.bool (p b)) ∧ Below W.heap.size W W') :
    Calls Tryz.prog 50 #[v, .func (.func g) #[] caps] w fun e w' => e = .returned (.bool (L.any p)) ∧ Below w.heap.size w w' := by
  obtain ⟨A, c, Z, hz, rfl, hc1, hc2, hrd, hrow⟩ := hv
  have hzl : Z.length = L.length := by rw [← hz, List.length_map]
  have hgz : ∀ k, k < L.length → ∃ h : k < Z.length, L[k]? = some Z[k].1 := fun k hk => by
    have h : k < Z.length := by omega
    refine ⟨h, ?_⟩
    clear hc1
    subst hz
    rw [List.getElem?_map, List.getElem?_eq_getElem h]
    rfl
  have HX := Lib.hid (indexB A L.length c g caps w eg (fun k => (Z.getD k ((0, [], []), undef)).1) (fun k => (Z.getD k ((0, [], []), undef)).2) (fun k W => Below w.heap.size w W ∧ (L.take k).any p = false) (fun k W => Below w.heap.size w W ∧ L.any p = true) (fun k W hk hW => by
    obtain ⟨hkz, _⟩ := hgz k hk
    have hgd : Z.getD k ((0, [], []), undef) = Z[k] := by rw [List.getD_eq_getElem?_getD, List.getElem?_eq_getElem hkz]; rfl
    rw [hgd]
    exact rd_three (cells := bkC) (fun _ => rfl) (hrd.below hW.1) k hkz rfl) (fun k W hk hW => by
    obtain ⟨hkz, hkl⟩ := hgz k hk
    have hgd : Z.getD k ((0, [], []), undef) = Z[k] := by rw [List.getD_eq_getElem?_getD, List.getElem?_eq_getElem hkz]; rfl
    rw [hgd]
    have hlk : L[k] = Z[k].1 := by
      rw [List.getElem?_eq_getElem hk] at hkl
      exact Option.some.inj hkl
    have hmem : Z[k].1 ∈ L := by rw [← hlk]; exact List.getElem_mem hk
    refine (hp Z[k].1 Z[k].2 W hmem ((hrow _ (List.getElem_mem hkz)).below hW.1) hW.1).mono ?_
    rintro e W' ⟨rfl, hb⟩
    have hb' : Below w.heap.size w W' := hW.1.trans (hb.mono hW.1.size)
    cases hpk : p Z[k].1
    · refine .inr ⟨rfl, hb', ?_⟩
      rw [List.take_succ_eq_append_getElem hk, List.any_append, hW.2, hlk]
      simp [hpk]
    · exact .inl ⟨rfl, hb', List.any_eq_true.2 ⟨_, hmem, hpk⟩⟩) ⟨Below.refl _ _, rfl⟩ hl)
  have hno : ∀ W, (Below w.heap.size w W ∧ (L.take L.length).any p = false) → L.any p = false := fun W h => by
    have := h.2
    rwa [List.take_length] at this
  have HN := Lib.hid hno
  clear hno hp hl hrd hrow hz hgz hzl eg
  obtain ⟨n, hn⟩ : ∃ n, L.length = n := ⟨_, rfl⟩
  rw [hn] at HX HN hc1 ⊢
  clear hn
  go_enter Tryz.func50, Tryz.ntmps50
  go_wp2_with fail
  refine HX.out.mono ?_
  rintro e w' (⟨k, _, rfl, hj⟩ | ⟨rfl, hi⟩)
  · have HJ := Lib.hid hj
    clear hj
    go_wp2_with fail
    go_ret
    exact ⟨ret_bool8 HJ.out.2.symm, HJ.out.1⟩
  · have HJ := Lib.hid hi
    clear hi
    go_wp2_with fail
    go_ret
    exact ⟨ret_bool8 (HN.out _ HJ.out).symm, HJ.out.1⟩
end Go.Proofs.YtbeehedppofpnaaGreatDoor

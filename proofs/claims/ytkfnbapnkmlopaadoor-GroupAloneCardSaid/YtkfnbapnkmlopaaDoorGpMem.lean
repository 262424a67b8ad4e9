/- Layer 13: groups and items as they lie in memory; the document's group, item, has. -/
import Derived.Test.YtkfnbapnkmlopaaDoorGpM
import Derived.Test.YtkfnbapnkmlopaaDoorBp9
import Derived.Test.YtkfnbapnkmlopaaDoorRn
namespace Go.Proofs.YtkfnbapnkmlopaaDoor
open Go.RowKit

def grC (p : Grp × Value × Value) : List Value := [.string (str p.1.1), p.2.1, p.2.2]
def itC (p : Itm × Value) : List Value := [.string (str p.1.1), p.2]
theorem rd_two {α : Type} {cells : α → List Value} (hk : ∀ a, (cells a).length = 2) {w : World} {A : Option Addr} {L : List α} (h : Rd w A (L.flatMap cells)) (i : Nat) (hi : i < L.length) {a b : Value} (he : cells L[i] = [a, b]) :
    ∃ ad X, A = some ad ∧ ad.add (i * 2) = X ∧ w.cell? X = some a ∧ w.cell? { block := X.block, off := X.off + 1 } = some b := by
  obtain ⟨ad, e, hc⟩ := h (by rw [flat_len cells 2 hk]; omega)
  have hj : ∀ j u, j < 2 → (cells L[i])[j]? = some u → w.cell? (ad.add (i * 2 + j)) = some u := fun j u hj hu => hc _ u (by rw [flat_get cells 2 hk L i hi j hj]; exact hu)
  rw [he] at hj
  have h1 := hj 1 _ (by omega) rfl
  rw [← add_add'] at h1
  exact ⟨ad, _, e, rfl, hj 0 _ (by omega) rfl, h1⟩
theorem RowS.at9 {w : World} {A : Option Addr} {n c : Nat} {L : List Tx} (h : RowS w (.slice A n c) L) : n = L.length ∧ n ≤ c ∧ c ≤ maxLen ∧ ∀ k, k < n → ∃ ad s, A = some ad ∧ L[k]? = some s ∧ w.cell? (ad.add k) = some (.string (str s)) := by
  obtain ⟨A', c', h1, h2, h3, h4⟩ := h
  injection h1 with h1 h1' h1''
  subst h1 h1' h1''
  refine ⟨rfl, h2, h3, fun k hk => ?_⟩
  obtain ⟨ad, ea, hc⟩ := h4 (by rw [List.length_map]; omega)
  exact ⟨ad, L[k], ea, List.getElem?_eq_getElem hk, hc k _ (by rw [List.getElem?_map, List.getElem?_eq_getElem hk]; rfl)⟩
theorem RowS.form {w : World} {v : Value} {L : List Tx} (h : RowS w v L) : ∃ A c, v = .slice A L.length c ∧ RowS w (.slice A L.length c) L := by
  obtain ⟨A, c, e, h1, h2, h3⟩ := h
  exact ⟨A, c, e, A, c, rfl, h1, h2, h3⟩
/-- A slice of groups; Z: with the values of their rows. -/
def RowG (w : World) (v : Value) (L : List Grp) : Prop :=
  ∃ A c, ∃ Z : List (Grp × Value × Value), Z.map (·.1) = L ∧ v = .slice A L.length c ∧ L.length ≤ c ∧ c ≤ maxLen ∧ Rd w A (Z.flatMap grC) ∧ ∀ p ∈ Z, RowS w p.2.1 p.1.2.1 ∧ RowS w p.2.2 p.1.2.2
theorem RowG.below {w w' : World} {v : Value} {L : List Grp} (h : RowG w v L) (hb : Below w.heap.size w w') : RowG w' v L := by
  obtain ⟨A, c, Z, e, h1, h2, h3, h4, h5⟩ := h
  exact ⟨A, c, Z, e, h1, h2, h3, h4.below hb, fun p hp => ⟨(h5 p hp).1.below hb, (h5 p hp).2.below hb⟩⟩
theorem RowG.nil (w : World) : RowG w (.slice none 0 0) [] := ⟨none, 0, [], rfl, rfl, Nat.le_refl _, Nat.zero_le _, Rd.nil, fun p hp => by cases hp⟩
theorem RowG.form {w : World} {v : Value} {L : List Grp} (h : RowG w v L) : ∃ A c, v = .slice A L.length c ∧ RowG w (.slice A L.length c) L := by
  obtain ⟨A, c, Z, e0, e, h1, h2, h3, h4⟩ := h
  exact ⟨A, c, e, A, c, Z, e0, rfl, h1, h2, h3, h4⟩
/-- The cells of a group within a slice, and its rows. -/
theorem RowG.parts {w : World} {A : Option Addr} {n c : Nat} {L : List Grp} (h : RowG w (.slice A n c) L) : n = L.length ∧ n ≤ c ∧ c ≤ maxLen ∧
    ∀ i, (hi : i < n) → ∀ b, L[i]? = some b → ∃ ad X Am cm Ag cg, A = some ad ∧ ad.add (i * 3) = X ∧ w.cell? X = some (.string (str b.1)) ∧ w.cell? { block := X.block, off := X.off + 1 } = some (.slice Am b.2.1.length cm) ∧ w.cell? { block := X.block, off := X.off + 2 } = some (.slice Ag b.2.2.length cg) ∧ RowS w (.slice Am b.2.1.length cm) b.2.1 ∧ RowS w (.slice Ag b.2.2.length cg) b.2.2 := by
  obtain ⟨A', c', Z, e, h1, h2, h3, h4, h5⟩ := h
  injection h1 with h1 h1' h1''
  subst h1 h1' h1''
  refine ⟨rfl, h2, h3, fun i hi b hb => ?_⟩
  have hz : Z.length = L.length := by rw [← e, List.length_map]
  have hiz : i < Z.length := by omega
  obtain ⟨ad, X, e1, e2, e3, e4, e5⟩ := rd_three (cells := grC) (fun _ => rfl) h4 i hiz (a := .string (str Z[i].1.1)) (b := Z[i].2.1) (c := Z[i].2.2) rfl
  have hbz : Z[i].1 = b := by
    rw [← e, List.getElem?_map, List.getElem?_eq_getElem hiz] at hb
    exact Option.some.inj hb
  rw [hbz] at e3
  obtain ⟨r1, r2⟩ := h5 Z[i] (List.getElem_mem hiz)
  rw [hbz] at r1 r2
  obtain ⟨Am, cm, em, rm⟩ := r1.form
  obtain ⟨Ag, cg, eg, rg⟩ := r2.form
  rw [em] at e4
  rw [eg] at e5
  exact ⟨ad, X, Am, cm, Ag, cg, e1, e2, e3, e4, e5, rm, rg⟩
/-- A slice of items. -/
def RowX (w : World) (v : Value) (L : List Itm) : Prop :=
  ∃ A c, ∃ Z : List (Itm × Value), Z.map (·.1) = L ∧ v = .slice A L.length c ∧ L.length ≤ c ∧ c ≤ maxLen ∧ Rd w A (Z.flatMap itC) ∧ ∀ p ∈ Z, RowS w p.2 p.1.2
theorem RowX.below {w w' : World} {v : Value} {L : List Itm} (h : RowX w v L) (hb : Below w.heap.size w w') : RowX w' v L := by
  obtain ⟨A, c, Z, e, h1, h2, h3, h4, h5⟩ := h
  exact ⟨A, c, Z, e, h1, h2, h3, h4.below hb, fun p hp => (h5 p hp).below hb⟩
theorem RowX.nil (w : World) : RowX w (.slice none 0 0) [] := ⟨none, 0, [], rfl, rfl, Nat.le_refl _, Nat.zero_le _, Rd.nil, fun p hp => by cases hp⟩
theorem RowX.form {w : World} {v : Value} {L : List Itm} (h : RowX w v L) : ∃ A c, v = .slice A L.length c ∧ RowX w (.slice A L.length c) L := by
  obtain ⟨A, c, Z, e0, e, h1, h2, h3, h4⟩ := h
  exact ⟨A, c, e, A, c, Z, e0, rfl, h1, h2, h3, h4⟩
theorem RowX.parts {w : World} {A : Option Addr} {n c : Nat} {L : List Itm} (h : RowX w (.slice A n c) L) : n = L.length ∧ n ≤ c ∧ c ≤ maxLen ∧
    ∀ i, (hi : i < n) → ∀ b, L[i]? = some b → ∃ ad X Ag cg, A = some ad ∧ ad.add (i * 2) = X ∧ w.cell? X = some (.string (str b.1)) ∧ w.cell? { block := X.block, off := X.off + 1 } = some (.slice Ag b.2.length cg) ∧ RowS w (.slice Ag b.2.length cg) b.2 := by
  obtain ⟨A', c', Z, e, h1, h2, h3, h4, h5⟩ := h
  injection h1 with h1 h1' h1''
  subst h1 h1' h1''
  refine ⟨rfl, h2, h3, fun i hi b hb => ?_⟩
  have hz : Z.length = L.length := by rw [← e, List.length_map]
  have hiz : i < Z.length := by omega
  obtain ⟨ad, X, e1, e2, e3, e4⟩ := rd_two (cells := itC) (fun _ => rfl) h4 i hiz (a := .string (str Z[i].1.1)) (b := Z[i].2) rfl
  have hbz : Z[i].1 = b := by
    rw [← e, List.getElem?_map, List.getElem?_eq_getElem hiz] at hb
    exact Option.some.inj hb
  rw [hbz] at e3
  have r1 := h5 Z[i] (List.getElem_mem hiz)
  rw [hbz] at r1
  obtain ⟨Ag, cg, eg, rg⟩ := r1.form
  rw [eg] at e4
  exact ⟨ad, X, Ag, cg, e1, e2, e3, e4, rg⟩
theorem tl_eq (a b : Tx) : ((str a).toList == (str b).toList) = decide (a = b) := by
  rw [str_toList, str_toList]
  exact Bool.eq_iff_iff.2 (by simp)
theorem gN_at {g : List Grp} {i : Nat} {a : Grp} (h : g[i]? = some a) : (gN g)[i]? = some a.1 := by unfold gN; rw [List.getElem?_map, h]; rfl
theorem iN_at {x : List Itm} {i : Nat} {a : Itm} (h : x[i]? = some a) : (iN x)[i]? = some a.1 := by unfold iN; rw [List.getElem?_map, h]; rfl
theorem gN_len (g : List Grp) : (gN g).length = g.length := by unfold gN; rw [List.length_map]
theorem iN_len (x : List Itm) : (iN x).length = x.length := by unfold iN; rw [List.length_map]
theorem no_take {L : List Tx} {s : Tx} {k : Nat} (h : ∀ j, j < k → L[j]? ≠ some s) (hk : L.length ≤ k) : ixI L s = -1 := by
  refine ixI_no.2 fun hm => ?_
  obtain ⟨j, hj, e⟩ := List.mem_iff_getElem.1 hm
  exact h j (by omega) (by rw [List.getElem?_eq_getElem hj, e])
set_option maxRecDepth 100000 in
set_option maxHeartbeats 2000000 in
theorem refGrp_any (v : Value) (g : List Grp) (s : Tx) (w : World) (hv : RowG w v g) :
    Calls Tryd.prog 23 #[v, .string (str s)] w fun e w' => e = .returned (.int .i64 (ixI (gN g) s)) ∧ w' = w := by
  obtain ⟨A, c, rfl, hr⟩ := hv.form
  obtain ⟨m, hm⟩ : ∃ m, g.length = m := ⟨_, rfl⟩
  have hm9 : m ≤ 9223372036854775807 := by
    have h1 := hr.parts.2.1
    have h2 := hr.parts.2.2.1
    unfold maxLen at h2
    omega
  rw [hm] at hr ⊢
  obtain ⟨R, hR⟩ : ∃ R, ixI (gN g) s = R := ⟨_, rfl⟩
  rw [hR]
  obtain ⟨S, hS⟩ : ∃ S, str s = S := ⟨_, rfl⟩
  rw [hS]
  have H := Lib.hid (And.intro hr (And.intro hm (And.intro hR hS)))
  clear hr hv hm hR hS
  go_enter Tryd.func23, Tryd.ntmps23
  go_wp2_with fail
  go_loopw [5] (fun iv wr => ∃ i : Nat, iv = .int .i64 i ∧ i ≤ m ∧ (∀ j, j < i → (gN g)[j]? ≠ some s) ∧ wr = w) (fun iv _ => m - (intOf iv).toNat)
  case atStart => exact ⟨0, rfl, Nat.zero_le _, fun j hj => absurd hj (Nat.not_lt_zero j), rfl⟩
  case round =>
    obtain ⟨i, rfl, hi, hno, rfl⟩ := hrel
    by_cases him : i < m
    · have q0 : (0 : Int) ≤ i := by omega
      have q1 : (i : Int) < m := by omega
      obtain ⟨b, hb⟩ : ∃ b, g[i]? = some b := ⟨_, List.getElem?_eq_getElem (by rw [H.out.2.1]; exact him)⟩
      obtain ⟨ad, X, Am, cm, Ag, cg, rfl, hX, k0, k1, k2, _, _⟩ := H.out.1.parts.2.2.2 i him b hb
      have he := tl_eq b.1 s
      obtain ⟨SB, hSB⟩ : ∃ S, str b.1 = S := ⟨_, rfl⟩
      rw [hSB] at k0 he
      rw [H.out.2.2.2] at he
      have hat := gN_at hb
      have HH := Lib.hid (And.intro hno hat)
      clear hno hat hb hSB k1 k2
      by_cases hs : b.1 = s
      · rw [decide_eq_true hs] at he
        have hR : R = i := by
          rw [← H.out.2.2.1]
          exact ixI_hit (by rw [HH.out.2, hs]) HH.out.1
        subst hR
        clear hs
        go_wp2_with fail
        go_ret
        exact ⟨rfl, rfl⟩
      · rw [decide_eq_false hs] at he
        have HS := Lib.hid hs
        clear hs
        go_wp2_with fail
        refine ⟨⟨i + 1, by go_num, him, fun j hj => ?_, trivial⟩, by simp [intOf]; omega⟩
        by_cases e : j = i
        · subst e
          rw [HH.out.2]
          exact fun h => HS.out (Option.some.inj h)
        · exact HH.out.1 j (by omega)
    · obtain rfl : m = i := by omega
      have hR : R = -1 := by
        rw [← H.out.2.2.1]
        exact no_take hno (by rw [gN_len, H.out.2.1]; exact Nat.le_refl _)
      subst hR
      clear hno
      go_wp2_with fail
      go_ret
      exact ⟨rfl, rfl⟩
set_option maxRecDepth 100000 in
set_option maxHeartbeats 2000000 in
theorem refItm_any (v : Value) (g : List Itm) (s : Tx) (w : World) (hv : RowX w v g) :
    Calls Tryd.prog 24 #[v, .string (str s)] w fun e w' => e = .returned (.int .i64 (ixI (iN g) s)) ∧ w' = w := by
  obtain ⟨A, c, rfl, hr⟩ := hv.form
  obtain ⟨m, hm⟩ : ∃ m, g.length = m := ⟨_, rfl⟩
  have hm9 : m ≤ 9223372036854775807 := by
    have h1 := hr.parts.2.1
    have h2 := hr.parts.2.2.1
    unfold maxLen at h2
    omega
  rw [hm] at hr ⊢
  obtain ⟨R, hR⟩ : ∃ R, ixI (iN g) s = R := ⟨_, rfl⟩
  rw [hR]
  obtain ⟨S, hS⟩ : ∃ S, str s = S := ⟨_, rfl⟩
  rw [hS]
  have H := Lib.hid (And.intro hr (And.intro hm (And.intro hR hS)))
  clear hr hv hm hR hS
  go_enter Tryd.func24, Tryd.ntmps24
  go_wp2_with fail
  go_loopw [5] (fun iv wr => ∃ i : Nat, iv = .int .i64 i ∧ i ≤ m ∧ (∀ j, j < i → (iN g)[j]? ≠ some s) ∧ wr = w) (fun iv _ => m - (intOf iv).toNat)
  case atStart => exact ⟨0, rfl, Nat.zero_le _, fun j hj => absurd hj (Nat.not_lt_zero j), rfl⟩
  case round =>
    obtain ⟨i, rfl, hi, hno, rfl⟩ := hrel
    by_cases him : i < m
    · have q0 : (0 : Int) ≤ i := by omega
      have q1 : (i : Int) < m := by omega
      obtain ⟨b, hb⟩ : ∃ b, g[i]? = some b := ⟨_, List.getElem?_eq_getElem (by rw [H.out.2.1]; exact him)⟩
      obtain ⟨ad, X, Ag, cg, rfl, hX, k0, k1, _⟩ := H.out.1.parts.2.2.2 i him b hb
      have he := tl_eq b.1 s
      obtain ⟨SB, hSB⟩ : ∃ S, str b.1 = S := ⟨_, rfl⟩
      rw [hSB] at k0 he
      rw [H.out.2.2.2] at he
      have hat := iN_at hb
      have HH := Lib.hid (And.intro hno hat)
      clear hno hat hb hSB k1
      by_cases hs : b.1 = s
      · rw [decide_eq_true hs] at he
        have hR : R = i := by
          rw [← H.out.2.2.1]
          exact ixI_hit (by rw [HH.out.2, hs]) HH.out.1
        subst hR
        clear hs
        go_wp2_with fail
        go_ret
        exact ⟨rfl, rfl⟩
      · rw [decide_eq_false hs] at he
        have HS := Lib.hid hs
        clear hs
        go_wp2_with fail
        refine ⟨⟨i + 1, by go_num, him, fun j hj => ?_, trivial⟩, by simp [intOf]; omega⟩
        by_cases e : j = i
        · subst e
          rw [HH.out.2]
          exact fun h => HS.out (Option.some.inj h)
        · exact HH.out.1 j (by omega)
    · obtain rfl : m = i := by omega
      have hR : R = -1 := by
        rw [← H.out.2.2.1]
        exact no_take hno (by rw [iN_len, H.out.2.1]; exact Nat.le_refl _)
      subst hR
      clear hno
      go_wp2_with fail
      go_ret
      exact ⟨rfl, rfl⟩
set_option maxRecDepth 100000 in
set_option maxHeartbeats 2000000 in
theorem refHas_any (v : Value) (L : List Tx) (s : Tx) (w : World) (hv : RowS w v L) :
    Calls Tryd.prog 26 #[v, .string (str s)] w fun e w' => e = .returned (.bool (L.contains s)) ∧ w' = w := by
  obtain ⟨A, c, rfl, hr⟩ := hv.form
  obtain ⟨m, hm⟩ : ∃ m, L.length = m := ⟨_, rfl⟩
  have hm9 : m ≤ 9223372036854775807 := by
    have h1 := hr.at9.2.1
    have h2 := hr.at9.2.2.1
    unfold maxLen at h2
    omega
  rw [hm] at hr ⊢
  obtain ⟨R, hR⟩ : ∃ R, L.contains s = R := ⟨_, rfl⟩
  rw [hR]
  obtain ⟨S, hS⟩ : ∃ S, str s = S := ⟨_, rfl⟩
  rw [hS]
  have H := Lib.hid (And.intro hr (And.intro hm (And.intro hR hS)))
  clear hr hv hm hR hS
  go_enter Tryd.func26, Tryd.ntmps26
  go_wp2_with fail
  go_loopw [5] (fun iv wr => ∃ i : Nat, iv = .int .i64 i ∧ i ≤ m ∧ (∀ j, j < i → L[j]? ≠ some s) ∧ wr = w) (fun iv _ => m - (intOf iv).toNat)
  case atStart => exact ⟨0, rfl, Nat.zero_le _, fun j hj => absurd hj (Nat.not_lt_zero j), rfl⟩
  case round =>
    obtain ⟨i, rfl, hi, hno, rfl⟩ := hrel
    by_cases him : i < m
    · have q0 : (0 : Int) ≤ i := by omega
      have q1 : (i : Int) < m := by omega
      obtain ⟨ad, b, rfl, hb, k0⟩ := H.out.1.at9.2.2.2 i him
      have he := tl_eq b s
      obtain ⟨SB, hSB⟩ : ∃ S, str b = S := ⟨_, rfl⟩
      rw [hSB] at k0 he
      rw [H.out.2.2.2] at he
      have HH := Lib.hid (And.intro hno hb)
      clear hno hb hSB
      by_cases hs : b = s
      · rw [decide_eq_true hs] at he
        have hR : R = true := by
          rw [← H.out.2.2.1, ← hs]
          simpa using List.mem_of_getElem? HH.out.2
        subst hR
        clear hs
        go_wp2_with fail
        go_ret
        exact ⟨rfl, rfl⟩
      · rw [decide_eq_false hs] at he
        have HS := Lib.hid hs
        clear hs
        go_wp2_with fail
        refine ⟨⟨i + 1, by go_num, him, fun j hj => ?_, trivial⟩, by simp [intOf]; omega⟩
        by_cases e : j = i
        · subst e
          rw [HH.out.2]
          exact fun h => HS.out (Option.some.inj h)
        · exact HH.out.1 j (by omega)
    · obtain rfl : m = i := by omega
      have hR : R = false := by
        rw [← H.out.2.2.1]
        have h := ixI_no.1 (no_take hno (by rw [H.out.2.1]; exact Nat.le_refl _))
        simpa using h
      subst hR
      clear hno
      go_wp2_with fail
      go_ret
      exact ⟨rfl, rfl⟩
end Go.Proofs.YtkfnbapnkmlopaaDoor

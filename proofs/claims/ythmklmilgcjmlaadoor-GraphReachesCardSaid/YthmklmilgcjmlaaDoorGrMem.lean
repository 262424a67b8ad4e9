/- Ways as they lie in memory; the document's Check, leads. -/
import Derived.Test.YthmklmilgcjmlaaDoorGrMath
import Derived.Test.YthmklmilgcjmlaaDoorBol
import Derived.Test.YthmklmilgcjmlaaDoorRn
namespace Go.Proofs.YthmklmilgcjmlaaDoor
open Go.RowKit

def wyC (p : Int × Int) : List Value := [.int .i64 p.1, .int .i64 p.2]
def cst (M : Wt) : List (Int × Int) := M.map fun p => ((p.1 : Int), (p.2 : Int))
/-- A slice of ways. -/
def RowW (w : World) (v : Value) (L : List (Int × Int)) : Prop := ∃ A c, v = .slice A L.length c ∧ L.length ≤ c ∧ c ≤ maxLen ∧ Rd w A (L.flatMap wyC)
theorem RowW.below {w w' : World} {v : Value} {L : List (Int × Int)} (h : RowW w v L) (hb : Below w.heap.size w w') : RowW w' v L := by
  obtain ⟨A, c, e, h1, h2, h3⟩ := h
  exact ⟨A, c, e, h1, h2, h3.below hb⟩
theorem RowW.form {w : World} {v : Value} {L : List (Int × Int)} (h : RowW w v L) : ∃ A c, v = .slice A L.length c ∧ RowW w (.slice A L.length c) L := by
  obtain ⟨A, c, e, h1, h2, h3⟩ := h
  exact ⟨A, c, e, A, c, rfl, h1, h2, h3⟩
theorem RowW.owned {w : World} {base : Nat} {e : TypeId} {v : Value} {n : Nat} {L : List (Int × Int)} (hn : L.length = n) (h : w.ownsRow base e 2 v n (L.flatMap wyC)) : RowW w v L := by
  obtain ⟨A, c, rfl, h1, h2, _, h3, _⟩ := owns_formk h
  subst hn
  exact ⟨A, c, rfl, h1, h2, h3⟩
theorem RowW.parts {w : World} {A : Option Addr} {n c : Nat} {L : List (Int × Int)} (h : RowW w (.slice A n c) L) : n = L.length ∧ n ≤ c ∧ c ≤ maxLen ∧
    ∀ i, (hi : i < n) → ∀ p, L[i]? = some p → ∃ ad X, A = some ad ∧ ad.add (i * 2) = X ∧ w.cell? X = some (.int .i64 p.1) ∧ w.cell? { block := X.block, off := X.off + 1 } = some (.int .i64 p.2) := by
  obtain ⟨A', c', h1, h2, h3, h4⟩ := h
  injection h1 with h1 h1' h1''
  subst h1 h1' h1''
  refine ⟨rfl, h2, h3, fun i hi p hp => ?_⟩
  obtain ⟨hl, e⟩ := List.getElem?_eq_some_iff.1 hp
  obtain ⟨ad, ea, hc⟩ := h4 (by rw [flat_len wyC 2 fun _ => rfl]; omega)
  have hj : ∀ j u, j < 2 → (wyC L[i])[j]? = some u → w.cell? (ad.add (i * 2 + j)) = some u := fun j u hj hu => hc _ u (by rw [flat_get wyC 2 (fun _ => rfl) L i hl j hj]; exact hu)
  rw [e] at hj
  have h5 := hj 1 _ (by omega) rfl
  rw [← add_add'] at h5
  exact ⟨ad, _, ea, rfl, hj 0 _ (by omega) rfl, h5⟩
theorem cst_len (M : Wt) : (cst M).length = M.length := by unfold cst; simp
theorem cst_get {M : Wt} {i : Nat} {p : Nat × Nat} (h : M[i]? = some p) : (cst M)[i]? = some ((p.1 : Int), (p.2 : Int)) := by
  unfold cst
  rw [List.getElem?_map, h]
  rfl
theorem add_nil (X : Addr) : X.add 0 = X := by unfold Addr.add; rw [if_pos rfl]
theorem add_one (X : Addr) : X.add 1 = { block := X.block, off := X.off + 1 } := by unfold Addr.add; rw [if_neg (by decide)]
def badE (n : Int) (p : Int × Int) : Bool := decide (p.1 < 0) || decide (n ≤ p.1) || decide (p.2 < 0) || decide (n ≤ p.2)
theorem ckW_eq (n : Int) (L : List (Int × Int)) : ckW n L = if n < 0 ∨ 4096 < n ∨ 1048576 < L.length then 2 else if L.any (badE n) = true then 5 else 0 := rfl
set_option maxRecDepth 100000 in
set_option maxHeartbeats 2000000 in
theorem refCk_any (n : Int) (v : Value) (L : List (Int × Int)) (w : World) (_ : -9223372036854775808 ≤ n ∧ n ≤ 9223372036854775807) (hv : RowW w v L) :
    Calls Tryd.prog 9 #[.int .i64 n, v] w fun e w' => e = .returned (.int .i64 (ckW n L : Nat)) ∧ w' = w := by
  obtain ⟨A, c, rfl, hr⟩ := hv.form
  obtain ⟨m, hm⟩ : ∃ m, L.length = m := ⟨_, rfl⟩
  have hm9 : m ≤ 9223372036854775807 := by
    have h1 := hr.parts.2.1
    have h2 := hr.parts.2.2.1
    unfold maxLen at h2
    rw [hm] at h1
    omega
  rw [hm] at hr ⊢
  have hck := ckW_eq n L
  rw [hm] at hck
  obtain ⟨R, hR⟩ : ∃ R, ckW n L = R := ⟨_, rfl⟩
  rw [hR] at hck ⊢
  have HR := Lib.hid (And.intro hr hm)
  have HCk := Lib.hid hck
  clear hr hv hm hR hck
  by_cases h1 : n < 0
  · have hR2 : R = 2 := by rw [HCk.out, if_pos (.inl h1)]
    subst hR2
    go_enter Tryd.func9, Tryd.ntmps9
    go_wp2_with fail
    go_ret
    exact ⟨rfl, rfl⟩
  · by_cases h2 : 4096 < n
    · have hR2 : R = 2 := by rw [HCk.out, if_pos (.inr (.inl h2))]
      subst hR2
      go_enter Tryd.func9, Tryd.ntmps9
      go_wp2_with fail
      go_ret
      exact ⟨rfl, rfl⟩
    · by_cases h3 : 1048576 < m
      · have hR2 : R = 2 := by rw [HCk.out, if_pos (.inr (.inr h3))]
        subst hR2
        have h3' : (1048576 : Int) < m := by omega
        go_enter Tryd.func9, Tryd.ntmps9
        go_wp2_with fail
        go_ret
        exact ⟨rfl, rfl⟩
      · have hR2 := HCk.out
        rw [if_neg (by omega)] at hR2
        have HR2 := Lib.hid hR2
        have h3' : ¬ (1048576 : Int) < m := by omega
        clear hR2 HCk h3
        go_enter Tryd.func9, Tryd.ntmps9
        go_wp2_with fail
        go_loopw [5] (fun iv wr => ∃ i : Nat, iv = .int .i64 i ∧ i ≤ m ∧ (∀ p ∈ L.take i, badE n p = false) ∧ wr = w) (fun iv _ => m - (intOf iv).toNat)
        case atStart => exact ⟨0, rfl, Nat.zero_le _, fun p hp => by simp at hp, rfl⟩
        case round =>
          obtain ⟨i, rfl, hi, hno, rfl⟩ := hrel
          have HN := Lib.hid hno
          clear hno
          by_cases him : i < m
          · have q0 : (0 : Int) ≤ i := by omega
            have q1 : (i : Int) < m := by omega
            have hil : i < L.length := by rw [HR.out.2]; exact him
            obtain ⟨p, hp⟩ : ∃ p, L[i]? = some p := ⟨_, List.getElem?_eq_getElem hil⟩
            obtain ⟨ad, X, rfl, hX, k0, k1⟩ := HR.out.1.parts.2.2.2 i him p hp
            have htk : L.take (i + 1) = L.take i ++ [p] := by
              rw [List.take_succ_eq_append_getElem hil]
              rw [List.getElem?_eq_getElem hil] at hp
              rw [Option.some.inj hp]
            have hany : badE n p = true → L.any (badE n) = true := fun h => List.any_eq_true.2 ⟨p, List.mem_of_getElem? hp, h⟩
            have HP := Lib.hid (And.intro htk hany)
            obtain ⟨a, b⟩ := p
            dsimp only at k0 k1
            clear htk hany hp hil
            go_wp2_with fail
            go_loopw [6] (fun kv wr' => ∃ k : Nat, kv = .int .i64 k ∧ k ≤ 2 ∧ (1 ≤ k → 0 ≤ a ∧ a < n) ∧ (2 ≤ k → 0 ≤ b ∧ b < n) ∧ wr' = wr) (fun kv _ => 2 - (intOf kv).toNat)
            case atStart => exact ⟨0, rfl, by omega, fun h => by omega, fun h => by omega, rfl⟩
            case round =>
              obtain ⟨k, rfl, hk, hka, hkb, rfl⟩ := hrel
              by_cases hk2 : k < 2
              · have s0 : (0 : Int) ≤ k := by omega
                have s1 : (k : Int) < 2 := by omega
                obtain ⟨z, hz1, hz2, hz3⟩ : ∃ z : Int, wr.cell? (X.add k) = some (.int .i64 z) ∧ ((k = 0 ∧ z = a) ∨ (k = 1 ∧ z = b)) ∧ (¬ (0 ≤ z ∧ z < n) → badE n (a, b) = true) := by
                  have hk01 : k = 0 ∨ k = 1 := by omega
                  rcases hk01 with rfl | rfl
                  · refine ⟨a, by rw [add_nil]; exact k0, .inl ⟨rfl, rfl⟩, fun h => ?_⟩
                    unfold badE
                    simp only [Bool.or_eq_true, decide_eq_true_eq]
                    omega
                  · refine ⟨b, by rw [add_one]; exact k1, .inr ⟨rfl, rfl⟩, fun h => ?_⟩
                    unfold badE
                    simp only [Bool.or_eq_true, decide_eq_true_eq]
                    omega
                have HK := Lib.hid (And.intro hka (And.intro hkb (And.intro hz2 hz3)))
                clear hka hkb hz2 hz3 k0 k1
                by_cases hz0 : z < 0
                · have hbad := HP.out.2 (HK.out.2.2.2 (by omega))
                  have hR5 : R = 5 := by rw [HR2.out, if_pos hbad]
                  subst hR5
                  clear hbad
                  go_wp2_with fail
                  go_ret
                  exact ⟨rfl, rfl⟩
                · by_cases hzn : z ≥ n
                  · have hbad := HP.out.2 (HK.out.2.2.2 (by omega))
                    have hR5 : R = 5 := by rw [HR2.out, if_pos hbad]
                    subst hR5
                    clear hbad
                    go_wp2_with fail
                    go_ret
                    exact ⟨rfl, rfl⟩
                  · go_wp2_with fail
                    refine ⟨⟨k + 1, by go_num, by omega, fun _ => ?_, fun h => ?_, trivial⟩, by simp [intOf]; omega⟩
                    · rcases HK.out.2.2.1 with ⟨h5, rfl⟩ | ⟨h5, rfl⟩
                      · omega
                      · exact HK.out.1 (by omega)
                    · rcases HK.out.2.2.1 with ⟨h5, rfl⟩ | ⟨h5, rfl⟩
                      · omega
                      · omega
              · have s1 : ¬ (k : Int) < 2 := by omega
                have hgood : badE n (a, b) = false := by
                  have h5 := hka (by omega)
                  have h6 := hkb (by omega)
                  unfold badE
                  simp only [Bool.or_eq_false_iff, decide_eq_false_iff_not]
                  omega
                have HGd := Lib.hid hgood
                clear hgood hka hkb
                go_wp2_with fail
                refine ⟨⟨i + 1, by go_num, him, fun q hq => ?_, trivial⟩, by simp [intOf]; omega⟩
                rw [HP.out.1] at hq
                rcases List.mem_append.1 hq with h5 | h5
                · exact HN.out q h5
                · rw [List.mem_singleton.1 h5]; exact HGd.out
          · obtain rfl : m = i := by omega
            have hall : L.any (badE n) = false := by
              rw [List.any_eq_false]
              intro p hp
              have := HN.out p (by rw [List.take_of_length_le (by rw [HR.out.2]; exact Nat.le_refl _)]; exact hp)
              rw [this]
              decide
            have hR0 : R = 0 := by rw [HR2.out, if_neg (by rw [hall]; decide)]
            subst hR0
            clear hall
            go_wp2_with fail
            go_ret
            exact ⟨rfl, rfl⟩
end Go.Proofs.YthmklmilgcjmlaaDoor

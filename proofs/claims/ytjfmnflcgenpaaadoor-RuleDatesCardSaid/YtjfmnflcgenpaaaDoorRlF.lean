/- The library's Itoa, Atoi, Cut, Join by contracts; rule's tell, tellDate. -/
import Derived.Test.YtjfmnflcgenpaaaDoorRlE
import Derived.Test.YtjfmnflcgenpaaaDoorShelfR
import Derived.Lib.AppendIntMem
import Derived.Lib.ItoaLen
import Derived.Lib.Join
namespace Go.Proofs.YtjfmnflcgenpaaaDoor
open Go.RowKit

/-- The library's table of tens. -/
def Pow (w : World) : Prop := Lib.TabIs Tryd.prog w "internal/strconv.uint64pow10" .u64 Lib.pow10Tab
theorem Pow.below {w w' : World} (h : Pow w) (hb : Below w.heap.size w w') : Pow w' := Lib.tabBelow_of_tabIs h w' hb
/-- The library's greatest length is some int. -/
def Mx (w : World) : Prop := ∃ m, w.cell? ⟨1, 0, none⟩ = some (.int .i64 m)
theorem Mx.below {w w' : World} (h : Mx w) (hb : Below w.heap.size w w') : Mx w' := by
  obtain ⟨m, hm⟩ := h
  exact ⟨m, (World.cell?_of_block (a := ⟨1, 0, none⟩) (hb.block _ (World.block_lt_of_cell? w _ hm))).trans hm⟩
theorem Mx.shaped {w : World} (h : w.ShapedOpen Tryd.prog) : Mx w := Tryd.cutL.s1_3 w h
/-- The library's two errors of numbers are errors. -/
def Es (w : World) : Prop := (∃ t p, w.cell? ⟨2, 0, none⟩ = some (.iface t p)) ∧ ∃ t p, w.cell? ⟨3, 0, none⟩ = some (.iface t p)
theorem Es.below {w w' : World} (h : Es w) (hb : Below w.heap.size w w') : Es w' := by
  obtain ⟨⟨t, p, h1⟩, u, q, h2⟩ := h
  exact ⟨⟨t, p, (World.cell?_of_block (a := ⟨2, 0, none⟩) (hb.block _ (World.block_lt_of_cell? w _ h1))).trans h1⟩, u, q, (World.cell?_of_block (a := ⟨3, 0, none⟩) (hb.block _ (World.block_lt_of_cell? w _ h2))).trans h2⟩
/-- What the texts lean on. -/
structure En (w : World) : Prop where
  tab : Tab w
  pow : Pow w
  mx : Mx w
  es : Es w
theorem En.below {w w' : World} (h : En w) (hb : Below w.heap.size w w') : En w' := ⟨h.tab.below hb, h.pow.below hb, h.mx.below hb, h.es.below hb⟩

theorem itoa_any (i : Int) (w : World) (h1 : -9223372036854775808 ≤ i) (h2 : i ≤ 9223372036854775807) (hp : Pow w) :
    Calls Tryd.prog 34 #[.int .i64 i] w fun e w' => e = .returned (.string (str (Lib.itoa i))) ∧ Below w.heap.size w w' := by
  refine (show Calls Tryd.prog 34 #[.int .i64 i] w _ from Any.strconv_Itoa Tryd.itoaL i h1 h2 w hp).mono ?_
  rintro e w' ⟨rfl, k, os, rfl⟩
  exact ⟨rfl, Lib.below_grow _ _ (Nat.le_refl _) _ _⟩
theorem atoi_any (s : ByteArray) (w : World) (hs : s.size ≤ 1000) (he : Es w) :
    Calls Tryd.prog 33 #[.string s] w fun e w' => ∃ v, e = .returned (.tuple #[.int .i64 (av s.data.toList), v]) ∧ Below w.heap.size w w' := by
  obtain ⟨⟨t, p, h1⟩, u, q, h2⟩ := he
  cases h : Lib.atoiAll s.data.toList with
  | ok v =>
    refine (show Calls Tryd.prog 33 #[.string s] w _ from Any.strconv_Atoi_ok Tryd.atoiL s (by omega) v h w).mono ?_
    rintro e w' ⟨rfl, hw⟩
    refine ⟨_, by unfold av; rw [h], ?_⟩
    rcases hw with rfl | ⟨t, rfl⟩
    · exact Below.refl _ _
    · exact Lib.bytesWorld_below _ _ _
  | range =>
    refine (show Calls Tryd.prog 33 #[.string s] w _ from Any.strconv_Atoi_range Tryd.atoiL s (by omega) h (.iface u q) w h2 (.inr ⟨u, q, rfl⟩)).mono ?_
    rintro e w' ⟨N, rfl, _, _, hb⟩
    exact ⟨_, by unfold av; rw [h], hb⟩
  | _ =>
    refine (show Calls Tryd.prog 33 #[.string s] w _ from Any.strconv_Atoi_syntax Tryd.atoiL s (by omega) h (.iface t p) w h1 (.inr ⟨t, p, rfl⟩)).mono ?_
    rintro e w' ⟨N, rfl, _, _, hb⟩
    exact ⟨_, by unfold av; rw [h], hb⟩
theorem cut_any (l : List UInt8) (c : UInt8) (sep : ByteArray) (w : World) (hsep : sep = str [c]) (hs : l.length ≤ 1000) (hm : Mx w) :
    Calls Tryd.prog 27 #[.string (str l), .string sep] w fun e w' => ∃ b, e = .returned (.tuple #[.string (str (Lib.cut l [c]).1), .string (str (Lib.cut l [c]).2.1), .bool b]) ∧ Below w.heap.size w w' := by
  subst hsep
  obtain ⟨m, hm⟩ := hm
  refine (show Calls Tryd.prog 27 #[.string (str l), .string (str [c])] w _ from Any.strings_Cut { Tryd.cutL with } (str l) (str [c]) m w (by rw [str_size]; omega) hm).mono ?_
  rintro e w' ⟨rfl, n, rfl⟩
  exact ⟨_, rfl, below_drewN _ _⟩
theorem join_any (g c : Nat) (xs : List (List UInt8)) (sep : ByteArray) (w : World) (n : Nat) (hn : xs.length = n) (hc : ∀ (j : Nat) x, xs[j]? = some x → w.cell? ⟨g, j, none⟩ = some (.string (str x))) (hg : g < w.heap.size) (h3 : n ≤ 3) (hcap : n ≤ c) (hlen : (Lib.join xs sep.data.toList).length ≤ 1000) :
    Calls Tryd.prog 35 #[.slice (some ⟨g, 0, none⟩) n c, .string sep] w fun e w' => e = .returned (.string (str (Lib.join xs sep.data.toList))) ∧ Below w.heap.size w w' := by
  have e1 : (xs.map str).map (·.data.toList) = xs := by
    rw [List.map_map]
    conv => rhs; rw [← List.map_id xs]
    exact List.map_congr_left fun x _ => rfl
  have := Any.strings_Join Tryd.joinL Tryd.joinX g 0 c (xs.map str) sep w (fun j x hx => by
    rw [List.getElem?_map] at hx
    cases hq : xs[j]? with
    | none => rw [hq] at hx; cases hx
    | some z =>
      rw [hq] at hx
      injection hx with hx
      rw [← hx, Nat.zero_add]
      exact hc j z hq) hg (by rw [List.length_map]; omega) (by rw [List.length_map]; omega) (by rw [e1]; omega)
  rw [e1, List.length_map, hn] at this
  exact this
theorem elStr : Elem Tryd.prog 65 9 (.string .empty) 16 := ⟨Tryd.underlying65, by kernel_rfl, rfl⟩
theorem join_len (sep : List UInt8) (xs : List (List UInt8)) (h3 : xs.length ≤ 3) (hx : ∀ x ∈ xs, x.length ≤ 21) (hs : sep.length ≤ 10) : (Lib.join xs sep).length ≤ 1000 := by
  match xs, h3, hx with
  | [], _, _ => simp [Lib.join_nil]
  | [a], _, hx =>
    have h0 := hx a (by simp)
    rw [Lib.join_one]
    omega
  | [a, b], _, hx =>
    have h0 := hx a (by simp)
    have h1 := hx b (by simp)
    rw [Lib.join_length]
    simp [Lib.lens]
    omega
  | [a, b, c], _, hx =>
    have h0 := hx a (by simp)
    have h1 := hx b (by simp)
    have h2 := hx c (by simp)
    rw [Lib.join_length]
    simp [Lib.lens]
    omega
end Go.Proofs.YtjfmnflcgenpaaaDoor

/- Contracts of crc's tailOf, Seal, Open. -/
import Derived.Test.YtbemloijgabfcaaDoorCrcA
namespace Go.Proofs.YtbemloijgabfcaaDoor
open Go.RowKit

theorem elU8 : Elem Tryd.prog 22 5 (.int .u8 0) 1 := ⟨Tryd.underlying22, by kernel_rfl, rfl⟩
/-- A sum as four bytes, the lowest first. -/
def le4 (s : Nat) : List UInt8 := [UInt8.ofNat s, UInt8.ofNat (s / 256), UInt8.ofNat (s / 65536), UInt8.ofNat (s / 16777216)]
theorem b8_ofNat (n : Nat) : b8 (UInt8.ofNat n) = .int .u8 ((n : Int) % 256) := by simp [b8]
theorem le4_length (s : Nat) : (le4 s).length = 4 := rfl
theorem bs_le4 (s : Nat) (h : s < 4294967296) : bs (le4 s) = [.int .u8 ((s : Int) % 256), .int .u8 ((s : Int) / 256 % 256), .int .u8 ((s : Int) / 65536 % 256), .int .u8 ((s : Int) / 16777216)] := by
  have e : ((s : Int) / 16777216) = ((s / 16777216 : Nat) : Int) % 256 := by omega
  rw [e]
  simp only [bs, le4, List.map_cons, List.map_nil, b8_ofNat]
  rfl
def tailV (s : Nat) : Value := .agg (bs (le4 s)).toArray
set_option maxHeartbeats 400000 in
theorem tail_any (A : Option Addr) (c : Nat) (l : List UInt8) (w : World) (ht : Tab w) (hr : Rd w A (bs l)) (hl : l.length ≤ maxLen) :
    Calls Tryd.prog 20 #[.slice A l.length c] w fun e w' => e = .returned (tailV (more 0 l)) ∧ Below w.heap.size w w' := by
  have HT := Lib.hid ht
  have HR := Lib.hid hr
  have hs := more_lt 0 l
  clear ht hr
  have hfin : Hid (tailV (more 0 l) = .agg #[.int .u8 ((more 0 l : Nat) % 256), .int .u8 ((more 0 l : Nat) / 256 % 256), .int .u8 ((more 0 l : Nat) / 65536 % 256), .int .u8 ((more 0 l : Nat) / 16777216)]) := by
    unfold Hid tailV
    rw [bs_le4 _ hs]
  go_enter Tryd.func20, Tryd.ntmps20
  go_wp2_with fail
  refine (sum_any A c l _ (HT.out.below (((Below.refl _ _).alloc (Nat.le_refl _) _).alloc (by simp) _)) (HR.out.below (((Below.refl _ _).alloc (Nat.le_refl _) _).alloc (by simp) _)) hl).mono ?_
  rintro e w' ⟨rfl, rfl⟩
  generalize hgs : more 0 l = s at *
  have HG := Lib.hid hgs
  clear hgs
  go_wp2_with fail
  refine wp_loop_rounds 5 ?_
  iterate 5 (rw [rounds_succ]; go_wp2_with fail)
  exact bodyPost_ret (v := .agg #[.int .u8 ((s : Int) % 256), .int .u8 ((s : Int) / 256 % 256), .int .u8 ((s : Int) / 65536 % 256), .int .u8 ((s : Int) / 16777216)]) (by simp [results, Tryd.results20, go_sem]) rfl ⟨by rw [HG.out, hfin.out], ((Below.refl _ _).alloc (Nat.le_refl _) _).alloc (by simp) _⟩

/-- A sum as a text behind bytes. -/
def sealed (l : List UInt8) : List UInt8 := l ++ le4 (more 0 l)
theorem seal_length (l : List UInt8) : (sealed l).length = l.length + 4 := by simp [sealed, le4_length]

theorem tailV_form (s : Nat) : ∃ x0 x1 x2 x3 : Int, bs (le4 s) = [.int .u8 x0, .int .u8 x1, .int .u8 x2, .int .u8 x3] ∧ tailV s = .agg #[.int .u8 x0, .int .u8 x1, .int .u8 x2, .int .u8 x3] :=
  ⟨_, _, _, _, rfl, rfl⟩

set_option maxHeartbeats 400000 in
theorem seal_any (A : Option Addr) (c : Nat) (l : List UInt8) (w : World) (ht : Tab w) (hr : Rd w A (bs l)) (hl : l.length ≤ 1000000) :
    Calls Tryd.prog 16 #[.slice A l.length c] w fun e w' => ∃ v, e = .returned v ∧ w'.ownsRow w.heap.size 5 1 v (l.length + 4) (bs (sealed l)) ∧ Below w.heap.size w w' := by
  have HT := Lib.hid ht
  have HR := Lib.hid hr
  clear ht hr
  obtain ⟨x0, x1, x2, x3, hx, hv⟩ := tailV_form (more 0 l)
  have HX := Lib.hid hx
  have HV := Lib.hid hv
  clear hx hv
  go_enter Tryd.func16, Tryd.ntmps16
  go_wp2_with fail
  refine (tail_any A c l _ HT.out HR.out (by unfold maxLen; omega)).mono ?_
  rintro e w1 ⟨he, hb1⟩
  rw [HV.out] at he
  subst he
  have hmk : ∀ W : World, (Instr.makeSlice 22 (.int .i64 0) (.int .i64 ((l.length : Int) + 4))).run Tryd.prog W = .ok (.slice (some ⟨W.heap.size, 0, none⟩) 0 (l.length + 4)) (W.alloc (.cells (madeCells #[.int .u8 0] (l.length + 4)) 5)) := fun W =>
    run_mk elU8 0 ((l.length : Int) + 4) (by omega) (by omega) (by omega) (by omega) W
  have hs1 := hb1.size
  go_wp2_with (first
    | (at_builtin
       refine wpList_app rfl (.tmp 11) (.tmp 12) _ rfl elU8 w.heap.size (.slice (some ⟨w1.heap.size + 1, 0, none⟩) 0 (l.length + 4)) 0 [] rfl ?own A l.length c (bs l) rfl (bs_length l) ?rd (bs_one l) (by unfold maxLen; omega) (by omega) ?hb ?_
       case own => exact owns_mk _ _ _ (by simp) (by simp; omega) (by unfold maxLen; omega) (by simp [size_madeCells])
       case rd => exact ((HR.out.below hb1).alloc _).alloc _
       case hb => simp; omega
       intro v2 w2 hown2 hg2 hat2)
    | (at_builtin
       refine wpList_app rfl (.tmp 14) (.tmp 15) _ rfl elU8 w.heap.size v2 (0 + l.length) ([] ++ bs l) rfl hown2 _ 4 _ (bs (le4 (more 0 l))) rfl rfl ?rd (bs_one _) (by unfold maxLen; omega) (by omega) (by have := hg2.size; simp at this; omega) ?_
       case rd =>
         rw [HX.out]
         exact Rd.grown (Rd.block (heap_alloc2_old _ _ _)) hg2 (fun q hq => by injection hq with hq; subst hq; simp [Value.ownBlock])
       intro v3 w3 hown3 hg3 hat3))
  have hb2 := ((hb1.alloc hs1 (.cells #[.int .u8 x0, .int .u8 x1, .int .u8 x2, .int .u8 x3] 45)).alloc (by simp; omega) (.cells (madeCells #[.int .u8 0] (l.length + 4)) 5)).grown hg2 (by simp; omega) (fun k hk => by
    simp only [Value.ownBlock, Option.some.injEq] at hk
    omega)
  have hb3 := hb2.grown hg3 hb2.size (fun k hk => owns_block hown2 k hk)
  go_ret
  exact ⟨v3, rfl, by simpa [sealed, bs_append] using hown3, hb3⟩

/-! The same, the length under a name of its own. -/
theorem more_n (s : Nat) (A : Option Addr) (n c : Nat) (l : List UInt8) (w : World) (hn : l.length = n) (hs : s < 4294967296) (ht : Tab w) (hr : Rd w A (bs l)) (hl : n ≤ maxLen) :
    Calls Tryd.prog 13 #[.int .u32 s, .slice A n c] w fun e w' => e = .returned (.int .u32 (more s l)) ∧ w = w' := by
  subst hn; exact more_any s A c l w hs ht hr hl
theorem sum_n (A : Option Addr) (n c : Nat) (l : List UInt8) (w : World) (hn : l.length = n) (ht : Tab w) (hr : Rd w A (bs l)) (hl : n ≤ maxLen) :
    Calls Tryd.prog 11 #[.slice A n c] w fun e w' => e = .returned (.int .u32 (more 0 l)) ∧ w = w' := by
  subst hn; exact sum_any A c l w ht hr hl
theorem tail_n (A : Option Addr) (n c : Nat) (l : List UInt8) (w : World) (hn : l.length = n) (ht : Tab w) (hr : Rd w A (bs l)) (hl : n ≤ maxLen) :
    Calls Tryd.prog 20 #[.slice A n c] w fun e w' => e = .returned (tailV (more 0 l)) ∧ Below w.heap.size w w' := by
  subst hn; exact tail_any A c l w ht hr hl
theorem seal_n (A : Option Addr) (n c : Nat) (l : List UInt8) (w : World) (hn : l.length = n) (ht : Tab w) (hr : Rd w A (bs l)) (hl : n ≤ 1000000) :
    Calls Tryd.prog 16 #[.slice A n c] w fun e w' => ∃ v, e = .returned v ∧ w'.ownsRow w.heap.size 5 1 v (n + 4) (bs (sealed l)) ∧ Below w.heap.size w w' := by
  subst hn; exact seal_any A c l w ht hr hl
end Go.Proofs.YtbemloijgabfcaaDoor

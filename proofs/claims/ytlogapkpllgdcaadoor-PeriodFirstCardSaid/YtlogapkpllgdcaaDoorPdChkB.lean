/- Contracts: isWrong; what finds loops. -/
import Derived.Test.YtlogapkpllgdcaaDoorPdChkA
import Derived.Test.YtlogapkpllgdcaaDoorRlC
import Derived.Laws.EntriesVeiled
namespace Go.Proofs.YtlogapkpllgdcaaDoor
open Go.RowKit

/-- The cells of an entry's box. -/
abbrev encs (r : Rl) (s : Value) : Array Value := #[.int .i64 r.k, .int .i64 r.mo, .int .i64 r.n, .int .i64 r.wk, .int .i64 r.fy, .int .i64 r.fm, .int .i64 r.fd, .int .i64 r.ty, .int .i64 r.tm, .int .i64 r.td, s]
set_option maxRecDepth 100000 in
set_option maxHeartbeats 1000000 in
theorem wrongE_any (p : Addr) (e : Ent) (s : Value) (w : World) (ht : Tab w) (hs : HSp w s e.sp) (hl : e.sp.length ≤ 1000000) (hp : w.cell? p = some (.func (.func 65) #[] #[])) :
    Calls Tryd.prog 66 #[env e.r s, .pointer (some p)] w fun e' w' => e' = .returned (.bool (wrongE e)) ∧ Below w.heap.size w w' := by
  have hb := (Below.refl w.heap.size w).alloc (Nat.le_refl _) (.cells (encs e.r s) 59)
  have HC := Lib.hid (check_any e.r (w.alloc (.cells (encs e.r s) 59)) (ht.below hb))
  have HF := Lib.hid (fun W (hW : Below w.heap.size w W) => anyS 65 #[] W ent_badS badS hl (hs.below hW) (fun y W' _ _ => badS_any y W'))
  have HK := Lib.hid (fun W (hW : Below w.heap.size w W) => cell_below hp hW)
  have G0 := Lib.hid (heap_alloc_new w (.cells (encs e.r s) 59))
  have HB := Lib.hid hb
  have H : Hid (wrongE e = (!mayR e.r || e.sp.any badS)) := rfl
  generalize wrongE e = b at *
  generalize e.sp.any badS = y at *
  clear hb ht hs hl hp
  obtain ⟨r, sp⟩ := e
  obtain ⟨k, mo, n, wk, fy, fm, fd, ty, tm, td⟩ := r
  unfold rv at HC
  unfold env
  simp only at *
  cases hm : mayR ⟨k, mo, n, wk, fy, fm, fd, ty, tm, td⟩
  · rw [hm] at HC
    unfold errE errK at HC
    simp only [Bool.false_eq_true, if_false] at HC
    go_enter Tryd.func66, Tryd.ntmps66
    go_wp2_with fail
    refine HC.out.mono ?_
    rintro e w1 ⟨rfl, hb1⟩
    have HB1 := Lib.hid (HB.out.trans (hb1.mono HB.out.size))
    clear hb1
    go_wp2_with fail
    go_ret
    exact ⟨ret_bool (by rw [H.out, hm]; rfl), HB1.out⟩
  · rw [hm, if_pos rfl, errE_zero] at HC
    go_enter Tryd.func66, Tryd.ntmps66
    go_wp2_with fail
    refine HC.out.mono ?_
    rintro e w1 ⟨rfl, hb1⟩
    have HB1 := Lib.hid (HB.out.trans (hb1.mono HB.out.size))
    have K10 := cell_blk ((hb1.block w.heap.size (by simp)).trans G0.out) 10 (v := s) rfl
    have KP := HK.out _ HB1.out
    clear hb1
    go_wp2_with fail
    refine (HF.out _ HB1.out).mono ?_
    rintro e w2 ⟨rfl, hb2⟩
    have HB2 := Lib.hid (HB1.out.trans (hb2.mono HB1.out.size))
    clear hb2
    go_wp2_with fail
    go_ret
    exact ⟨ret_bool (by rw [H.out, hm]; rfl), HB2.out⟩
theorem ent_wrongE : Ent1 66 := enters_of Tryd.func66 (by kernel_rfl) rfl
set_option maxRecDepth 100000 in
set_option maxHeartbeats 1000000 in
theorem wrongP_any (x : Prd) (s u : Value) (w : World) (ht : Tab w) (hs : HEn w s x.es) (hl : x.es.length ≤ 1000000) (hl2 : ∀ e ∈ x.es, e.sp.length ≤ 1000000) :
    Calls Tryd.prog 53 #[.agg #[s, u]] w fun e w' => e = .returned (.bool (wrongP x)) ∧ Below w.heap.size w w' := by
  have hb0 := (Below.refl w.heap.size w).alloc (Nat.le_refl _) (.cells #[s, u] 62)
  have hb := hb0.alloc hb0.size (.cells #[.func (.func 65) #[] #[]] 79)
  have g1 := cell_blk (heap_new2 w (.cells #[s, u] 62) (.cells #[.func (.func 65) #[] #[]] 79)) 0 rfl
  have HX := Lib.hid (anyE 66 #[.pointer (some ⟨w.heap.size + 1, 0, none⟩)] _ ent_wrongE wrongE hl (hs.below hb) (fun y sv W hy hsp hW => wrongE_any ⟨w.heap.size + 1, 0, none⟩ y sv W (ht.below (hb.trans (hW.mono hb.size))) hsp (hl2 y hy) (cell_below g1 hW)))
  have HB := Lib.hid hb
  have H : Hid (wrongP x = x.es.any wrongE) := rfl
  rw [← H.out] at HX
  generalize wrongP x = b at *
  clear hb hb0 ht hs hl hl2 g1
  go_enter Tryd.func53, Tryd.ntmps53
  go_wp2_with fail
  refine HX.out.mono ?_
  rintro e w' ⟨rfl, hb⟩
  have HB2 := Lib.hid (HB.out.trans (hb.mono HB.out.size))
  clear hb
  go_wp2_with fail
  go_ret
  exact ⟨rfl, HB2.out⟩
theorem ent_wrongP : Ent1 53 := enters_of Tryd.func53 (by kernel_rfl) rfl
end Go.Proofs.YtlogapkpllgdcaaDoor

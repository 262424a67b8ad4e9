/- Contract: lex.Words. -/
import Derived.Test.YtbeehedppofpnaaGreatDoorLxI
namespace Go.Proofs.YtbeehedppofpnaaGreatDoor
open Go.RowKit Go.Proofs

theorem fields_any (l : Tx) (w : World) (hl : l.length ≤ 1000000) :
    Calls Tryz.prog 91 #[.string (str l), .func (.func 92) #[] #[]] w fun e w' => ∃ v, e = .returned v ∧ RowS w' v (wds l []) ∧ Below w.heap.size w w' := by
  have hp : PredGrows Tryz.prog 92 #[] blkR w := fun W x hx _ => isBlank_any x W hx
  have hg : ∀ args w, (callFunc 92 args).run Tryz.prog w = .ok (.enter 92 args) w := enters_of Tryz.func92 (by kernel_rfl) rfl
  refine (show Calls Tryz.prog 91 #[.string (str l), .func (.func 92) #[] #[]] w _ from Any.strings_FieldsFunc_grows Tryz.fieldsL 92 #[] hg blkR (str l) w (by rw [str_size]; omega) hp (by kernel_rfl) (by kernel_rfl)).mono ?_
  rintro e w' ⟨A, rfl, _, ho, hb⟩
  have e1 : Lib.goFieldsP blkR (str l) = (wds l []).map str := fields_wds (str l)
  have e2 : ((wds l []).map str).map Value.string = (wds l []).map txC := by
    rw [List.map_map]
    rfl
  rw [e1, e2, List.length_map] at ho
  rw [e1, List.length_map]
  exact ⟨_, rfl, RowS.owned rfl ho, hb⟩
set_option maxRecDepth 100000 in
theorem words_any (l : Tx) (w : World) (hl : l.length ≤ 1000000) : Calls Tryz.prog 77 #[.string (str l)] w fun e w' => ∃ v, e = .returned v ∧ RowS w' v (wds l []) ∧ Below w.heap.size w w' := by
  have HF := Lib.hid (fun W => fields_any l W hl)
  generalize str l = S at *
  generalize wds l [] = R at *
  clear hl
  go_enter Tryz.func77, Tryz.ntmps77
  go_wp2_with fail
  refine (HF.out _).mono ?_
  rintro e w1 ⟨v, rfl, hv, hb⟩
  have HH := Lib.hid (And.intro hv hb)
  clear hv hb
  go_wp2_with fail
  go_ret
  exact ⟨v, rfl, HH.out⟩
theorem wds_len : ∀ (l w : Tx), (wds l w).length ≤ l.length + 1
  | [], w => by
    rw [wds]
    split <;> simp
  | x :: r, w => by
    rw [wds]
    split
    · split
      · have := wds_len r []
        simp only [List.length_cons]
        omega
      · have := wds_len r []
        simp only [List.length_cons]
        omega
    · have := wds_len r (w ++ [x])
      simp only [List.length_cons]
      omega
end Go.Proofs.YtbeehedppofpnaaGreatDoor

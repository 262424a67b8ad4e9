/- Package files by the disk's word: Crash, Sync; a nil disk. -/
import Derived.Test.YtljagggankmnkaaDoorFsF
namespace Go.Proofs.YtljagggankmnkaaDoor
open Go.RowKit Go.Maps

section
variable {B p : Nat} {F : Nat → Prop} {su no : List (Bs × Bs)} {st : List (Stp Bs)}
theorem crash_bad (k q : Int) (w : World) (hd : Disk w B p F su no st) (h : k < 0 ∨ (st.length : Int) < k ∨ q < 0) :
    Calls Tryd.prog 22 #[.pointer (some ⟨p, 0, none⟩), .int .i64 k, .int .i64 q] w fun e w' => e = .returned (errV 1) ∧ w = w' := by
  obtain ⟨ba, bb, sv, Vs, Vn, T, hd, rfl, rfl, rfl⟩ := hd
  obtain ⟨A, c, rfl⟩ : ∃ A c, sv = .slice A T.length c := by
    rcases hd.row.2 with ⟨rfl, e⟩ | ⟨g, cap, cur, rfl, _⟩
    · exact ⟨_, _, by rw [e]⟩
    · exact ⟨_, _, rfl⟩
  exact crash_err _ _ A c T.length k q w hd.cell (by simpa using h)
theorem crash_ok (k q : Nat) (w : World) (hd : Disk w B p F su no st) (hB : B ≤ w.heap.size) (hk : k ≤ st.length) :
    Calls Tryd.prog 22 #[.pointer (some ⟨p, 0, none⟩), .int .i64 k, .int .i64 q] w fun e w' => e = .returned (errV 0) ∧ ∃ F', Turn F w F' w' ∧ Disk w' B p F' (crashF su st k q) (crashF su st k q) [] := by
  obtain ⟨ba, bb, sv, Vs, Vn, T, hd, rfl, rfl, rfl⟩ := hd
  refine (crash_dk k q T.length w hd rfl (by simpa using hk) hB).mono ?_
  rintro e w' ⟨V2, bn, F', rfl, ht, hd2, hq⟩
  exact ⟨rfl, F', ht, ba, bn, _, V2, V2, [], hd2, hq.symm, hq.symm, rfl⟩
theorem crashF_all {su no : List (Bs × Bs)} {st : List (Stp Bs)} (h : Hist su st no) (q : Nat) : crashF su st st.length q = no := by
  rw [crashF_plain (fun s hs => by simp at hs), List.take_length, hist_plays h]
theorem crashF_none (su : List (Bs × Bs)) (st : List (Stp Bs)) : crashF su st 0 0 = su := by
  rw [crashF_plain (fun s _ h => by omega)]
  rfl
set_option maxHeartbeats 1000000 in
theorem sync_is (w : World) (hd : Disk w B p F su no st) (hB : B ≤ w.heap.size) :
    Calls Tryd.prog 20 #[.pointer (some ⟨p, 0, none⟩)] w fun e w' => e = .returned (errV 0) ∧ ∃ F', Turn F w F' w' ∧ Disk w' B p F' no no [] := by
  have HP := Lib.hid (pending_is w hd)
  have h := crash_ok st.length 0 w hd hB (Nat.le_refl _)
  rw [crashF_all hd.hist] at h
  have HC := Lib.hid h
  clear hd hB h
  go_enter Tryd.func20, Tryd.ntmps20
  go_wp2_with fail
  refine HP.out.mono ?_
  rintro e w1 ⟨rfl, rfl⟩
  go_wp2_with fail
  refine HC.out.mono ?_
  rintro e w1 ⟨rfl, h⟩
  have HX := Lib.hid h
  clear h
  go_wp2_with fail
  go_ret
  exact ⟨rfl, HX.out⟩
end

/-! ### a nil disk -/
theorem write_nil (s : ByteArray) (v : Value) (w : World) : Calls Tryd.prog 17 #[.pointer none, .string s, v] w fun e w' => e = .returned (errV 1) ∧ w = w' := by
  have e1 : errV 1 = .iface 70 (.int .i64 1) := rfl
  rw [e1]
  clear e1
  go_enter Tryd.func17, Tryd.ntmps17
  go_wp2_with fail
  go_ret
  exact ⟨rfl, rfl⟩
theorem rename_nil (s t : ByteArray) (w : World) : Calls Tryd.prog 21 #[.pointer none, .string s, .string t] w fun e w' => e = .returned (errV 1) ∧ w = w' := by
  have e1 : errV 1 = .iface 70 (.int .i64 1) := rfl
  rw [e1]
  clear e1
  go_enter Tryd.func21, Tryd.ntmps21
  go_wp2_with fail
  go_ret
  exact ⟨rfl, rfl⟩
theorem remove_nil (s : ByteArray) (w : World) : Calls Tryd.prog 19 #[.pointer none, .string s] w fun e w' => e = .returned (errV 1) ∧ w = w' := by
  have e1 : errV 1 = .iface 70 (.int .i64 1) := rfl
  rw [e1]
  clear e1
  go_enter Tryd.func19, Tryd.ntmps19
  go_wp2_with fail
  go_ret
  exact ⟨rfl, rfl⟩
theorem read_nil (s : ByteArray) (w : World) : Calls Tryd.prog 12 #[.pointer none, .string s] w fun e w' => e = .returned (.tuple #[.slice none 0 0, errV 1]) ∧ w = w' := by
  have e1 : errV 1 = .iface 70 (.int .i64 1) := rfl
  rw [e1]
  clear e1
  go_enter Tryd.func12, Tryd.ntmps12
  go_wp2_with fail
  go_ret2
  exact ⟨rfl, rfl⟩
theorem pending_nil (w : World) : Calls Tryd.prog 11 #[.pointer none] w fun e w' => e = .returned (.int .i64 0) ∧ w = w' := by
  go_enter Tryd.func11, Tryd.ntmps11
  go_wp2_with fail
  go_ret
  exact ⟨rfl, rfl⟩
theorem names_nil (w : World) : Calls Tryd.prog 18 #[.pointer none] w fun e w' => e = .returned (.slice none 0 0) ∧ w = w' := by
  go_enter Tryd.func18, Tryd.ntmps18
  go_wp2_with fail
  go_ret
  exact ⟨rfl, rfl⟩
theorem crash_nil (k q : Int) (w : World) : Calls Tryd.prog 22 #[.pointer none, .int .i64 k, .int .i64 q] w fun e w' => e = .returned (errV 1) ∧ w = w' := by
  have e1 : errV 1 = .iface 70 (.int .i64 1) := rfl
  rw [e1]
  clear e1
  go_enter Tryd.func22, Tryd.ntmps22
  go_wp2_with fail
  go_ret
  exact ⟨rfl, rfl⟩
theorem sync_nil (w : World) : Calls Tryd.prog 20 #[.pointer none] w fun e w' => e = .returned (errV 1) ∧ w = w' := by
  have HP := Lib.hid (pending_nil w)
  have HC := Lib.hid (crash_nil 0 0 w)
  go_enter Tryd.func20, Tryd.ntmps20
  go_wp2_with fail
  refine HP.out.mono ?_
  rintro e w1 ⟨rfl, rfl⟩
  go_wp2_with fail
  refine HC.out.mono ?_
  rintro e w1 ⟨rfl, rfl⟩
  go_wp2_with fail
  go_ret
  exact ⟨rfl, rfl⟩
end Go.Proofs.YtljagggankmnkaaDoor

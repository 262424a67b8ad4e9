/- Package files: copied, mayStand, isName. -/
import Derived.Test.YtljagggankmnkaaDoorFsMath
import Derived.Laws.RangeAny
namespace Go.Proofs.YtljagggankmnkaaDoor
open Go.RowKit

theorem elemB : Elem Tryd.prog 36 5 (.int .u8 0) 1 := ⟨Tryd.underlying36, by kernel_rfl, rfl⟩
theorem copied_is (l : Bs) (A : Option Addr) (n c : Nat) (w : World) (hl : l.length = n) (hr : Rd w A (bs l)) (hn : n ≤ 1000000) :
    Calls Tryd.prog 29 #[.slice A n c] w fun e w' => ∃ v, e = .returned v ∧ Below w.heap.size w w' ∧ w'.ownsRow w.heap.size 5 1 v n (bs l) := by
  have HR := Lib.hid hr
  have HL := Lib.hid hl
  have HN := Lib.hid hn
  clear hr hl hn
  go_enter Tryd.func29, Tryd.ntmps29
  have hm : n ≤ 1000000 := HN.out
  go_wp2_with
    (at_builtin
     refine wpList_app rfl (.const (.slice none 0 0)) (.tmp 3) _ rfl elemB w.heap.size (.slice none 0 0) 0 [] rfl (World.ownsRow_nil _ _ _ _) A n c (bs l) rfl (by rw [bs_length]; exact HL.out) HR.out (bs_one l) (by unfold maxLen; omega) (by omega) (Nat.le_refl _) ?_)
  intro v w1 ho hg _
  have HB := Lib.hid ((Below.refl w.heap.size w).grown hg (Nat.le_refl _) (fun k hk => by simp [Value.ownBlock] at hk))
  have HO := Lib.hid ho
  clear ho hg hm
  go_wp2_with fail
  go_ret
  exact ⟨_, rfl, HB.out, by simpa using HO.out⟩

def may (c : Int) : Bool := (decide (97 ≤ c) && decide (c ≤ 122)) || (decide (48 ≤ c) && decide (c ≤ 57)) || c == 46 || c == 45
def okB (b : UInt8) : Bool := may (b.toNat : Int)
def named (l : Bs) : Bool := !(l == []) && decide (l.length < 33) && l.all okB
theorem mayStand_is (c : Int) (w : World) : Calls Tryd.prog 38 #[.int .i32 c] w fun e w' => e = .returned (.bool (may c)) ∧ w = w' := by
  cases h1 : decide (97 ≤ c) <;> cases h2 : decide (c ≤ 122) <;> cases h3 : decide (48 ≤ c) <;> cases h4 : decide (c ≤ 57) <;> cases h5 : (c == 46) <;> cases h6 : (c == 45)
  all_goals
    have hm : ∃ b, b = may c ∧ may c = b := ⟨_, rfl, rfl⟩
    simp only [may, h1, h2, h3, h4, h5, h6, Bool.and_true, Bool.and_false, Bool.or_true, Bool.or_false]
    clear hm
    go_enter Tryd.func38, Tryd.ntmps38
    go_wp2_with fail
    go_ret
    exact ⟨rfl, rfl⟩

theorem okB_byte (b : UInt8) : okB b = may (b.toNat : Int) := rfl
theorem named_long {l : Bs} (h : ¬ l.length ≤ 32) : named l = false := by
  have : ¬ l.length < 33 := by omega
  simp [named, this]
theorem may_high {c : Nat} (h : 128 ≤ c) : may (c : Int) = false := by
  unfold may
  simp
  omega
theorem str_get (l : Bs) (k : Nat) (h : k < l.length) : ((str l)[k]'h) = l[k] := rfl
/-- What of a name is known behind some bytes. -/
def okTo (l : Bs) (k : Nat) : Prop := ∀ j, (hj : j < l.length) → j < k → okB l[j] = true
theorem okTo_all {l : Bs} (h : okTo l l.length) : l.all okB = true := by
  rw [List.all_eq_true]
  intro b hb
  obtain ⟨i, hi, rfl⟩ := List.getElem_of_mem hb
  exact h i hi hi
theorem not_all {l : Bs} {k : Nat} (hk : k < l.length) (h : okB l[k] = false) : l.all okB = false := by
  rw [Bool.eq_false_iff]
  intro h1
  have := List.all_eq_true.1 h1 _ (List.getElem_mem hk)
  rw [h] at this
  cases this
theorem str_empty {l : Bs} : (str l).toList.isEmpty = (l == []) := by rw [str_toList]; cases l <;> rfl
set_option maxHeartbeats 1000000 in
set_option maxRecDepth 100000 in
theorem isName_is (l : Bs) (w : World) : Calls Tryd.prog 27 #[.string (str l)] w fun e w' => e = .returned (.bool (named l)) ∧ Below w.heap.size w w' := by
  obtain ⟨n, hn⟩ : ∃ n, l.length = n := ⟨_, rfl⟩
  have hs : (str l).size = n := hn
  have hE := @str_empty l
  have hT := str_toList l
  by_cases h0 : l = []
  · subst h0
    have e0 : named [] = false := rfl
    rw [e0]
    generalize str [] = s at hs hE hT ⊢
    have hE' : s.toList.isEmpty = true := hE
    clear e0 hn hs hE
    go_enter Tryd.func27, Tryd.ntmps27
    go_wp2_with fail
    go_ret
    exact ⟨rfl, Below.refl _ _⟩
  have hE' : (str l).toList.isEmpty = false := by rw [hE]; simpa using h0
  have hT' : ¬ (str l).toList = [] := by rw [hT]; exact h0
  by_cases h1 : n ≤ 32
  · have hnm : named l = l.all okB := by simp [named, h0, show l.length < 33 by omega]
    rw [hnm]
    have HN := Lib.hid hn
    have HS := Lib.hid hs
    clear hnm hE hT
    obtain ⟨s, hsl⟩ : ∃ s, str l = s := ⟨_, rfl⟩
    have HSL := Lib.hid hsl
    rw [hsl] at hs hE' hT' ⊢
    clear hsl hn h0
    have h2 : decide ((32 : Int) < (n : Int)) = false := by simp; omega
    go_enter Tryd.func27, Tryd.ntmps27
    go_wp2_with fail
    have HX := Lib.hid (And.intro hs (And.intro hE' hT'))
    clear hs hE' hT' h2
    go_loopw [4] (fun _ w' => ∃ pos, w' = w.iter s pos ∧ pos ≤ n ∧ okTo l pos) (fun _ w' => n - w'.iterPos w.heap.size)
    case atStart => exact ⟨0, rfl, Nat.zero_le _, fun j _ hj => absurd hj (by omega)⟩
    case round =>
      obtain ⟨pos, rfl, hp0, hk⟩ := hrel
      have HK := Lib.hid hk
      clear hk
      by_cases hp : pos < n
      · have hps : pos < s.size := by rw [HX.out.1]; exact hp
        have hb : s[pos]'hps = l[pos]'(by rw [HN.out]; exact hp) := by
          have := HSL.out
          subst this
          rfl
        have hnx : ∀ ty, (Instr.next (.pointer (some ⟨w.heap.size, 0, none⟩)) true ty).run Tryd.prog (w.iter s pos) = _ := fun ty => run_next_any w s pos ty hps
        by_cases ha : (s[pos]'hps).toNat < 128
        · rw [decode_ascii s pos hps ha] at hnx
          rw [hb] at hnx ha
          generalize hbb : l[pos]'(by rw [HN.out]; exact hp) = b at hnx ha
          have HBB := Lib.hid hbb
          clear hbb hb
          cases hm : okB b
          · have hm' : may (b.toNat : Int) = false := hm
            clear hm
            go_wp2_with (go_at_call 38; refine (mayStand_is _ _).mono ?_; rintro e w' ⟨rfl, rfl⟩)
            go_ret
            have hall : l.all okB = false := not_all (by rw [HN.out]; exact hp) (by rw [HBB.out]; exact hm')
            exact ⟨by rw [hall]; rfl, (Below.refl _ _).alloc (Nat.le_refl _) _⟩
          · have hm' : may (b.toNat : Int) = true := hm
            clear hm
            go_wp2_with (go_at_call 38; refine (mayStand_is _ _).mono ?_; rintro e w' ⟨rfl, rfl⟩)
            go_roundw
            case rel =>
              refine ⟨pos + 1, rfl, hp, fun j hj hjp => ?_⟩
              by_cases hje : j = pos
              · subst hje
                rw [HBB.out]
                exact hm'
              · exact HK.out j hj (by omega)
            case measure =>
              simp
              omega
        · obtain ⟨hd1, _⟩ := decode_high s pos hps (by omega)
          have hob : okB (l[pos]'(by rw [HN.out]; exact hp)) = false := by
            rw [← hb]
            exact may_high (by omega)
          have HOB := Lib.hid hob
          generalize Utf8.decode s pos = d at hnx hd1
          obtain ⟨c, k⟩ := d
          have hm' : may (c : Int) = false := may_high hd1
          have hnx' : ∀ ty, (Instr.next (.pointer (some ⟨w.heap.size, 0, none⟩)) true ty).run Tryd.prog (w.iter s pos) = .ok (.tuple #[.bool true, .int .i64 pos, .int .i32 c]) (w.iter s (pos + k)) := hnx
          clear hnx hob hb ha hd1
          go_wp2_with (go_at_call 38; refine (mayStand_is _ _).mono ?_; rintro e w' ⟨rfl, rfl⟩)
          go_ret
          have hall : l.all okB = false := not_all (by rw [HN.out]; exact hp) HOB.out
          exact ⟨by rw [hall]; rfl, (Below.refl _ _).alloc (Nat.le_refl _) _⟩
      · have hnx : ∀ ty, (Instr.next (.pointer (some ⟨w.heap.size, 0, none⟩)) true ty).run Tryd.prog (w.iter s pos) = _ := fun ty => run_next_end w s pos ty (by rw [HX.out.1]; exact hp)
        go_wp2_with fail
        go_ret
        have hall : l.all okB = true := okTo_all (fun j hj _ => HK.out j hj (by have := HN.out; omega))
        exact ⟨by rw [hall]; rfl, (Below.refl _ _).alloc (Nat.le_refl _) _⟩
  · have hnm : named l = false := named_long (by omega)
    rw [hnm]
    have h2 : decide ((32 : Int) < (n : Int)) = true := by simp; omega
    clear hnm hn h0
    generalize str l = s at hs hE hT hE' hT' ⊢
    clear hE hT
    go_enter Tryd.func27, Tryd.ntmps27
    go_wp2_with fail
    go_ret
    exact ⟨rfl, Below.refl _ _⟩
end Go.Proofs.YtljagggankmnkaaDoor

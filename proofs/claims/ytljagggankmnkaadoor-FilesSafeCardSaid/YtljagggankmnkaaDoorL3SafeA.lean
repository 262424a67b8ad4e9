/- Layer 3's law FilesSafe: a file that no step names stays; and do, with its steps told. -/
import Derived.Test.YtljagggankmnkaaDoorL3PairA
namespace Go.Proofs.YtljagggankmnkaaDoor
open Go.RowKit Go.Maps

section
variable {α : Type}
theorem got_ins_ne {x k : Bs} {a : α} (h : k ≠ x) : ∀ l : List (Bs × α), got x (ins (k, a) l) = got x l
  | [] => by simp [got, ins, h]
  | y :: r => by
    have ih := got_ins_ne (a := a) h r
    unfold got at ih ⊢
    unfold ins
    split
    · rw [List.find?_cons_of_neg (by simpa using h)]
    · by_cases hy : y.1 = x
      · rw [List.find?_cons_of_pos (by simpa using hy), List.find?_cons_of_pos (by simpa using hy)]
      · rw [List.find?_cons_of_neg (by simpa using hy), List.find?_cons_of_neg (by simpa using hy)]
        exact ih
theorem got_ins_self {x : Bs} {a : α} : ∀ {l : List (Bs × α)}, (∀ p ∈ l, p.1 ≠ x) → got x (ins (x, a) l) = some a
  | [], _ => by simp [got, ins]
  | y :: r, h => by
    have ih := got_ins_self (a := a) (l := r) (fun p hp => h p (List.mem_cons_of_mem _ hp))
    have hy := h y List.mem_cons_self
    unfold got at ih ⊢
    unfold ins
    split
    · rw [List.find?_cons_of_pos (by simp)]; rfl
    · rw [List.find?_cons_of_neg (by simpa using hy)]
      exact ih
theorem got_del_ne {x k : Bs} (h : k ≠ x) (l : List (Bs × α)) : got x (del k l) = got x l := by
  unfold got del
  rw [List.find?_filter]
  congr 2
  funext p
  by_cases hp : p.1 = x
  · have : p.1 ≠ k := fun e => h (e.symm.trans hp)
    simp [hp, this]
    exact fun e => this (hp.trans e)
  · simp [hp]
theorem got_put_ne {x k : Bs} {a : α} (h : k ≠ x) (l : List (Bs × α)) : got x (put k a l) = got x l := (got_ins_ne h _).trans (got_del_ne h l)
theorem got_put_self {x : Bs} {a : α} (l : List (Bs × α)) : got x (put x a l) = some a := got_ins_self (fun p hp => (mem_del.1 hp).2)
/-- A step that does not name x. -/
def Off (x : Bs) (s : Stp α) : Prop := s.nm ≠ x ∧ (s.k = 1 → s.to ≠ x)
theorem got_act {x : Bs} {z : α} {l : List (Bs × α)} {s : Stp α} (h : Off x s) : got x (actF z l s) = got x l := by
  unfold actF
  split
  · exact got_put_ne h.1 l
  · split
    · rename_i h1
      rw [got_put_ne (h.2 h1), got_del_ne h.1]
    · exact got_del_ne h.1 l
theorem got_plays {x : Bs} {z : α} : ∀ {T : List (Stp α)} {l : List (Bs × α)}, (∀ s ∈ T, Off x s) → got x (plays z l T) = got x l
  | [], _, _ => rfl
  | s :: T, l, h => by
    show got x (plays z (actF z l s) T) = _
    rw [got_plays (fun s hs => h s (List.mem_cons_of_mem _ hs)), got_act (h s List.mem_cons_self)]
end
theorem got_crash {x : Bs} {su : List (Bs × Bs)} {st : List (Stp Bs)} (h : ∀ s ∈ st, Off x s) (k q : Nat) : got x (crashF su st k q) = got x su := by
  have hp : got x (plays [] su (st.take k)) = got x su := got_plays (fun s hs => h s (List.mem_of_mem_take hs))
  unfold crashF
  split
  · rename_i s hs
    split
    · rw [got_put_ne (h s (List.mem_of_getElem? hs)).1, hp]
    · exact hp
  · exact hp
/-- The file x is made sure with bytes b, and no step since names it. -/
structure Safe (x b : Bs) (su no : List (Bs × Bs)) (st : List (Stp Bs)) : Prop where
  su : got x su = some b
  no : got x no = some b
  st : ∀ s ∈ st, Off x s
section
variable {x b : Bs} {su no : List (Bs × Bs)} {st : List (Stp Bs)}
theorem Safe.sync (h : Safe x b su no st) : Safe x b no no [] := ⟨h.no, h.no, fun s hs => by cases hs⟩
theorem Safe.act (h : Safe x b su no st) (s : Stp Bs) (ho : Off x s) : Safe x b su (noOf no st s) (stOf no st s) := by
  unfold noOf stOf
  split
  · refine ⟨h.su, (got_act ho).trans h.no, fun u hu => ?_⟩
    rcases List.mem_append.1 hu with hu | hu
    · exact h.st u hu
    · rw [List.mem_singleton.1 hu]; exact ho
  · exact h
theorem Safe.crash (h : Safe x b su no st) (k q : Nat) : Safe x b (crashF su st k q) (crashF su st k q) [] :=
  ⟨(got_crash h.st k q).trans h.su, (got_crash h.st k q).trans h.su, fun s hs => by cases hs⟩
theorem Safe.read (h : Safe x b su no st) (hx : named x = true) : readErr no x = 0 := by
  have : hasF x no = true := by rw [← got_has, h.no]; rfl
  simp [readErr, hx, this]
end
section
variable {B p : Nat} {F : Nat → Prop} {su no : List (Bs × Bs)} {st : List (Stp Bs)} {x sb : Bs}
/-- What an act on other files leaves. -/
def DoneS (B p : Nat) (F : Nat → Prop) (x sb : Bs) (w : World) (e : Ending) (w' : World) : Prop :=
  e = .returned (.tuple #[]) ∧ ∃ F' su' no' st', Turn F w F' w' ∧ Disk w' B p F' su' no' st' ∧ Safe x sb su' no' st'
set_option maxHeartbeats 4000000 in
set_option maxRecDepth 100000 in
theorem do3_safe (kind : Int) (nm to b : Bs) (steps part : Int) (w : World) (hd : Disk w B p F su no st) (hB : B ≤ w.heap.size) (hn : b.length ≤ 2 ^ 64) (hs : Safe x sb su no st) (h1 : nm ≠ x) (h2 : to ≠ x) :
    Calls Tryd.prog 23 #[.pointer (some ⟨p, 0, none⟩), .agg #[.int .i64 kind, .string (str nm), .string (str to), .string (str b), .int .i64 steps, .int .i64 part]] w (DoneS B p F x sb w) := by
  have hk := kOf_lt kind
  have hke := kOf_eq kind
  have ht : (IntKind.u64.wrap kind).tmod 6 = (kOf kind : Int) := by
    rw [Int.tmod_eq_emod_of_nonneg (u64_nonneg kind), hke]
  clear hke
  generalize kOf kind = k at hk ht
  have HD := Lib.hid (And.intro hd (And.intro hB (And.intro hn (And.intro hs (And.intro h1 h2)))))
  clear hd hB hn hs h1 h2
  have hw0 := (Below.refl w.heap.size w).alloc (Nat.le_refl _) (.cells #[.int .i64 kind, .string (str nm), .string (str to), .string (str b), .int .i64 steps, .int .i64 part] 30)
  have HW := Lib.hid hw0
  clear hw0
  rcases (show k = 2 ∨ k = 3 ∨ k = 4 ∨ (k = 0 ∨ k = 1 ∨ k = 5) by omega) with rfl | rfl | rfl | h3
  · go_enter Tryd.func23, Tryd.ntmps23
    go_wp2_with fail
    refine (rename_is nm to _ (HD.out.1.below HW.out) (Nat.le_trans HD.out.2.1 HW.out.size)).mono ?_
    rintro e w1 ⟨rfl, F', ht', hd'⟩
    have HX := Lib.hid (And.intro ht' hd')
    clear ht' hd'
    go_wp2_with fail
    go_end0
    exact ⟨rfl, F', _, _, _, (Turn.of_below F HW.out).trans HX.out.1, HX.out.2, HD.out.2.2.2.1.act _ ⟨HD.out.2.2.2.2.1, fun _ => HD.out.2.2.2.2.2⟩⟩
  · go_enter Tryd.func23, Tryd.ntmps23
    go_wp2_with fail
    refine (remove_is nm _ (HD.out.1.below HW.out) (Nat.le_trans HD.out.2.1 HW.out.size)).mono ?_
    rintro e w1 ⟨rfl, F', ht', hd'⟩
    have HX := Lib.hid (And.intro ht' hd')
    clear ht' hd'
    go_wp2_with fail
    go_end0
    exact ⟨rfl, F', _, _, _, (Turn.of_below F HW.out).trans HX.out.1, HX.out.2, HD.out.2.2.2.1.act _ ⟨HD.out.2.2.2.2.1, fun h => by cases h⟩⟩
  · go_enter Tryd.func23, Tryd.ntmps23
    go_wp2_with fail
    refine (sync_ok _ (HD.out.1.below HW.out) (Nat.le_trans HD.out.2.1 HW.out.size)).mono ?_
    rintro e w1 ⟨rfl, F', ht', hd'⟩
    have HX := Lib.hid (And.intro ht' hd')
    clear ht' hd'
    go_wp2_with fail
    go_end0
    exact ⟨rfl, F', _, _, _, (Turn.of_below F HW.out).trans HX.out.1, HX.out.2, HD.out.2.2.2.1.sync⟩
  · obtain ⟨h5, h6, h7⟩ := kind_facts h3
    obtain ⟨c, w2, hconv, hb2, hr2⟩ := bytes_of b (w.alloc (.cells #[.int .i64 kind, .string (str nm), .string (str to), .string (str b), .int .i64 steps, .int .i64 part] 30))
    obtain ⟨n, hn⟩ : ∃ n, b.length = n := ⟨_, rfl⟩
    rw [hn, World.size_alloc] at hconv
    rw [World.size_alloc] at hr2
    have H2 := Lib.hid (And.intro (HW.out.trans (hb2.mono HW.out.size)) (And.intro hr2 hn))
    clear hb2 hr2 hn h3
    go_enter Tryd.func23, Tryd.ntmps23
    go_wp2_with fail
    refine (write_is nm b _ n c _ (HD.out.1.below H2.out.1) (Nat.le_trans HD.out.2.1 H2.out.1.size) H2.out.2.2 (H2.out.2.2 ▸ HD.out.2.2.1) H2.out.2.1).mono ?_
    rintro e w3 ⟨rfl, F', ht', hd'⟩
    have HX := Lib.hid (And.intro ht' hd')
    clear ht' hd'
    go_wp2_with fail
    go_end0
    exact ⟨rfl, F', _, _, _, (Turn.of_below F H2.out.1).trans HX.out.1, HX.out.2, HD.out.2.2.2.1.act _ ⟨HD.out.2.2.2.2.1, fun h => by cases h⟩⟩
end
end Go.Proofs.YtljagggankmnkaaDoor

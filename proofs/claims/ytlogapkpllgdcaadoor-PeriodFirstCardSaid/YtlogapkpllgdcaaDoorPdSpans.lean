/- Contract: a day's seconds as spans. -/
import Derived.Test.YtlogapkpllgdcaaDoorPdNext
import Derived.Test.YtlogapkpllgdcaaDoorPdApp
import Derived.Test.YtlogapkpllgdcaaDoorPdCan
namespace Go.Proofs.YtlogapkpllgdcaaDoor
open Go.RowKit

/-- A value that holds the seconds of a day: none, or words. -/
def HSec (w : World) (v : Value) (f : Nat → Bool) : Prop :=
  (v = .slice none 0 0 ∧ ∀ j, j < 86400 → f j = false) ∨ ∃ b ws, v = .slice (some ⟨b, 0, none⟩) 1350 1350 ∧ w.heap[b]? = some (.cells (u64L ws).toArray 92 (0, 0)) ∧ Words ws ∧ ∀ j, j < 86400 → f j = bit ws j
theorem HSec.below {w w' : World} {v : Value} {f : Nat → Bool} (h : HSec w v f) (hb : Below w.heap.size w w') : HSec w' v f := by
  rcases h with h | ⟨b, ws, e, h1, h2, h3⟩
  · exact .inl h
  · exact .inr ⟨b, ws, e, (hb.block b (Array.getElem?_eq_some_iff.1 h1).1).trans h1, h2, h3⟩
set_option maxHeartbeats 400000 in
theorem next_nil (k : Nat) (there : Bool) (w : World) (hk : k ≤ 86400) :
    Calls Tryd.prog 16 #[.slice none 0 0, .int .i64 k, .bool there] w fun e w' => e = .returned (.int .i64 86400) ∧ w = w' := by
  go_enter Tryd.func16, Tryd.ntmps16
  go_wp2_with fail
  refine wp_loop_rounds 1 ?_
  rw [rounds_succ]
  go_wp2_with fail
  go_ret
  exact ⟨rfl, rfl⟩
/-- The next second that is there, of whatever seconds. -/
theorem next_sec (v : Value) (f : Nat → Bool) (k : Nat) (w : World) (hT : Tz w) (h : HSec w v f) (hk : k ≤ 86400) :
    Calls Tryd.prog 16 #[v, .int .i64 k, .bool true] w fun e w' => (∃ r : Nat, e = .returned (.int .i64 r) ∧ NextIs f true k r) ∧ w = w' := by
  rcases h with ⟨rfl, h⟩ | ⟨b, ws, rfl, h1, h2, h3⟩
  · exact (next_nil k true w hk).mono fun e w' ⟨he, hw⟩ => ⟨⟨86400, by rw [he]; rfl, hk, Nat.le_refl _, fun j _ h2 => h j h2, fun h => by omega⟩, hw⟩
  · refine (next_any b ws true k w hT h2 h1 hk).mono fun e w' ⟨⟨r, he, n1, n2, n3, n4⟩, hw⟩ => ⟨⟨r, he, n1, n2, fun j a b => ?_, fun a => ?_⟩, hw⟩
    · rw [h3 j (by omega)]; exact n3 j a b
    · rw [h3 r a]; exact n4 a
/-- What spans hands back. -/
def SpansOf (w : World) (f : Nat → Bool) (e : Ending) (w' : World) : Prop := ∃ v o, e = .returned v ∧ HSp w' v o ∧ Can (-1) o ∧ (∀ j, j < 86400 → f j = o.any fun s => inS s j) ∧ Below w.heap.size w w'
/-- What its loop keeps. -/
def SpansR (w : World) (f : Nat → Bool) (v : Value) (q : Nat) (W : World) : Prop :=
  ∃ (o : List Spn) (n : Nat), o.length = n ∧ n ≤ q ∧ Upq f o q ∧ (q < 86400 → f q = true) ∧ W.ownsRow w.heap.size 41 2 v n (o.flatMap spC) ∧ Below w.heap.size w W
set_option maxRecDepth 100000 in
set_option maxHeartbeats 2000000 in
theorem spans_words (b : Nat) (ws : List Nat) (w : World) (hT : Tz w) (hws : Words ws) (hb : w.heap[b]? = some (.cells (u64L ws).toArray 92 (0, 0))) :
    Calls Tryd.prog 19 #[.slice (some ⟨b, 0, none⟩) 1350 1350] w (SpansOf w (bit ws)) := by
  have hlt := (Array.getElem?_eq_some_iff.1 hb).1
  have HNX := Lib.hid (fun there k W (hW : Below w.heap.size w W) => next_any b ws there k W (hT.below hW) hws ((hW.block b hlt).trans hb))
  clear hT hws hb hlt
  go_enter Tryd.func19, Tryd.ntmps19
  go_wp2_with fail
  refine (HNX.out true 0 _ (Below.refl _ _) (by omega)).mono ?_
  rintro e w' ⟨⟨r0, rfl, hn0⟩, rfl⟩
  have HN0 := Lib.hid hn0
  clear hn0
  go_wp2_with fail
  go_loopw [3, 4] (fun v i wr => ∃ q : Nat, q ≤ 86400 ∧ i = .int .i64 q ∧ SpansR w (bit ws) v q wr) (fun _ i _ => 86400 - (intOf i).toNat)
  case atStart => exact ⟨r0, HN0.out.2.1, rfl, [], 0, rfl, Nat.zero_le _, Upq.start HN0.out.2.1 (fun j hj => HN0.out.2.2.1 j (Nat.zero_le _) hj), HN0.out.2.2.2, World.ownsRow_nil _ _ _ _, Below.refl _ _⟩
  case round =>
    obtain ⟨q, hq, rfl, o, n, hn, hnq, hup, hf, hown, hbw⟩ := hrel
    have HR := Lib.hid (And.intro hn (And.intro hup (And.intro hf (And.intro hown hbw))))
    clear hn hup hf hown hbw
    have HQ := Lib.hid hq
    clear hq
    by_cases hlt' : q < 86400
    · have hlt : (q : Int) < 86400 := by omega
      have HL := Lib.hid hlt'
      clear hlt'
      go_wp2_with fail
      refine (HNX.out false q _ HR.out.2.2.2.2 HQ.out).mono ?_
      rintro e w' ⟨⟨t, rfl, ht⟩, rfl⟩
      have HT1 := Lib.hid ht
      clear ht
      go_wp2_with
        (at_builtin
         refine wpList_appK rfl (.tmp 13) (.tmp 17) 37 rfl elS w.heap.size u3 n (o.flatMap spC) rfl (HR.out.2.2.2.1.alloc _) (some ⟨wr.heap.size, 0, none⟩) 1 1 (spC ⟨q, t⟩) rfl rfl (Rd.block (heap_alloc_new wr (.cells #[.int .i64 (q : Int), .int .i64 (t : Int)] 41))) (by intro u hu; simp only [spC, List.mem_cons, List.not_mem_nil, or_false] at hu; rcases hu with rfl | rfl <;> rfl) (by unfold maxLen; omega) (by omega) (by rw [World.size_alloc]; have := HR.out.2.2.2.2.size; omega) ?_)
      intro v' w' ho hg _
      have hbn : Below w.heap.size w w' := (HR.out.2.2.2.2.alloc HR.out.2.2.2.2.size _).grown hg (by rw [World.size_alloc]; have := HR.out.2.2.2.2.size; omega) (fun k hk => (HR.out.2.2.2.1.lt k hk).1)
      have HO := Lib.hid (And.intro ho hbn)
      clear ho hg hbn
      go_wp2_with fail
      refine (HNX.out true t _ HO.out.2 HT1.out.2.1).mono ?_
      rintro e w'' ⟨⟨r, rfl, hr⟩, rfl⟩
      have HR1 := Lib.hid hr
      clear hr
      go_wp2_with fail
      obtain ⟨a1, a2, a3, a4⟩ := HT1.out
      obtain ⟨b1, b2, b3, b4⟩ := HR1.out
      have hqt : q < t := by
        rcases Nat.lt_or_ge q t with h | h
        · exact h
        · have e : q = t := by omega
          have h1 := HR.out.2.2.1 HL.out
          rw [e, a4 (by omega)] at h1
          cases h1
      have HF := Lib.hid (show SpansR w (bit ws) v' r w' from ⟨o ++ [⟨q, t⟩], n + 1, by rw [List.length_append, HR.out.1]; rfl, by omega, HR.out.2.1.step HL.out (HR.out.2.2.1 HL.out) (by rcases HR.out.2.1.last with h | h; exact h; omega) a1 a2 (fun j x y => a3 j x y) a4 b1 b2 (fun j x y => b3 j x y) b4, b4, by rw [flat_snoc]; exact HO.out.1, HO.out.2⟩)
      have HB2 := Lib.hid b2
      have hqr : q < r := by omega
      clear a1 a2 a3 a4 b1 b2 b3 b4 hqt
      go_roundw
      case rel => exact ⟨r, HB2.out, rfl, HF.out⟩
      case measure => simp [intOf]; have := HL.out; omega
    · obtain rfl : q = 86400 := by have := HQ.out; omega
      clear hlt'
      go_wp2_with fail
      go_ret
      obtain ⟨A, c, e, h1, h2, h3, h4⟩ := ownsK_form HR.out.2.2.2.1
      exact ⟨_, o, rfl, by rw [show u3 = _ from e]; exact HSp.of_rd HR.out.1 h1 h2 h4, HR.out.2.1.can, HR.out.2.1.mem, HR.out.2.2.2.2⟩
/-- A day's seconds as spans, whatever they are. -/
theorem spans_any (v : Value) (f : Nat → Bool) (w : World) (hT : Tz w) (h : HSec w v f) : Calls Tryd.prog 19 #[v] w (SpansOf w f) := by
  rcases h with ⟨rfl, h⟩ | ⟨b, ws, rfl, h1, h2, h3⟩
  · have H : Hid (SpansOf w f (.returned (.slice none 0 0)) w) := ⟨_, [], rfl, ⟨none, 0, rfl, Nat.le_refl _, Nat.zero_le _, fun k hk => by cases hk⟩, trivial, fun j hj => by rw [h j hj]; rfl, Below.refl _ _⟩
    have HN := Lib.hid (next_nil 0 true w (by omega))
    clear h hT
    go_enter Tryd.func19, Tryd.ntmps19
    go_wp2_with fail
    refine HN.out.mono ?_
    rintro e w' ⟨rfl, rfl⟩
    go_wp2_with fail
    refine wp_loop_rounds 1 ?_
    rw [rounds_succ]
    go_wp2_with fail
    go_ret
    exact H.out
  · refine (spans_words b ws w hT h2 h1).mono fun e w' ⟨v, o, he, hs, hc, hm, hb⟩ => ⟨v, o, he, hs, hc, fun j hj => ?_, hb⟩
    rw [h3 j hj]; exact hm j hj
end Go.Proofs.YtlogapkpllgdcaaDoor

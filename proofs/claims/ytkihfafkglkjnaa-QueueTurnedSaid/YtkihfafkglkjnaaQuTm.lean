/- Plain: what law QueueTurned lays. -/
import Derived.Test.YtkihfafkglkjnaaQuRm
namespace Go.Proofs.Ytkihfafkglkjnaa

def evT (f : Nat → Nat) (j : Nat) : Ev := ((f j : Int), ((j % 7 : Nat) : Int), (j : Int))
structure TrI (f : Nat → Nat) (S : Nat → Prop) (c : Nat) (L : List Ev) : Prop where
  len : L.length = c
  mem : ∀ x, x ∈ L ↔ ∃ j, S j ∧ x = evT f j
  srt : SrE L
theorem TrI.nil {f : Nat → Nat} {S : Nat → Prop} (h : ∀ j, ¬ S j) : TrI f S 0 [] := ⟨rfl, fun x => ⟨fun hx => absurd hx List.not_mem_nil, fun ⟨j, hj, _⟩ => absurd hj (h j)⟩, SrE.nil⟩
theorem TrI.add {f : Nat → Nat} {S S' : Nat → Prop} {c n j : Nat} {L : List Ev} (h : TrI f S c L) (hj : ¬ S j) (hc : c < n) (hf : f j < 50) (hS : ∀ k, S' k ↔ S k ∨ k = j) : stE L n (evT f j) = (insE (evT f j) L, 0) ∧ TrI f S' (c + 1) (insE (evT f j) L) := by
  have hno : ∀ x ∈ L, x.2 ≠ (((j % 7 : Nat) : Int), (j : Int)) := fun x hx e => by
    obtain ⟨k, hk, ek⟩ := (h.mem x).1 hx
    rw [ek] at e
    unfold evT at e
    injection e with _ e
    have : k = j := by omega
    rw [this] at hk
    exact hj hk
  refine ⟨stE_ok (bad_no (by omega) (by omega) (by omega) (by omega)) (fdE_neg hno) (by rw [h.len]; omega), by rw [insE_len, h.len], fun x => ?_, h.srt.ins hno⟩
  rw [insE_mem, h.mem]
  constructor
  · rintro (rfl | ⟨k, hk, e⟩)
    · exact ⟨j, (hS j).2 (.inr rfl), rfl⟩
    · exact ⟨k, (hS k).2 (.inl hk), e⟩
  · rintro ⟨k, hk, e⟩
    rcases (hS k).1 hk with hk | rfl
    · exact .inr ⟨k, hk, e⟩
    · exact .inl e
theorem TrI.one {f : Nat → Nat} {S S' : Nat → Prop} {c c' : Nat} {L M : List Ev} (h : TrI f S c L) (h' : TrI f S' c' M) (hS : ∀ k, S k ↔ S' k) : L = M :=
  h.srt.one h'.srt fun x => by
    rw [h.mem, h'.mem]
    exact ⟨fun ⟨j, hj, e⟩ => ⟨j, (hS j).1 hj, e⟩, fun ⟨j, hj, e⟩ => ⟨j, (hS j).2 hj, e⟩⟩
end Go.Proofs.Ytkihfafkglkjnaa

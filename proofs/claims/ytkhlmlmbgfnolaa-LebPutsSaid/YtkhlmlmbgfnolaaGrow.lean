/- For drawn regions whose calls make slices that the same region reads: the condition S of go_region_held3 is made stronger behind a call, from inside its arm. -/
import Derived.Test.YtkhlmlmbgfnolaaBase
import Derived.Deep.RegionHeld3
namespace Go.Proofs.Ytkhlmlmbgfnolaa
open Go.RowKit

theorem wpAnyH_more {P : Program} {md : Region.Mode} {ops : Array Oper} {Q : Exit → Act → World → Prop} {S S' : World → Prop} (hs : ∀ w, S' w → S w) :
    ∀ (fuel : Nat) (listed : Array Bool) (a : Act) (w : World), wpAnyH P md ops Q S' fuel listed a w → wpAnyH P md ops Q S fuel listed a w
  | 0, _, _, _, h => h
  | fuel + 1, _, _, _, h => ⟨h.1, fun i hi => wpOp_mono (fun a' w' h' => ⟨hs w' h'.1, wpAnyH_more hs fuel _ a' w' h'.2⟩) (h.2 i hi)⟩
/-- The way back into the region, and the same under a stronger condition. -/
theorem shut_grow {P : Program} {md : Region.Mode} {ops : Array Oper} {Q : Exit → Act → World → Prop} {S : World → Prop} {fuel : Nat} {listed : Array Bool} {K : Act → World → Prop} (S' : World → Prop)
    (h : Shut (∀ a w, S w → (S w → wpAnyH P md ops Q S fuel listed a w) → K a w)) (hs : ∀ w, S' w → S w) :
    ∃ K2 : Act → World → Prop, (Shut (∀ a w, S w → (S w → wpAnyH P md ops Q S fuel listed a w) → K a w) = Shut (∀ a w, S' w → (S' w → wpAnyH P md ops Q S' fuel listed a w) → K2 a w)) ∧ ∀ a w, K2 a w → K a w := by
  have hq : Shut (∀ a w, S' w → (S' w → wpAnyH P md ops Q S' fuel listed a w) → S' w ∧ wpAnyH P md ops Q S' fuel listed a w) := fun a w hS hW => ⟨hS, hW hS⟩
  exact ⟨fun a w => S' w ∧ wpAnyH P md ops Q S' fuel listed a w, propext ⟨fun _ => hq, fun _ => h⟩, fun a w hK => h.out a w (hs w hK.1) fun _ => wpAnyH_more hs _ _ _ _ hK.2⟩
end Go.Proofs.Ytkhlmlmbgfnolaa

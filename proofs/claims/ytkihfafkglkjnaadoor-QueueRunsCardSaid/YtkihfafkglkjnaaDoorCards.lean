/-
  DERIVED. GIVEN WITH THE SEED: THE CARDS: each row of YtkihfafkglkjnaaDoorRows.lean that lists a variable, with what it lists TIED to the program's text (the seventh form; the later family's looks); each row that meets fmt, with fmt's text TOLD by the authors' own Lean function (tested against real Go, not proved from fmt's source: count such statements apart). THE CARD IS WHAT COUNTS. Prove the row's statement (the work); the ties are given (YtkihfafkglkjnaaDoorTie.lean); close each card by the builder's one call (the guide's Derived/Test/ToyasCard.lean, 'card_holds'). Laid BY PROGRAM, IN A SANDBOX (cutbox-door.mjs). By AI agents, Wed Nov 11 2026. No macro, syntax, notation, axiom, sorry.
-/
import Derived.Test.YtkihfafkglkjnaaDoorRows
import GoSem.ClaimSeven
namespace Go.Proofs.YtkihfafkglkjnaaDoor
namespace Rows

/-- THE TIED CARD OF 'belvederelaw15.QueueRuns'. -/
def queueRunsCard : Claim7 := { stood := { row := queueRunsRow, standIns := [], harness := (true, "d5610476f049892b2e943a88e15e7d4f7fa935c4e62a7c7d2853ac3e3aecc079"), looks := true }, kinds := [], alts := [], laidByText := true, laidKinds := [.handle], laidTests := true, laidLooks := .later }
def QueueRunsCardSaid : Prop := Claim7.holds Tryd.pinned (.plain (OpenSpec.ofChange queueRunsSpec)) queueRunsCard

/-- THE TIED CARD OF 'belvederelaw15.QueueNew'. -/
def queueNewCard : Claim7 := { stood := { row := queueNewRow, standIns := [], harness := (true, "d5610476f049892b2e943a88e15e7d4f7fa935c4e62a7c7d2853ac3e3aecc079"), looks := true }, kinds := [], alts := [], laidByText := true, laidKinds := [.handle], laidTests := true, laidLooks := .later }
def QueueNewCardSaid : Prop := Claim7.holds Tryd.pinned (.plain (OpenSpec.ofChange queueNewSpec)) queueNewCard

/-- THE TIED CARD OF 'belvederelaw15.QueueRoom'. -/
def queueRoomCard : Claim7 := { stood := { row := queueRoomRow, standIns := [], harness := (true, "d5610476f049892b2e943a88e15e7d4f7fa935c4e62a7c7d2853ac3e3aecc079"), looks := true }, kinds := [], alts := [], laidByText := true, laidKinds := [.handle], laidTests := true, laidLooks := .later }
def QueueRoomCardSaid : Prop := Claim7.holds Tryd.pinned (.plain (OpenSpec.ofChange queueRoomSpec)) queueRoomCard

/-- THE SECOND FORM's CARD OF 'belvederelaw15.QueueRuns'. -/
def queueRunsUptoCard : Claim7 := { stood := { row := queueRunsUptoRow, standIns := [], harness := (true, "d5610476f049892b2e943a88e15e7d4f7fa935c4e62a7c7d2853ac3e3aecc079"), looks := true }, kinds := [], alts := [], laidByText := true, laidKinds := [.handle], laidTests := true, laidLooks := .later }
def QueueRunsUptoCardSaid : Prop := Claim7.holds Tryd.pinned (.plain (OpenSpec.upto queueRunsSpec)) queueRunsUptoCard

/-- THE SECOND FORM's CARD OF 'belvederelaw15.QueueNew'. -/
def queueNewUptoCard : Claim7 := { stood := { row := queueNewUptoRow, standIns := [], harness := (true, "d5610476f049892b2e943a88e15e7d4f7fa935c4e62a7c7d2853ac3e3aecc079"), looks := true }, kinds := [], alts := [], laidByText := true, laidKinds := [.handle], laidTests := true, laidLooks := .later }
def QueueNewUptoCardSaid : Prop := Claim7.holds Tryd.pinned (.plain (OpenSpec.upto queueNewSpec)) queueNewUptoCard

/-- THE SECOND FORM's CARD OF 'belvederelaw15.QueueRoom'. -/
def queueRoomUptoCard : Claim7 := { stood := { row := queueRoomUptoRow, standIns := [], harness := (true, "d5610476f049892b2e943a88e15e7d4f7fa935c4e62a7c7d2853ac3e3aecc079"), looks := true }, kinds := [], alts := [], laidByText := true, laidKinds := [.handle], laidTests := true, laidLooks := .later }
def QueueRoomUptoCardSaid : Prop := Claim7.holds Tryd.pinned (.plain (OpenSpec.upto queueRoomSpec)) queueRoomUptoCard
end Rows
end Go.Proofs.YtkihfafkglkjnaaDoor

/-
  DERIVED. GIVEN WITH THE SEED: THE CARDS: each row of YtkfnbapnkmlopaaDoorRows.lean that lists a variable, with what it lists TIED to the program's text (the seventh form; the later family's looks); each row that meets fmt, with fmt's text TOLD by the authors' own Lean function (tested against real Go, not proved from fmt's source: count such statements apart). THE CARD IS WHAT COUNTS. Prove the row's statement (the work); the ties are given (YtkfnbapnkmlopaaDoorTie.lean); close each card by the builder's one call (the guide's Derived/Test/ToyasCard.lean, 'card_holds'). Laid BY PROGRAM, IN A SANDBOX (cutbox-door.mjs). By AI agents, Wed Nov 11 2026. No macro, syntax, notation, axiom, sorry.
-/
import Derived.Test.YtkfnbapnkmlopaaDoorRows
import GoSem.ClaimSeven
namespace Go.Proofs.YtkfnbapnkmlopaaDoor
namespace Rows

/-- THE TIED CARD OF 'belvederelaw13.GroupExpands'. -/
def groupExpandsCard : Claim7 := { stood := { row := groupExpandsRow, standIns := [], harness := (true, "de6cfd9c0874ceac9cd68bf9c9ae4ba54db9291af05688579c7cb8181c22331a"), looks := true }, kinds := [], alts := [], laidByText := true, laidKinds := [.data, .handle], laidTests := true, laidLooks := .later }
def GroupExpandsCardSaid : Prop := Claim7.holds Tryd.pinned (.plain (OpenSpec.ofChange groupExpandsSpec)) groupExpandsCard

/-- THE TIED CARD OF 'belvederelaw13.GroupFull'. -/
def groupFullCard : Claim7 := { stood := { row := groupFullRow, standIns := [], harness := (true, "de6cfd9c0874ceac9cd68bf9c9ae4ba54db9291af05688579c7cb8181c22331a"), looks := true }, kinds := [], alts := [], laidByText := true, laidKinds := [.data, .handle], laidTests := true, laidLooks := .later }
def GroupFullCardSaid : Prop := Claim7.holds Tryd.pinned (.plain (OpenSpec.ofChange groupFullSpec)) groupFullCard

/-- THE TIED CARD OF 'belvederelaw13.GroupSame'. -/
def groupSameCard : Claim7 := { stood := { row := groupSameRow, standIns := [], harness := (true, "de6cfd9c0874ceac9cd68bf9c9ae4ba54db9291af05688579c7cb8181c22331a"), looks := true }, kinds := [], alts := [], laidByText := true, laidKinds := [.data], laidTests := true, laidLooks := .later }
def GroupSameCardSaid : Prop := Claim7.holds Tryd.pinned (.plain (OpenSpec.ofChange groupSameSpec)) groupSameCard

/-- THE TIED CARD OF 'belvederelaw13.GroupAlone'. -/
def groupAloneCard : Claim7 := { stood := { row := groupAloneRow, standIns := [], harness := (true, "de6cfd9c0874ceac9cd68bf9c9ae4ba54db9291af05688579c7cb8181c22331a"), looks := true }, kinds := [], alts := [], laidByText := true, laidKinds := [.data], laidTests := true, laidLooks := .later }
def GroupAloneCardSaid : Prop := Claim7.holds Tryd.pinned (.plain (OpenSpec.ofChange groupAloneSpec)) groupAloneCard

/-- THE SECOND FORM's CARD OF 'belvederelaw13.GroupExpands'. -/
def groupExpandsUptoCard : Claim7 := { stood := { row := groupExpandsUptoRow, standIns := [], harness := (true, "de6cfd9c0874ceac9cd68bf9c9ae4ba54db9291af05688579c7cb8181c22331a"), looks := true }, kinds := [], alts := [], laidByText := true, laidKinds := [.data, .handle], laidTests := true, laidLooks := .later }
def GroupExpandsUptoCardSaid : Prop := Claim7.holds Tryd.pinned (.plain (OpenSpec.upto groupExpandsSpec)) groupExpandsUptoCard

/-- THE SECOND FORM's CARD OF 'belvederelaw13.GroupFull'. -/
def groupFullUptoCard : Claim7 := { stood := { row := groupFullUptoRow, standIns := [], harness := (true, "de6cfd9c0874ceac9cd68bf9c9ae4ba54db9291af05688579c7cb8181c22331a"), looks := true }, kinds := [], alts := [], laidByText := true, laidKinds := [.data, .handle], laidTests := true, laidLooks := .later }
def GroupFullUptoCardSaid : Prop := Claim7.holds Tryd.pinned (.plain (OpenSpec.upto groupFullSpec)) groupFullUptoCard

/-- THE SECOND FORM's CARD OF 'belvederelaw13.GroupSame'. -/
def groupSameUptoCard : Claim7 := { stood := { row := groupSameUptoRow, standIns := [], harness := (true, "de6cfd9c0874ceac9cd68bf9c9ae4ba54db9291af05688579c7cb8181c22331a"), looks := true }, kinds := [], alts := [], laidByText := true, laidKinds := [.data], laidTests := true, laidLooks := .later }
def GroupSameUptoCardSaid : Prop := Claim7.holds Tryd.pinned (.plain (OpenSpec.upto groupSameSpec)) groupSameUptoCard

/-- THE SECOND FORM's CARD OF 'belvederelaw13.GroupAlone'. -/
def groupAloneUptoCard : Claim7 := { stood := { row := groupAloneUptoRow, standIns := [], harness := (true, "de6cfd9c0874ceac9cd68bf9c9ae4ba54db9291af05688579c7cb8181c22331a"), looks := true }, kinds := [], alts := [], laidByText := true, laidKinds := [.data], laidTests := true, laidLooks := .later }
def GroupAloneUptoCardSaid : Prop := Claim7.holds Tryd.pinned (.plain (OpenSpec.upto groupAloneSpec)) groupAloneUptoCard
end Rows
end Go.Proofs.YtkfnbapnkmlopaaDoor

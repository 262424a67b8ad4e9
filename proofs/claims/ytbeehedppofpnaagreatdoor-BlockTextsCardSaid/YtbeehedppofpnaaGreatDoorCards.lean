/-
  DERIVED. GIVEN WITH THE SEED: THE CARDS: each row of YtbeehedppofpnaaGreatDoorRows.lean that lists a variable, with what it lists TIED to the program's text (the seventh form; the later family's looks); each row that meets fmt, with fmt's text TOLD by the authors' own Lean function (tested against real Go, not proved from fmt's source: count such statements apart). THE CARD IS WHAT COUNTS. Prove the row's statement (the work); the ties are given (YtbeehedppofpnaaGreatDoorTie.lean); close each card by the builder's one call (the guide's Derived/Test/ToyasCard.lean, 'card_holds'). Laid BY PROGRAM, IN A SANDBOX (cutbox-door.mjs). By AI agents, Wed Nov 11 2026. No macro, syntax, notation, axiom, sorry.
-/
import Derived.Test.YtbeehedppofpnaaGreatDoorRows
import GoSem.ClaimSeven
namespace Go.Proofs.YtbeehedppofpnaaGreatDoor
namespace Rows

/-- THE TIED CARD OF 'belvederelaw09.BlockParses'. -/
def blockParsesCard : Claim7 := { stood := { row := blockParsesRow, standIns := [], harness := (true, "5feead2ec4d44da398c29c88759829f57061fb0817f88e34fdb465252cd3d64d"), looks := true }, kinds := [], alts := [], laidByText := true, laidKinds := [.data, .handle, .pinned], laidTests := true, laidLooks := .later }
def BlockParsesCardSaid : Prop := Claim7.holds Tryz.pinned (.plain (OpenSpec.ofChange blockParsesSpec)) blockParsesCard

/-- THE TIED CARD OF 'belvederelaw09.BlockTexts'. -/
def blockTextsCard : Claim7 := { stood := { row := blockTextsRow, standIns := [], harness := (true, "5feead2ec4d44da398c29c88759829f57061fb0817f88e34fdb465252cd3d64d"), looks := true }, kinds := [], alts := [], laidByText := true, laidKinds := [.data, .handle, .pinned], laidTests := true, laidLooks := .later }
def BlockTextsCardSaid : Prop := Claim7.holds Tryz.pinned (.plain (OpenSpec.ofChange blockTextsSpec)) blockTextsCard

/-- THE TIED CARD OF 'belvederelaw09.BlockBack'. -/
def blockBackCard : Claim7 := { stood := { row := blockBackRow, standIns := [], harness := (true, "5feead2ec4d44da398c29c88759829f57061fb0817f88e34fdb465252cd3d64d"), looks := true }, kinds := [], alts := [], laidByText := true, laidKinds := [.data, .handle, .pinned], laidTests := true, laidLooks := .later }
def BlockBackCardSaid : Prop := Claim7.holds Tryz.pinned (.plain (OpenSpec.ofChange blockBackSpec)) blockBackCard

/-- THE SECOND FORM's CARD OF 'belvederelaw09.BlockParses'. -/
def blockParsesUptoCard : Claim7 := { stood := { row := blockParsesUptoRow, standIns := [], harness := (true, "5feead2ec4d44da398c29c88759829f57061fb0817f88e34fdb465252cd3d64d"), looks := true }, kinds := [], alts := [], laidByText := true, laidKinds := [.data, .handle, .pinned], laidTests := true, laidLooks := .later }
def BlockParsesUptoCardSaid : Prop := Claim7.holds Tryz.pinned (.plain (OpenSpec.upto blockParsesSpec)) blockParsesUptoCard

/-- THE SECOND FORM's CARD OF 'belvederelaw09.BlockTexts'. -/
def blockTextsUptoCard : Claim7 := { stood := { row := blockTextsUptoRow, standIns := [], harness := (true, "5feead2ec4d44da398c29c88759829f57061fb0817f88e34fdb465252cd3d64d"), looks := true }, kinds := [], alts := [], laidByText := true, laidKinds := [.data, .handle, .pinned], laidTests := true, laidLooks := .later }
def BlockTextsUptoCardSaid : Prop := Claim7.holds Tryz.pinned (.plain (OpenSpec.upto blockTextsSpec)) blockTextsUptoCard

/-- THE SECOND FORM's CARD OF 'belvederelaw09.BlockBack'. -/
def blockBackUptoCard : Claim7 := { stood := { row := blockBackUptoRow, standIns := [], harness := (true, "5feead2ec4d44da398c29c88759829f57061fb0817f88e34fdb465252cd3d64d"), looks := true }, kinds := [], alts := [], laidByText := true, laidKinds := [.data, .handle, .pinned], laidTests := true, laidLooks := .later }
def BlockBackUptoCardSaid : Prop := Claim7.holds Tryz.pinned (.plain (OpenSpec.upto blockBackSpec)) blockBackUptoCard
end Rows
end Go.Proofs.YtbeehedppofpnaaGreatDoor

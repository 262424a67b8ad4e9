/-
  DERIVED. GIVEN WITH THE SEED: THE CARDS: each row of YthnogakjaaopkaaGreatDoorRows.lean that lists a variable, with what it lists TIED to the program's text (the seventh form; the later family's looks); each row that meets fmt, with fmt's text TOLD by the authors' own Lean function (tested against real Go, not proved from fmt's source: count such statements apart). THE CARD IS WHAT COUNTS. Prove the row's statement (the work); the ties are given (YthnogakjaaopkaaGreatDoorTie.lean); close each card by the builder's one call (the guide's Derived/Test/ToyasCard.lean, 'card_holds'). Laid BY PROGRAM, IN A SANDBOX (cutbox-door.mjs). By AI agents, Wed Nov 11 2026. No macro, syntax, notation, axiom, sorry.
-/
import Derived.Test.YthnogakjaaopkaaGreatDoorRows
import GoSem.ClaimSeven
namespace Go.Proofs.YthnogakjaaopkaaGreatDoor
namespace Rows

/-- THE TIED CARD OF 'belvederelaw11.InheritResolves'. -/
def inheritResolvesCard : Claim7 := { stood := { row := inheritResolvesRow, standIns := [], harness := (true, "6f4e5b7daba145653123f5e585f29c998659b58ddc023ee44c5bbd08a2b84ffa"), looks := true }, kinds := [], alts := [], laidByText := true, laidKinds := [.data, .handle, .pinned], laidTests := true, laidLooks := .later }
def InheritResolvesCardSaid : Prop := Claim7.holds Tryz.pinned (.plain (OpenSpec.ofChange inheritResolvesSpec)) inheritResolvesCard

/-- THE TIED CARD OF 'belvederelaw11.InheritValues'. -/
def inheritValuesCard : Claim7 := { stood := { row := inheritValuesRow, standIns := [], harness := (true, "6f4e5b7daba145653123f5e585f29c998659b58ddc023ee44c5bbd08a2b84ffa"), looks := true }, kinds := [], alts := [], laidByText := true, laidKinds := [.data, .handle, .pinned], laidTests := true, laidLooks := .later }
def InheritValuesCardSaid : Prop := Claim7.holds Tryz.pinned (.plain (OpenSpec.ofChange inheritValuesSpec)) inheritValuesCard

/-- THE TIED CARD OF 'belvederelaw11.InheritLong'. -/
def inheritLongCard : Claim7 := { stood := { row := inheritLongRow, standIns := [], harness := (true, "6f4e5b7daba145653123f5e585f29c998659b58ddc023ee44c5bbd08a2b84ffa"), looks := true }, kinds := [], alts := [], laidByText := true, laidKinds := [.data, .handle, .pinned], laidTests := true, laidLooks := .later }
def InheritLongCardSaid : Prop := Claim7.holds Tryz.pinned (.plain (OpenSpec.ofChange inheritLongSpec)) inheritLongCard

/-- THE TIED CARD OF 'belvederelaw11.InheritTwice'. -/
def inheritTwiceCard : Claim7 := { stood := { row := inheritTwiceRow, standIns := [], harness := (true, "6f4e5b7daba145653123f5e585f29c998659b58ddc023ee44c5bbd08a2b84ffa"), looks := true }, kinds := [], alts := [], laidByText := true, laidKinds := [.data, .handle, .pinned], laidTests := true, laidLooks := .later }
def InheritTwiceCardSaid : Prop := Claim7.holds Tryz.pinned (.plain (OpenSpec.ofChange inheritTwiceSpec)) inheritTwiceCard

/-- THE TIED CARD OF 'belvederelaw11.InheritOwn'. -/
def inheritOwnCard : Claim7 := { stood := { row := inheritOwnRow, standIns := [], harness := (true, "6f4e5b7daba145653123f5e585f29c998659b58ddc023ee44c5bbd08a2b84ffa"), looks := true }, kinds := [], alts := [], laidByText := true, laidKinds := [.data, .handle, .pinned], laidTests := true, laidLooks := .later }
def InheritOwnCardSaid : Prop := Claim7.holds Tryz.pinned (.plain (OpenSpec.ofChange inheritOwnSpec)) inheritOwnCard

/-- THE SECOND FORM's CARD OF 'belvederelaw11.InheritResolves'. -/
def inheritResolvesUptoCard : Claim7 := { stood := { row := inheritResolvesUptoRow, standIns := [], harness := (true, "6f4e5b7daba145653123f5e585f29c998659b58ddc023ee44c5bbd08a2b84ffa"), looks := true }, kinds := [], alts := [], laidByText := true, laidKinds := [.data, .handle, .pinned], laidTests := true, laidLooks := .later }
def InheritResolvesUptoCardSaid : Prop := Claim7.holds Tryz.pinned (.plain (OpenSpec.upto inheritResolvesSpec)) inheritResolvesUptoCard

/-- THE SECOND FORM's CARD OF 'belvederelaw11.InheritValues'. -/
def inheritValuesUptoCard : Claim7 := { stood := { row := inheritValuesUptoRow, standIns := [], harness := (true, "6f4e5b7daba145653123f5e585f29c998659b58ddc023ee44c5bbd08a2b84ffa"), looks := true }, kinds := [], alts := [], laidByText := true, laidKinds := [.data, .handle, .pinned], laidTests := true, laidLooks := .later }
def InheritValuesUptoCardSaid : Prop := Claim7.holds Tryz.pinned (.plain (OpenSpec.upto inheritValuesSpec)) inheritValuesUptoCard

/-- THE SECOND FORM's CARD OF 'belvederelaw11.InheritLong'. -/
def inheritLongUptoCard : Claim7 := { stood := { row := inheritLongUptoRow, standIns := [], harness := (true, "6f4e5b7daba145653123f5e585f29c998659b58ddc023ee44c5bbd08a2b84ffa"), looks := true }, kinds := [], alts := [], laidByText := true, laidKinds := [.data, .handle, .pinned], laidTests := true, laidLooks := .later }
def InheritLongUptoCardSaid : Prop := Claim7.holds Tryz.pinned (.plain (OpenSpec.upto inheritLongSpec)) inheritLongUptoCard

/-- THE SECOND FORM's CARD OF 'belvederelaw11.InheritTwice'. -/
def inheritTwiceUptoCard : Claim7 := { stood := { row := inheritTwiceUptoRow, standIns := [], harness := (true, "6f4e5b7daba145653123f5e585f29c998659b58ddc023ee44c5bbd08a2b84ffa"), looks := true }, kinds := [], alts := [], laidByText := true, laidKinds := [.data, .handle, .pinned], laidTests := true, laidLooks := .later }
def InheritTwiceUptoCardSaid : Prop := Claim7.holds Tryz.pinned (.plain (OpenSpec.upto inheritTwiceSpec)) inheritTwiceUptoCard

/-- THE SECOND FORM's CARD OF 'belvederelaw11.InheritOwn'. -/
def inheritOwnUptoCard : Claim7 := { stood := { row := inheritOwnUptoRow, standIns := [], harness := (true, "6f4e5b7daba145653123f5e585f29c998659b58ddc023ee44c5bbd08a2b84ffa"), looks := true }, kinds := [], alts := [], laidByText := true, laidKinds := [.data, .handle, .pinned], laidTests := true, laidLooks := .later }
def InheritOwnUptoCardSaid : Prop := Claim7.holds Tryz.pinned (.plain (OpenSpec.upto inheritOwnSpec)) inheritOwnUptoCard
end Rows
end Go.Proofs.YthnogakjaaopkaaGreatDoor

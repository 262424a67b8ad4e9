/-
  DERIVED. GIVEN WITH THE SEED: THE CARDS: each row of YtlogapkpllgdcaaDoorRows.lean that lists a variable, with what it lists TIED to the program's text (the seventh form; the later family's looks); each row that meets fmt, with fmt's text TOLD by the authors' own Lean function (tested against real Go, not proved from fmt's source: count such statements apart). THE CARD IS WHAT COUNTS. Prove the row's statement (the work); the ties are given (YtlogapkpllgdcaaDoorTie.lean); close each card by the builder's one call (the guide's Derived/Test/ToyasCard.lean, 'card_holds'). Laid BY PROGRAM, IN A SANDBOX (cutbox-door.mjs). By AI agents, Wed Nov 11 2026. No macro, syntax, notation, axiom, sorry.
-/
import Derived.Test.YtlogapkpllgdcaaDoorRows
import GoSem.ClaimSeven
namespace Go.Proofs.YtlogapkpllgdcaaDoor
namespace Rows

/-- THE TIED CARD OF 'belvederelaw07.PeriodFirst'. -/
def periodFirstCard : Claim7 := { stood := { row := periodFirstRow, standIns := [], harness := (true, "9ecd156dbf40bfe54db5d44d39a8a664d5908a849875d8998d353d6334b34c69"), looks := false }, kinds := [], alts := [], laidByText := true, laidKinds := [.data, .data], laidTests := true, laidLooks := .later }
def PeriodFirstCardSaid : Prop := Claim7.holds Tryd.pinned (.plain (OpenSpec.ofChange periodFirstSpec)) periodFirstCard

/-- THE TIED CARD OF 'belvederelaw07.PeriodSeconds'. -/
def periodSecondsCard : Claim7 := { stood := { row := periodSecondsRow, standIns := [], harness := (true, "9ecd156dbf40bfe54db5d44d39a8a664d5908a849875d8998d353d6334b34c69"), looks := false }, kinds := [], alts := [], laidByText := true, laidKinds := [.data, .data], laidTests := true, laidLooks := .later }
def PeriodSecondsCardSaid : Prop := Claim7.holds Tryd.pinned (.plain (OpenSpec.ofChange periodSecondsSpec)) periodSecondsCard

/-- THE TIED CARD OF 'belvederelaw07.PeriodLess'. -/
def periodLessCard : Claim7 := { stood := { row := periodLessRow, standIns := [], harness := (true, "9ecd156dbf40bfe54db5d44d39a8a664d5908a849875d8998d353d6334b34c69"), looks := false }, kinds := [], alts := [], laidByText := true, laidKinds := [.data, .data], laidTests := true, laidLooks := .later }
def PeriodLessCardSaid : Prop := Claim7.holds Tryd.pinned (.plain (OpenSpec.ofChange periodLessSpec)) periodLessCard

/-- THE SECOND FORM's CARD OF 'belvederelaw07.PeriodFirst'. -/
def periodFirstUptoCard : Claim7 := { stood := { row := periodFirstUptoRow, standIns := [], harness := (true, "9ecd156dbf40bfe54db5d44d39a8a664d5908a849875d8998d353d6334b34c69"), looks := false }, kinds := [], alts := [], laidByText := true, laidKinds := [.data, .data], laidTests := true, laidLooks := .later }
def PeriodFirstUptoCardSaid : Prop := Claim7.holds Tryd.pinned (.plain (OpenSpec.upto periodFirstSpec)) periodFirstUptoCard

/-- THE SECOND FORM's CARD OF 'belvederelaw07.PeriodSeconds'. -/
def periodSecondsUptoCard : Claim7 := { stood := { row := periodSecondsUptoRow, standIns := [], harness := (true, "9ecd156dbf40bfe54db5d44d39a8a664d5908a849875d8998d353d6334b34c69"), looks := false }, kinds := [], alts := [], laidByText := true, laidKinds := [.data, .data], laidTests := true, laidLooks := .later }
def PeriodSecondsUptoCardSaid : Prop := Claim7.holds Tryd.pinned (.plain (OpenSpec.upto periodSecondsSpec)) periodSecondsUptoCard

/-- THE SECOND FORM's CARD OF 'belvederelaw07.PeriodLess'. -/
def periodLessUptoCard : Claim7 := { stood := { row := periodLessUptoRow, standIns := [], harness := (true, "9ecd156dbf40bfe54db5d44d39a8a664d5908a849875d8998d353d6334b34c69"), looks := false }, kinds := [], alts := [], laidByText := true, laidKinds := [.data, .data], laidTests := true, laidLooks := .later }
def PeriodLessUptoCardSaid : Prop := Claim7.holds Tryd.pinned (.plain (OpenSpec.upto periodLessSpec)) periodLessUptoCard
end Rows
end Go.Proofs.YtlogapkpllgdcaaDoor

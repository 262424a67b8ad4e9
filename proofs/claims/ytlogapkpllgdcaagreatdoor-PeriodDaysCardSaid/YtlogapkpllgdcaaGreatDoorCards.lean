/-
  DERIVED. GIVEN WITH THE SEED: THE CARDS: each row of YtlogapkpllgdcaaGreatDoorRows.lean that lists a variable, with what it lists TIED to the program's text (the seventh form; the later family's looks); each row that meets fmt, with fmt's text TOLD by the authors' own Lean function (tested against real Go, not proved from fmt's source: count such statements apart). THE CARD IS WHAT COUNTS. Prove the row's statement (the work); the ties are given (YtlogapkpllgdcaaGreatDoorTie.lean); close each card by the builder's one call (the guide's Derived/Test/ToyasCard.lean, 'card_holds'). Laid BY PROGRAM, IN A SANDBOX (cutbox-door.mjs). By AI agents, Wed Nov 11 2026. No macro, syntax, notation, axiom, sorry.
-/
import Derived.Test.YtlogapkpllgdcaaGreatDoorRows
import GoSem.ClaimSeven
namespace Go.Proofs.YtlogapkpllgdcaaGreatDoor
namespace Rows

/-- THE TIED CARD OF 'belvederelaw07.PeriodChecks'. -/
def periodChecksCard : Claim7 := { stood := { row := periodChecksRow, standIns := [], harness := (true, "fd6d722d29db76384b47b1a40ba9bed0465b5ca3fc03d97fac8296911ef070ca"), looks := true }, kinds := [], alts := [], laidByText := true, laidKinds := [.data, .handle, .data], laidTests := true, laidLooks := .later }
def PeriodChecksCardSaid : Prop := Claim7.holds Tryz.pinned (.plain (OpenSpec.ofChange periodChecksSpec)) periodChecksCard

/-- THE TIED CARD OF 'belvederelaw07.PeriodNexts'. -/
def periodNextsCard : Claim7 := { stood := { row := periodNextsRow, standIns := [], harness := (true, "fd6d722d29db76384b47b1a40ba9bed0465b5ca3fc03d97fac8296911ef070ca"), looks := true }, kinds := [], alts := [], laidByText := true, laidKinds := [.data, .handle, .data], laidTests := true, laidLooks := .later }
def PeriodNextsCardSaid : Prop := Claim7.holds Tryz.pinned (.plain (OpenSpec.ofChange periodNextsSpec)) periodNextsCard

/-- THE TIED CARD OF 'belvederelaw07.PeriodDays'. -/
def periodDaysCard : Claim7 := { stood := { row := periodDaysRow, standIns := [], harness := (true, "fd6d722d29db76384b47b1a40ba9bed0465b5ca3fc03d97fac8296911ef070ca"), looks := true }, kinds := [], alts := [], laidByText := true, laidKinds := [.data, .handle, .data], laidTests := true, laidLooks := .later }
def PeriodDaysCardSaid : Prop := Claim7.holds Tryz.pinned (.plain (OpenSpec.ofChange periodDaysSpec)) periodDaysCard

/-- THE SECOND FORM's CARD OF 'belvederelaw07.PeriodChecks'. -/
def periodChecksUptoCard : Claim7 := { stood := { row := periodChecksUptoRow, standIns := [], harness := (true, "fd6d722d29db76384b47b1a40ba9bed0465b5ca3fc03d97fac8296911ef070ca"), looks := true }, kinds := [], alts := [], laidByText := true, laidKinds := [.data, .handle, .data], laidTests := true, laidLooks := .later }
def PeriodChecksUptoCardSaid : Prop := Claim7.holds Tryz.pinned (.plain (OpenSpec.upto periodChecksSpec)) periodChecksUptoCard

/-- THE SECOND FORM's CARD OF 'belvederelaw07.PeriodNexts'. -/
def periodNextsUptoCard : Claim7 := { stood := { row := periodNextsUptoRow, standIns := [], harness := (true, "fd6d722d29db76384b47b1a40ba9bed0465b5ca3fc03d97fac8296911ef070ca"), looks := true }, kinds := [], alts := [], laidByText := true, laidKinds := [.data, .handle, .data], laidTests := true, laidLooks := .later }
def PeriodNextsUptoCardSaid : Prop := Claim7.holds Tryz.pinned (.plain (OpenSpec.upto periodNextsSpec)) periodNextsUptoCard

/-- THE SECOND FORM's CARD OF 'belvederelaw07.PeriodDays'. -/
def periodDaysUptoCard : Claim7 := { stood := { row := periodDaysUptoRow, standIns := [], harness := (true, "fd6d722d29db76384b47b1a40ba9bed0465b5ca3fc03d97fac8296911ef070ca"), looks := true }, kinds := [], alts := [], laidByText := true, laidKinds := [.data, .handle, .data], laidTests := true, laidLooks := .later }
def PeriodDaysUptoCardSaid : Prop := Claim7.holds Tryz.pinned (.plain (OpenSpec.upto periodDaysSpec)) periodDaysUptoCard
end Rows
end Go.Proofs.YtlogapkpllgdcaaGreatDoor

/- Ints as values (of RlG, for a seat without the texts of rules). -/
import Derived.Test.YtlogapkpllgdcaaGreatDoorRlE
namespace Go.Proofs.YtlogapkpllgdcaaGreatDoor
open Go.RowKit

def intL (ns : List Int) : List Value := ns.map fun n => .int .i64 n
theorem intL_length (ns : List Int) : (intL ns).length = ns.length := by simp [intL]
end Go.Proofs.YtlogapkpllgdcaaGreatDoor

/- Contract: civil's Days. -/
import Derived.Test.YtgfibckahnjclaaDoorCvC
namespace Go.Proofs.YtgfibckahnjclaaDoor
open Go.RowKit

theorem ret_one {k : IntKind} {a b : Int} {v : Value} (h : a = b) : Ending.returned (.tuple #[.int k a, v]) = .returned (.tuple #[.int k b, v]) := by rw [h]
/-- A date as a value. -/
def dt (y m d : Int) : Value := .agg #[.int .i64 y, .int .i64 m, .int .i64 d]
end Go.Proofs.YtgfibckahnjclaaDoor

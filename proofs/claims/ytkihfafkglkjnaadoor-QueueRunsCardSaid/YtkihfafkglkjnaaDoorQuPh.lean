/- Layer 15: what the package answers besides (pgQ). -/
import Derived.Test.YtkihfafkglkjnaaDoorQuPg
import Derived.Test.YtkihfafkglkjnaaDoorQuLw
namespace Go.Proofs.YtkihfafkglkjnaaDoor
open Go.RowKit

theorem pgQ : PgQ IsQ where
  toPgP := pgP
  no := fun n w h => no_any n w h
  drop := fun v F n L k i w h1 h2 h => drop_any v F n L k i w h1 h2 h
  nset := fun e w => nset_any e w
  ndrop := fun k i w => ndrop_any k i w
  nfirst := fun w => nfirst_any w
  npop := fun w => npop_any w
  nfind := fun k i w => nfind_any k i w
  nlen := fun w => nlen_any w
  nlist := fun w => nlist_any w
end Go.Proofs.YtkihfafkglkjnaaDoor

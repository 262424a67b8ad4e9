/- Contract: the document's Days. -/
import Derived.Test.YtjfmnflcgenpaaaDoorCvE
import Derived.Test.YtjfmnflcgenpaaaDoorCvR
namespace Go.Proofs.YtjfmnflcgenpaaaDoor
open Go.RowKit

theorem cell_blk {w : World} {g : Nat} {cs : Array Value} {t : TypeId} {fr : Nat × Nat} (h : w.heap[g]? = some (.cells cs t fr)) (k : Nat) {v : Value} (hv : cs[k]? = some v) : w.cell? ⟨g, k, none⟩ = some v := by
  simp [World.cell?, h, hv]
end Go.Proofs.YtjfmnflcgenpaaaDoor

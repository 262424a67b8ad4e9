/- Contracts: the laws' give; the document's May. -/
import Derived.Test.YtjfmnflcgenpaaaDoorCvG
import Derived.Deep.RegionHeld3
namespace Go.Proofs.YtjfmnflcgenpaaaDoor
open Go.RowKit

theorem heap_new2 (w : World) (o p : Obj) : ((w.alloc o).alloc p).heap[w.heap.size + 1]? = some p := by
  have := heap_alloc_new (w.alloc o) p
  rw [World.size_alloc] at this
  exact this
end Go.Proofs.YtjfmnflcgenpaaaDoor

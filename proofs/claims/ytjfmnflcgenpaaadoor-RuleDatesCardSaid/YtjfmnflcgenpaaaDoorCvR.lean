/- Contract of the document's Length. -/
import Derived.Test.YtjfmnflcgenpaaaDoorCvA
namespace Go.Proofs.YtjfmnflcgenpaaaDoor
open Go.RowKit

end Go.Proofs.YtjfmnflcgenpaaaDoor

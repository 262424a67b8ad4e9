/- Contract: the document's leads. -/
import Derived.Test.YthmklmilgcjmlaaGrMem
namespace Go.Proofs.Ythmklmilgcjmlaa
open Go.RowKit

end Go.Proofs.Ythmklmilgcjmlaa

/- The makers of right vectors, of texts of vectors, of sequences. -/
import Derived.Test.YtlkdpgjbbbaiiaaDoorPvMk
namespace Go.Proofs.YtlkdpgjbbbaiiaaDoor
open Go.RowKit

end Go.Proofs.YtlkdpgjbbbaiiaaDoor

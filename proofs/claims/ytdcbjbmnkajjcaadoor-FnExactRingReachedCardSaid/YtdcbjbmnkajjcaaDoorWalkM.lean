/- The walks of the laws on one move. -/
import Derived.Test.YtdcbjbmnkajjcaaDoorMove
namespace Go.Proofs.YtdcbjbmnkajjcaaDoor
open Go.RowKit

end Go.Proofs.YtdcbjbmnkajjcaaDoor

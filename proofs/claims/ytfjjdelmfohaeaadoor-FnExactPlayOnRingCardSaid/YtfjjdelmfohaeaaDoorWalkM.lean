/- The walks of the laws on one move. -/
import Derived.Test.YtfjjdelmfohaeaaDoorMoveE
namespace Go.Proofs.YtfjjdelmfohaeaaDoor
open Go.RowKit

end Go.Proofs.YtfjjdelmfohaeaaDoor

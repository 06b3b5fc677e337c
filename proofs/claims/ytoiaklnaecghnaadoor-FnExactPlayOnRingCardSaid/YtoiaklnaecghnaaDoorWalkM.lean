/- The walks of the laws on one move. -/
import Derived.Test.YtoiaklnaecghnaaDoorMoveE
namespace Go.Proofs.YtoiaklnaecghnaaDoor
open Go.RowKit

end Go.Proofs.YtoiaklnaecghnaaDoor

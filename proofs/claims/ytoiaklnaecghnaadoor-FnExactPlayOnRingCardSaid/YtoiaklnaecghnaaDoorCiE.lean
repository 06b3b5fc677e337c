/- Contracts: all moves on a ring, the model's. -/
import Derived.Test.YtoiaklnaecghnaaDoorCiD
import Derived.Test.YtoiaklnaecghnaaDoorItr
namespace Go.Proofs.YtoiaklnaecghnaaDoor
open Go.RowKit

end Go.Proofs.YtoiaklnaecghnaaDoor

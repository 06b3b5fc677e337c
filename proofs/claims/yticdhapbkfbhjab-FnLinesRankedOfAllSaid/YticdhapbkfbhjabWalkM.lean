/- The walks of the laws on one move. -/
import Derived.Test.YticdhapbkfbhjabMoveE
namespace Go.Proofs.Yticdhapbkfbhjab
open Go.RowKit

end Go.Proofs.Yticdhapbkfbhjab

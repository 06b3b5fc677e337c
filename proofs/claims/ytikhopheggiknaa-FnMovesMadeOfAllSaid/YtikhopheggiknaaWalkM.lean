/- The walks of the laws on one move. -/
import Derived.Test.YtikhopheggiknaaMoveE
namespace Go.Proofs.Ytikhopheggiknaa
open Go.RowKit

end Go.Proofs.Ytikhopheggiknaa

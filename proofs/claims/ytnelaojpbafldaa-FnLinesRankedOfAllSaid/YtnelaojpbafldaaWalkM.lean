/- The walks of the laws on one move. -/
import Derived.Test.YtnelaojpbafldaaMoveE
namespace Go.Proofs.Ytnelaojpbafldaa
open Go.RowKit

end Go.Proofs.Ytnelaojpbafldaa

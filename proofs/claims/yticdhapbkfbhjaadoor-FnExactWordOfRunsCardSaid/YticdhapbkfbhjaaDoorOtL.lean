/- Contract: the program's OtherLine. -/
import Derived.Test.YticdhapbkfbhjaaDoorBack
import Derived.Test.YticdhapbkfbhjaaDoorBdW
import Derived.Test.YticdhapbkfbhjaaDoorImpB
namespace Go.Proofs.YticdhapbkfbhjaaDoor
open Go.RowKit

theorem map_oSg {l : List UInt8} (h : l.all isSign = true) : l.map oSg = l.map oSign :=
  List.map_congr_left fun c hc => oSg_sign (List.all_eq_true.1 h c hc)
end Go.Proofs.YticdhapbkfbhjaaDoor

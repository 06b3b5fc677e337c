/- Contract: the program's OtherLine. -/
import Derived.Test.YtoiaklnaecghnaaDoorBack
import Derived.Test.YtoiaklnaecghnaaDoorBdW
import Derived.Test.YtoiaklnaecghnaaDoorImpB
namespace Go.Proofs.YtoiaklnaecghnaaDoor
open Go.RowKit

theorem map_oSg {l : List UInt8} (h : l.all isSign = true) : l.map oSg = l.map oSign :=
  List.map_congr_left fun c hc => oSg_sign (List.all_eq_true.1 h c hc)
end Go.Proofs.YtoiaklnaecghnaaDoor

/- Contracts: the program's lines behind a line. -/
import Derived.Test.YtdcbjbmnkajjcaaDoorReachB
import Derived.Test.YtdcbjbmnkajjcaaDoorSl
import Derived.Test.YtdcbjbmnkajjcaaDoorWalkV
namespace Go.Proofs.YtdcbjbmnkajjcaaDoor
open Go.RowKit

/-- The answer: a list of texts in memory of the call's own. -/
def TxPost (w : World) (l : List (List UInt8)) (e : Ending) (w' : World) : Prop :=
  ∃ v, e = .returned v ∧ w'.ownsRow w.heap.size 9 1 v l.length (txs l) ∧ Below w.heap.size w w'
theorem txs_take (l : List (List UInt8)) (k : Nat) (h : k < l.length) : txs (l.take (k + 1)) = txs (l.take k) ++ [.string (str l[k])] := by
  rw [List.take_succ_eq_append_getElem h, txs_app]; rfl
theorem nxL_at (l : List UInt8) (hg : goodL (str l) = true) : nxL l = (mvsOr (canM (str l)) (str l)).map fun m => behind (str l) m.1 m.2 := by
  unfold nxL mvsOr; rw [hg]; rfl

end Go.Proofs.YtdcbjbmnkajjcaaDoor

/- Contracts: the program's BoardMoves and IsBoardBlocked. -/
import Derived.Test.YtoiaklnaecghnabGreatDoorBdMv
namespace Go.Proofs.YtoiaklnaecghnabGreatDoor
open Go.RowKit

/-- The columns of a board are good rows. -/
theorem cols_goodL {l : List UInt8} (h : goodB l = true) : ∀ r ∈ colsR (spl l) ((spl l).headD []).length, goodL (str r) = true := fun r hr => (((boOk_iff _).1 (cols_good h).1).2 r hr).1
/-- The moves that a text's board answers. -/
def bmT (l : List UInt8) : List (Int × Int) := bmL (spl l) ((spl l).headD []).length (spl l).length
/-- The answer: moves or none. -/
def BmAns (w : World) (c : Bool) (l : List (Int × Int)) (e : Ending) (w' : World) : Prop :=
  ∃ v, e = .returned (.tuple #[v, .bool c]) ∧ w'.ownsRow w.heap.size 39 2 v (if c then l else []).length (flat (if c then l else [])) ∧ Below w.heap.size w w'

end Go.Proofs.YtoiaklnaecghnabGreatDoor

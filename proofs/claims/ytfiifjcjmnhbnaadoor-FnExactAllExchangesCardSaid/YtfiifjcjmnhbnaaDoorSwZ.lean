/- Contracts and the walk: how many exchanges there are. -/
import Derived.Test.YtfiifjcjmnhbnaaDoorSwX
import Derived.Test.YtfiifjcjmnhbnaaDoorSwM
namespace Go.Proofs.YtfiifjcjmnhbnaaDoor
open Go.RowKit Go.Shelf Go.Maps

/-- How many exchanges there are. -/
def cxV (t g f : Int) : Value := intOr (few t g f) (swN (firstL t.toNat g.toNat f.toNat) : Int)
theorem lvN_root (l : List UInt8) : lvN (swA l) l = swN l := by
  unfold lvN
  rw [if_pos (swA_root l)]
end Go.Proofs.YtfiifjcjmnhbnaaDoor

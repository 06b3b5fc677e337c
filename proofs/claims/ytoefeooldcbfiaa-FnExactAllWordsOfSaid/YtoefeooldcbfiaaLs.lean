/- The laws on lists of texts, out of both sides' contracts. -/
import Derived.Test.YtoefeooldcbfiaaList
import Derived.Test.YtoefeooldcbfiaaLay
namespace Go.Proofs.Ytoefeooldcbfiaa
open Go.RowKit

/-- The model's answer: a list of texts somewhere, and a flag. -/
def LsPost (l : List (List UInt8)) (c : Bool) (w : World) (e : Ending) (w' : World) : Prop :=
  ∃ A cap, e = .returned (.tuple #[.slice A l.length cap, .bool c]) ∧ StAt w' A l ∧ Below w.heap.size w w'
/-- The program's answer: a list of texts of its own, and a flag. -/
def RsPost (l : List (List UInt8)) (c : Bool) (w : World) (e : Ending) (w' : World) : Prop :=
  ∃ v, e = .returned (.tuple #[v, .bool c]) ∧ w'.ownsRow w.heap.size 9 1 v l.length (txs l) ∧ Below w.heap.size w w'

end Go.Proofs.Ytoefeooldcbfiaa

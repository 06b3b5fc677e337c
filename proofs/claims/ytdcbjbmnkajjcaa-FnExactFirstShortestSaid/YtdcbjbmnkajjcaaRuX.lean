/- BothWays: the program's side, and the model's over a contract for the search backwards. -/
import Derived.Test.YtdcbjbmnkajjcaaRuW
namespace Go.Proofs.Ytdcbjbmnkajjcaa
open Go.RowKit

/-- What the search backwards leaves. -/
def RkPost (o b l : Bool) (wl : List UInt8) (w : World) (e : Ending) (w' : World) : Prop :=
  ∃ va vb, e = .returned (.agg #[va, vb]) ∧ w'.ownsRow w.heap.size 9 1 va (bfsL (nxB o b l) wl).length (txs (keysF (bfsL (nxB o b l) wl))) ∧
    w'.ownsRow w.heap.size 3 1 vb (bfsL (nxB o b l) wl).length (nus (depF (bfsL (nxB o b l) wl))) ∧ Below w.heap.size w w'
def BackAny : Prop := ∀ (n : Nat) (o b l : Bool) (wl : List UInt8) (w : World), goodT n wl → Calls Try.prog 14 #[.string (str wl), ruV o b l] w (RkPost o b l wl w)
end Go.Proofs.Ytdcbjbmnkajjcaa

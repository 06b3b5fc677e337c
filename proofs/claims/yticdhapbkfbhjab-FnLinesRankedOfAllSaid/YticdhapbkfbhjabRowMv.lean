/- A slice of moves that came in, opened. -/
import Derived.Test.YticdhapbkfbhjabPlay
import Derived.ProofKit
import Derived.OpenShut
namespace Go.Proofs.Yticdhapbkfbhjab
open Go.ChangeShapes Go.WideShapes Go.ChangeAt Go.RowKit Go.Deep

theorem addr_in (g o j : Nat) : (⟨g, o, none⟩ : Addr).add j = ⟨g, o + j, none⟩ := by
  unfold Addr.add
  split
  · simp_all
  · rfl

end Go.Proofs.Yticdhapbkfbhjab

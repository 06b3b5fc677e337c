/- Contract: the program's text with toads and frogs exchanged. -/
import Derived.Test.YtjadnfnpbacfdaaDoorBdA
import Derived.Test.YtjadnfnpbacfdaaDoorMove
namespace Go.Proofs.YtjadnfnpbacfdaaDoor
open Go.RowKit

/-- The cells of a block, after k of them were turned. -/
def OgAt (w : World) (g : Nat) (s : ByteArray) (k : Nat) : Prop := ∀ j (h : j < s.size), w.cell? ⟨g, j, none⟩ = some (.int .u8 (if j < k then oSg s[j] else s[j]).toNat) ∧ w.frozen? ⟨g, j, none⟩ = false

end Go.Proofs.YtjadnfnpbacfdaaDoor

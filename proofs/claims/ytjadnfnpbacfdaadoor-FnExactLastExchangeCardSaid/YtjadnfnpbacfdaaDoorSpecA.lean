/- Contracts: the model's exported functions on lines. -/
import Derived.Test.YtjadnfnpbacfdaaDoorImpB
namespace Go.Proofs.YtjadnfnpbacfdaaDoor
open Go.RowKit

/-- 'strOr' and its like, opened. -/
theorem strOr_no (c : Bool) (l : List UInt8) (h : c = false) : strOr c l = .tuple #[.string (str []), .bool false] := by rw [h]; rfl
theorem strOr_yes (c : Bool) (l : List UInt8) (h : c = true) : strOr c l = .tuple #[.string (str l), .bool true] := by rw [h]; rfl
theorem intOr_no (c : Bool) (n : Int) (h : c = false) : intOr c n = .tuple #[.int .i64 0, .bool false] := by rw [h]; rfl
theorem intOr_yes (c : Bool) (n : Int) (h : c = true) : intOr c n = .tuple #[.int .i64 n, .bool true] := by rw [h]; rfl

end Go.Proofs.YtjadnfnpbacfdaaDoor

/- The walks of the laws on rings as texts. -/
import Derived.Test.YtoiaklnaecghnaaDoorCiC
namespace Go.Proofs.YtoiaklnaecghnaaDoor
open Go.RowKit

theorem strOr_open (c : Bool) (l : List UInt8) : ∃ x y, strOr c l = .tuple #[.string x, .bool y] := by
  unfold strOr
  split
  · exact ⟨_, _, rfl⟩
  · exact ⟨_, _, rfl⟩
theorem intOr_open (c : Bool) (n : Int) : ∃ x y, intOr c n = .tuple #[.int .i64 x, .bool y] := by
  unfold intOr
  split
  · exact ⟨_, _, rfl⟩
  · exact ⟨_, _, rfl⟩
/-- A contract that leaves the world alone, in the longer form. -/
theorem calls_still {f : FuncId} {args : Array Value} {w : World} {v : Value} (h : Calls Tryd.prog f args w fun e w' => e = .returned v ∧ w = w') : Calls Tryd.prog f args w fun e w' => e = .returned v ∧ Below w.heap.size w w' :=
  h.mono fun _ _ ⟨h1, h2⟩ => ⟨h1, h2 ▸ Below.refl _ _⟩

end Go.Proofs.YtoiaklnaecghnaaDoor

/- Contracts: the model's functions on lines. -/
import Derived.Test.YticdhapbkfbhjaaDoorStr
import Derived.Deep.QuietTactic
import Derived.BigQuiet
namespace Go.Proofs.YticdhapbkfbhjaaDoor
open Go.RowKit

theorem three_cells (t g f : Int) (w : World) : ∀ (j : Nat),
  j < [t, g, f].length →
    (w.alloc (Obj.cells #[Value.int IntKind.i64 t, Value.int IntKind.i64 g, Value.int IntKind.i64 f] 3)).cell? { block := w.heap.size, off := j } =
      some (Value.int IntKind.i64 ([t, g, f].getD j 0)) := by
  intro j hj
  rw [World.cell?_alloc_new]
  match j, hj with
  | 0, _ => rfl
  | 1, _ => rfl
  | 2, _ => rfl

end Go.Proofs.YticdhapbkfbhjaaDoor

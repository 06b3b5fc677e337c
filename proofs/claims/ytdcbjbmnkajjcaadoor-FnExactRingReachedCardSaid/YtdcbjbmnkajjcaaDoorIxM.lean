/- Contracts: whether a move is among moves. -/
import Derived.Test.YtdcbjbmnkajjcaaDoorMoves
import Derived.BigQuiet
namespace Go.Proofs.YtdcbjbmnkajjcaaDoor
open Go.RowKit

theorem cell_below (w : World) (ob : Obj) (b k : Nat) (h : b < w.heap.size) : (w.alloc ob).cell? ⟨b, k, none⟩ = w.cell? ⟨b, k, none⟩ :=
  World.cell?_of_block (a := ⟨b, k, none⟩) (Below.heap_alloc w ob b h)

theorem eql_no {f t a b : Int} (h : ¬ (a = f ∧ b = t)) (w : World) : (binOp .eql 58 (.agg #[.int .i64 f, .int .i64 t]) (.agg #[.int .i64 a, .int .i64 b])).run Tryd.prog w = .ok (.bool false) w := by
  rw [eql_move]
  congr 2
  rw [Bool.and_eq_false_iff]
  by_cases e : f = a
  · exact .inr (by simpa using fun e2 : t = b => h ⟨e.symm, e2.symm⟩)
  · exact .inl (by simpa using e)
theorem eql_yes (f t : Int) (w : World) : (binOp .eql 58 (.agg #[.int .i64 f, .int .i64 t]) (.agg #[.int .i64 f, .int .i64 t])).run Tryd.prog w = .ok (.bool true) w := by
  rw [eql_move]
  simp

end Go.Proofs.YtdcbjbmnkajjcaaDoor

/- Contract: the model's boMoves. -/
import Derived.Test.YtoiaklnaecghnabGreatDoorBdCn
import Derived.Test.YtoiaklnaecghnabGreatDoorMoves
namespace Go.Proofs.YtoiaklnaecghnabGreatDoor
open Go.RowKit

/-- The moves from a cell to the first k cells, in order. -/
def rowB (R : List (List UInt8)) (wd f k : Nat) : List (Int × Int) := ((List.range k).filter fun t : Nat => boC R wd (f : Int) (t : Int)).map fun t : Nat => ((f : Int), (t : Int))
/-- The moves from the first k cells. -/
def bmS (R : List (List UInt8)) (wd n k : Nat) : List (Int × Int) := (List.range k).flatMap fun f => rowB R wd f n
theorem rowB_next (R : List (List UInt8)) (wd f k : Nat) : rowB R wd f (k + 1) = rowB R wd f k ++ if boC R wd (f : Int) (k : Int) then [((f : Int), (k : Int))] else [] := by
  unfold rowB
  rw [List.range_succ, List.filter_append, List.map_append]
  congr 1
  cases h : boC R wd (f : Int) (k : Int) <;> simp [h]
theorem bmS_next (R : List (List UInt8)) (wd n k : Nat) : bmS R wd n (k + 1) = bmS R wd n k ++ rowB R wd k n := by
  unfold bmS; rw [List.range_succ, List.flatMap_append]; simp
theorem rowB_len (R : List (List UInt8)) (wd f : Nat) : ∀ k, (rowB R wd f k).length ≤ k
  | 0 => by simp [rowB]
  | k + 1 => by
    have := rowB_len R wd f k
    rw [rowB_next, List.length_append]
    split <;> simp <;> omega
theorem bmS_len (R : List (List UInt8)) (wd n : Nat) : ∀ k, (bmS R wd n k).length ≤ k * n
  | 0 => by simp [bmS]
  | k + 1 => by
    have a := bmS_len R wd n k
    have b := rowB_len R wd k n
    rw [bmS_next, List.length_append, Nat.add_mul]
    omega
theorem cell_two_newB (w : World) (a b : Value) (t : TypeId) : ∀ j u, [a, b][j]? = some u → (w.alloc (.cells #[a, b] t)).cell? ((⟨w.heap.size, 0, none⟩ : Addr).add j) = some u := by
  intro j u h
  rw [addr_add, World.cell?_alloc_new]
  simpa using h

end Go.Proofs.YtoiaklnaecghnabGreatDoor

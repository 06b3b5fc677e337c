/- Contracts: all moves on a line, the program's. -/
import Derived.Test.YticdhapbkfbhjaaDoorMoveE
namespace Go.Proofs.YticdhapbkfbhjaaDoor
open Go.RowKit

/-- Pairs of numbers, cell by cell. -/
def flat (l : List (Int × Int)) : List Value := l.flatMap fun p => [.int .i64 p.1, .int .i64 p.2]
theorem flat_len (l : List (Int × Int)) : (flat l).length = l.length * 2 := by
  induction l with
  | nil => rfl
  | cons p l ih => simp only [flat, List.flatMap_cons, List.length_append, List.length_cons, List.length_nil] at ih ⊢; omega
theorem flat_app (a b : List (Int × Int)) : flat (a ++ b) = flat a ++ flat b := by simp [flat]

/-- The moves that are wanted, of the first k cells. -/
def mvsTo (wd : Int → Int → Bool) (s : ByteArray) : Nat → List (Int × Int)
  | 0 => []
  | k + 1 => mvsTo wd s k ++ if wd k (mvTo s k) then [((k : Int), mvTo s k)] else []
theorem mvsTo_le (wd : Int → Int → Bool) (s : ByteArray) (k : Nat) : (mvsTo wd s k).length ≤ k := by
  induction k with
  | zero => simp [mvsTo]
  | succ k ih => simp only [mvsTo, List.length_append]; split <;> simp <;> omega

theorem grown_of_below {w w' : World} (h : Below w.heap.size w w') : w.grownBy w' none := ⟨h.os, h.tape, h.output, h.size, fun k hk _ => h.block k hk⟩
theorem own_below {w w' : World} {base : Nat} {e : TypeId} {size n : Nat} {v : Value} {xs : List Value} (h : w.ownsRow base e size v n xs) (hb : Below w.heap.size w w') : w'.ownsRow base e size v n xs :=
  h.kept (grown_of_below hb) (by cases v.ownBlock <;> simp)
theorem cell_two_new (w : World) (a b : Value) (t : TypeId) : ∀ j u, [a, b][j]? = some u → (w.alloc (.cells #[a, b] t)).cell? ((⟨w.heap.size, 0, none⟩ : Addr).add j) = some u := by
  intro j u h
  rw [addr_add, World.cell?_alloc_new]
  simpa using h

end Go.Proofs.YticdhapbkfbhjaaDoor

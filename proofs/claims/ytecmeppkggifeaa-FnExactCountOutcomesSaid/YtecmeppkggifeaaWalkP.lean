/- The walks of the laws on plays. -/
import Derived.Test.YtecmeppkggifeaaPlayB
import Derived.Test.YtecmeppkggifeaaMovesS
namespace Go.Proofs.Ytecmeppkggifeaa
open Go.RowKit

def askedB (s : ByteArray) (n : Nat) : Bool := goodL s && decide (n ≤ 100)
theorem asked_no {s : ByteArray} {n : Nat} (h : goodL s = false) : askedB s n = false := by simp [askedB, h]

/-- All moves can be made. -/
def allB (s : ByteArray) (l : List (Int × Int)) : Bool := (playS s l).2 == l.length
def plVal (s : ByteArray) (l : List (Int × Int)) : Value := if askedB s l.length && allB s l then .tuple #[.string (playS s l).1, .bool true] else .tuple #[.string (str []), .bool false]
def mfVal (s : ByteArray) (l : List (Int × Int)) : Value := if askedB s l.length && !allB s l then .tuple #[.int .i64 (playS s l).2, .bool true] else .tuple #[.int .i64 0, .bool false]
theorem asked_in {s : ByteArray} {n : Nat} (h : askedB s n = true) : s.size ≤ 1000 ∧ n ≤ 100 := by
  unfold askedB at h
  rw [Bool.and_eq_true] at h
  exact ⟨good1000 h.1, by simpa using h.2⟩

end Go.Proofs.Ytecmeppkggifeaa

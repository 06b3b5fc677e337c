/- Contracts: one move on a line. -/
import Derived.Test.YtfjjdelmfohaeaaSpecA
import Derived.Deep.RegionHeld3
import Derived.Laws.StructEq
namespace Go.Proofs.Ytfjjdelmfohaeaa
open Go.RowKit

/-- The sign of a cell, 0 outside. -/
def sgAt (s : ByteArray) (i : Int) : UInt8 := if h : 0 ≤ i ∧ i < s.size then s[i.toNat]'(by omega) else 0
theorem sgAt_in (s : ByteArray) (k : Nat) (h : k < s.size) : sgAt s k = s[k] := by
  unfold sgAt
  rw [dif_pos (by omega)]
  rfl
theorem sgAt_out (s : ByteArray) (i : Int) (h : ¬ (0 ≤ i ∧ i < s.size)) : sgAt s i = 0 := by
  unfold sgAt
  rw [dif_neg h]

/-- Where the animal of a cell can go; the cell itself if nowhere. -/
def mvTo (s : ByteArray) (i : Int) : Int :=
  if sgAt s i = 84 then (if sgAt s (i + 1) = 46 then i + 1 else if sgAt s (i + 1) = 70 then (if sgAt s (i + 1 + 1) = 46 then i + 1 + 1 else i) else i)
  else if sgAt s i = 70 then (if sgAt s (i + -1) = 46 then i + -1 else if sgAt s (i + -1) = 84 then (if sgAt s (i + -1 + -1) = 46 then i + -1 + -1 else i) else i)
  else i
theorem sg_range (s : ByteArray) (i : Int) (h : sgAt s i ≠ 0) : 0 ≤ i ∧ i < s.size := by
  by_cases h1 : 0 ≤ i ∧ i < s.size
  · exact h1
  · exact absurd (sgAt_out s i h1) h

/-- What a byte is, for the walk: equal to a sign, or not. -/
theorem is_or (c d : UInt8) (n : Int) (hn : (d.toNat : Int) = n) : (c = d ∧ (c.toNat : Int) = n) ∨ (c ≠ d ∧ ((c.toNat : Int) == n) = false) := by
  by_cases h : c = d
  · exact .inl ⟨h, by rw [h, hn]⟩
  · exact .inr ⟨h, by rw [← hn]; exact bne_u8 h⟩

theorem eql_move (a b c d : Int) (w : World) : (binOp .eql 50 (.agg #[.int .i64 a, .int .i64 b]) (.agg #[.int .i64 c, .int .i64 d])).run Try.prog w = .ok (.bool (a == c && b == d)) w := by
  have u3 := Try.underlying3
  have a3 := Try.isAgg3
  have z3 := Try.sizeOf3
  have hS : Try.prog.underlying 50 = some (.struct (Try.prog.fieldsOf 50)) := by kernel_rfl
  have hp : Try.prog.stoodInHeld 50 = false := by kernel_rfl
  rw [run_eql_struct, show (10000 : Nat) = 9999 + 1 from rfl, run_equalIn_agg w 9999 50 _ _ hS hp]
  simp only [Program.fieldsOf, Try.underlying50]
  go_simp
  by_cases h1 : a = c <;> by_cases h2 : b = d <;> simp [h1, h2]

/-- What a move can be made of: it ends where the animal of its cell can go. -/
def canM (s : ByteArray) (f t : Int) : Bool := decide (f ≠ t) && decide (t = mvTo s f)

end Go.Proofs.Ytfjjdelmfohaeaa

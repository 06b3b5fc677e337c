/- Contracts: one move on a line. -/
import Derived.Test.YticdhapbkfbhjaaDoorSpecA
import Derived.Deep.RegionHeld3
import Derived.Laws.StructEq
namespace Go.Proofs.YticdhapbkfbhjaaDoor
open Go.RowKit

/-- The sign of a cell, 0 outside. -/
def sgAt (s : ByteArray) (i : Int) : UInt8 := if h : 0 ≤ i ∧ i < s.size then s[i.toNat]'(by omega) else 0
theorem sgAt_in (s : ByteArray) (k : Nat) (h : k < s.size) : sgAt s k = s[k] := by
  unfold sgAt
  rw [dif_pos (by omega)]
  rfl
theorem sgAt_out (s : ByteArray) (i : Int) (h : ¬ (0 ≤ i ∧ i < s.size)) : sgAt s i = 0 := by
  unfold sgAt
  rw [dif_neg h]

/-- Where the animal of a cell can go; the cell itself if nowhere. -/
def mvTo (s : ByteArray) (i : Int) : Int :=
  if sgAt s i = 84 then (if sgAt s (i + 1) = 46 then i + 1 else if sgAt s (i + 1) = 70 then (if sgAt s (i + 1 + 1) = 46 then i + 1 + 1 else i) else i)
  else if sgAt s i = 70 then (if sgAt s (i + -1) = 46 then i + -1 else if sgAt s (i + -1) = 84 then (if sgAt s (i + -1 + -1) = 46 then i + -1 + -1 else i) else i)
  else i
theorem sg_range (s : ByteArray) (i : Int) (h : sgAt s i ≠ 0) : 0 ≤ i ∧ i < s.size := by
  by_cases h1 : 0 ≤ i ∧ i < s.size
  · exact h1
  · exact absurd (sgAt_out s i h1) h

/-- What a byte is, for the walk: equal to a sign, or not. -/
theorem is_or (c d : UInt8) (n : Int) (hn : (d.toNat : Int) = n) : (c = d ∧ (c.toNat : Int) = n) ∨ (c ≠ d ∧ ((c.toNat : Int) == n) = false) := by
  by_cases h : c = d
  · exact .inl ⟨h, by rw [h, hn]⟩
  · exact .inr ⟨h, by rw [← hn]; exact bne_u8 h⟩

/-- What a move can be made of: it ends where the animal of its cell can go. -/
def canM (s : ByteArray) (f t : Int) : Bool := decide (f ≠ t) && decide (t = mvTo s f)

end Go.Proofs.YticdhapbkfbhjaaDoor

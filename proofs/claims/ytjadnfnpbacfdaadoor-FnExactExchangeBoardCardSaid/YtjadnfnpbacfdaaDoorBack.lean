/- A line told backwards: the library's reversal of bytes, and the program's 'backwards'. -/
import Derived.Test.YtjadnfnpbacfdaaDoorMove
namespace Go.Proofs.YtjadnfnpbacfdaaDoor
open Go.RowKit

/-- What stands in cell j after i exchanges from both ends. -/
def revAt (l : List UInt8) (i j : Nat) : UInt8 := if j < i ∨ l.length < j + 1 + i then l.getD (l.length - 1 - j) 0 else l.getD j 0
theorem revAt_zero (l : List UInt8) (j : Nat) (h : j < l.length) : revAt l 0 j = l[j] := by
  unfold revAt
  rw [if_neg (by omega)]
  simp [List.getD_eq_getElem?_getD, h]
theorem revAt_end (l : List UInt8) (i j : Nat) (h : j < l.length) (hi : l.length ≤ i + i + 1) : revAt l i j = l.reverse.getD j 0 := by
  have e : l.reverse.getD j 0 = l.getD (l.length - 1 - j) 0 := by
    rw [List.getD_eq_getElem?_getD, List.getD_eq_getElem?_getD, List.getElem?_reverse h]
  rw [e]
  unfold revAt
  split
  · rfl
  · have : l.length - 1 - j = j := by omega
    rw [this]
theorem revAt_next (l : List UInt8) (i k j : Nat) (hik : i + k + 1 = l.length) (hlt : i < k) (h : j < l.length) :
    revAt l (i + 1) j = if j = k then revAt l i i else if j = i then revAt l i k else revAt l i j := by
  unfold revAt
  by_cases e1 : j = k
  · subst e1
    rw [if_pos rfl, if_pos (by omega), if_neg (by omega)]
    congr 1; omega
  · rw [if_neg e1]
    by_cases e2 : j = i
    · subst e2
      rw [if_pos rfl, if_pos (by omega), if_neg (by omega)]
      congr 1; omega
    · rw [if_neg e2]
      by_cases e3 : j < i ∨ l.length < j + 1 + i
      · rw [if_pos e3, if_pos (by omega)]
      · rw [if_neg e3, if_neg (by omega)]
/-- The cells of a block, after i exchanges. -/
def RvAt (w : World) (g : Nat) (l : List UInt8) (i : Nat) : Prop := ∀ j, j < l.length → w.cell? ⟨g, j, none⟩ = some (.int .u8 (revAt l i j).toNat) ∧ w.frozen? ⟨g, j, none⟩ = false

end Go.Proofs.YtjadnfnpbacfdaaDoor

/- Contracts: the exported functions on one move. -/
import Derived.Test.YticdhapbkfbhjaaDoorMoveD
namespace Go.Proofs.YticdhapbkfbhjaaDoor
open Go.RowKit

def boolOr (c b : Bool) : Value := if c then .tuple #[.bool b, .bool true] else .tuple #[.bool false, .bool false]
theorem boolOr_no (c b : Bool) (h : c = false) : boolOr c b = .tuple #[.bool false, .bool false] := by rw [h]; rfl
theorem boolOr_yes (c b : Bool) (h : c = true) : boolOr c b = .tuple #[.bool b, .bool true] := by rw [h]; rfl
theorem good1000 {s : ByteArray} (h : goodL s = true) : s.size ≤ 1000 := by have := ((goodL_iff s).1 h).2.1; omega

/-- The line behind a move. -/
def behind (s : ByteArray) (f t : Int) : List UInt8 := putL s f.toNat t.toNat

/-- A jump: two cells. -/
def jumpM (f t : Int) : Bool := decide (t - f = 2 ∨ t - f = -2)
theorem canM_far {s : ByteArray} {f t : Int} (h : canM s f t = true) : t - f = 1 ∨ t - f = -1 ∨ t - f = 2 ∨ t - f = -2 := by
  obtain ⟨_, _, _, ⟨_, h | ⟨h, _⟩⟩ | ⟨_, h | ⟨h, _⟩⟩⟩ := (canM_iff s f t).1 h <;> omega
theorem jump_mod {f t : Int} (h : t - f = 1 ∨ t - f = -1 ∨ t - f = 2 ∨ t - f = -2) : ((t - f).tmod 2 == 0) = jumpM f t := by
  rcases h with h | h | h | h <;> simp [jumpM, h]

theorem jump_abs {f t : Int} : (((t - f).natAbs : Int) == 2) = jumpM f t := by
  rw [Bool.eq_iff_iff]
  simp [jumpM]
  omega

end Go.Proofs.YticdhapbkfbhjaaDoor

/- Contracts: BoardMoves and IsBoardBlocked of the model; their laws' walks. -/
import Derived.Test.YtoiaklnaecghnabGreatDoorBdEq
import Derived.Test.YtoiaklnaecghnabGreatDoorBdMw
import Derived.Test.YtoiaklnaecghnabGreatDoorWalkV
namespace Go.Proofs.YtoiaklnaecghnabGreatDoor
open Go.RowKit

theorem good_R {l : List UInt8} (h : goodB l = true) : GoodR (spl l) ((spl l).headD []).length := by
  obtain ⟨g1, g2, g3, g4, _⟩ := good_size h
  obtain ⟨_, h2⟩ := (boOk_iff _).1 h
  exact ⟨fun r hr => (h2 r hr).2.2, ⟨g1, g2⟩, ⟨g3, g4⟩, fun r hr => (h2 r hr).1, cols_goodL h⟩
theorem bmT_is {l : List UInt8} (h : goodB l = true) : bmT l = bmS (spl l) ((spl l).headD []).length ((spl l).length * ((spl l).headD []).length) ((spl l).length * ((spl l).headD []).length) := bm_same (good_R h)
theorem bmT_le (l : List UInt8) (h : goodB l = true) : (bmT l).length ≤ 1000 := by
  rw [bmT_is h]
  have G := good_R h
  have a := bmS_len (spl l) ((spl l).headD []).length ((spl l).length * ((spl l).headD []).length) ((spl l).length * ((spl l).headD []).length)
  have b : (spl l).length * ((spl l).headD []).length ≤ 5 * 5 := Nat.mul_le_mul G.hh.2 G.hw.2
  have c : ((spl l).length * ((spl l).headD []).length) * ((spl l).length * ((spl l).headD []).length) ≤ 25 * 25 := Nat.mul_le_mul b b
  omega

/-- The moves that a text answers, or none. -/
def bmOr (l : List UInt8) : List (Int × Int) := if goodB l then bmT l else []
theorem bmOr_le (l : List UInt8) : (bmOr l).length ≤ 1000 := by
  unfold bmOr
  cases h : goodB l
  · simp
  · exact bmT_le l h
end Go.Proofs.YtoiaklnaecghnabGreatDoor

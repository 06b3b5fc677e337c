/- CrossBoard, ColumnOfBoard: both sides' contracts, the laws' walks. -/
import Derived.Test.YtoiaklnaecghnabGreatDoorBdV
namespace Go.Proofs.YtoiaklnaecghnabGreatDoor
open Go.RowKit

theorem ColO.pts {w : World} {gC wd hi : Nat} {R : List (List UInt8)} {F : List UInt8} (h : ColO w gC wd hi wd (colC F wd hi)) (hF : F = R.flatten) (hh : hi = R.length) : PtAt w gC (colsR R wd) := by
  intro k hk
  rw [colsR_len] at hk
  obtain ⟨g, c, e1, h1, h2, h3, h4⟩ := h.done k hk
  subst hF
  subst hh
  have hkk : k < (colsR R wd).length := by rw [colsR_len]; exact hk
  refine ⟨g, 0, c, ?_, h3, fun j hj => ?_⟩
  · rw [colsR_at R wd k hkk, colC_len]
    exact e1
  · rw [Nat.zero_add]
    have e : (colsR R wd)[k]? = some (colC R.flatten wd R.length k) := by rw [List.getElem?_eq_getElem hkk, colsR_at R wd k hkk]
    have hj2 : j < (colC R.flatten wd R.length k).length := by
      have := hj
      rw [colsR_at R wd k hkk] at this
      exact this
    rw [h4 j hj2]
    congr 3
    have := colsR_at R wd k hkk
    simp only [this]

/-- A column of a board, if it is there. -/
def colAsk (l : List UInt8) (k : Int) : Bool := goodB l && decide (0 ≤ k) && decide (k < ((spl l).headD []).length)
def colAt (l : List UInt8) (k : Int) : List UInt8 := (colsR (spl l) ((spl l).headD []).length).getD k.toNat []

end Go.Proofs.YtoiaklnaecghnabGreatDoor

/- Contracts: ranks of lines, the program's. -/
import Derived.Test.YtjadnfnpbacfdaaDoorRank
namespace Go.Proofs.YtjadnfnpbacfdaaDoor
open Go.RowKit

/-- What is left: how many gaps, frogs and toads, in a block of the call's own. -/
def LeftAt (w : World) (b : Nat) (g f t : Int) : Prop :=
  b < w.heap.size ∧ w.cell? ⟨b, 0, none⟩ = some (.int .i64 g) ∧ w.cell? ⟨b, 1, none⟩ = some (.int .i64 f) ∧ w.cell? ⟨b, 2, none⟩ = some (.int .i64 t) ∧
    w.frozen? ⟨b, 0, none⟩ = false ∧ w.frozen? ⟨b, 1, none⟩ = false ∧ w.frozen? ⟨b, 2, none⟩ = false
theorem LeftAt.below {w w' : World} {b : Nat} {g f t : Int} (h : LeftAt w b g f t) (hb : Below w.heap.size w w') : LeftAt w' b g f t := by
  obtain ⟨hz, c0, c1, c2, f0, f1, f2⟩ := h
  exact ⟨Nat.lt_of_lt_of_le hz hb.size, (hb.cell (p := ⟨b, 0, none⟩) hz).trans c0, (hb.cell (p := ⟨b, 1, none⟩) hz).trans c1, (hb.cell (p := ⟨b, 2, none⟩) hz).trans c2,
    (hb.frozen (p := ⟨b, 0, none⟩) hz).trans f0, (hb.frozen (p := ⟨b, 1, none⟩) hz).trans f1, (hb.frozen (p := ⟨b, 2, none⟩) hz).trans f2⟩
theorem left_new (w : World) (g f t : Int) : LeftAt (w.alloc (ctB g f t)) w.heap.size g f t := by
  refine ⟨by simp, ?_, ?_, ?_, ?_, ?_, ?_⟩
  · rw [World.cell?_alloc_new]; rfl
  · rw [World.cell?_alloc_new]; rfl
  · rw [World.cell?_alloc_new]; rfl
  all_goals
    unfold World.frozen? World.alloc
    simp
theorem left_set {w : World} {b : Nat} (hz : b < w.heap.size) {g f t : Int} (x0 : w.cell? ⟨b, 0, none⟩ = some (.int .i64 g)) (x1 : w.cell? ⟨b, 1, none⟩ = some (.int .i64 f)) (x2 : w.cell? ⟨b, 2, none⟩ = some (.int .i64 t))
    (y0 : w.frozen? ⟨b, 0, none⟩ = false) (y1 : w.frozen? ⟨b, 1, none⟩ = false) (y2 : w.frozen? ⟨b, 2, none⟩ = false) (g' f' t' : Int) :
    LeftAt (((w.setCell ⟨b, 0, none⟩ (.int .i64 g')).setCell ⟨b, 1, none⟩ (.int .i64 f')).setCell ⟨b, 2, none⟩ (.int .i64 t')) b g' f' t' := by
  have n01 : (⟨b, 0, none⟩ : Addr) ≠ ⟨b, 1, none⟩ := by simp
  have n02 : (⟨b, 0, none⟩ : Addr) ≠ ⟨b, 2, none⟩ := by simp
  have n12 : (⟨b, 1, none⟩ : Addr) ≠ ⟨b, 2, none⟩ := by simp
  refine ⟨by simpa using hz, ?_, ?_, ?_, ?_, ?_, ?_⟩
  · rw [World.cell?_setCell_other _ _ _ _ (by first | exact n02 | exact n02.symm), World.cell?_setCell_other _ _ _ _ (by first | exact n01 | exact n01.symm)]
    exact World.cell?_setCell_same _ _ _ x0
  · rw [World.cell?_setCell_other _ _ _ _ (by first | exact n12 | exact n12.symm)]
    exact World.cell?_setCell_same _ _ _ (by rw [World.cell?_setCell_other _ _ _ _ (by first | exact n01 | exact n01.symm)]; exact x1)
  · exact World.cell?_setCell_same _ _ _ (by rw [World.cell?_setCell_other _ _ _ _ (by first | exact n12 | exact n12.symm), World.cell?_setCell_other _ _ _ _ (by first | exact n02 | exact n02.symm)]; exact x2)
  all_goals simp [y0, y1, y2]

/-- What the lesser signs add, the first j of them. -/
def partR (t g f j : Int) : Int := if j = 0 then 0 else if j = 1 then manyI t (g - 1) f else manyI t (g - 1) f + manyI t g (f - 1)
theorem part_01 (t g f : Int) : partR t g f 1 = manyI t (g - 1) f := by simp [partR]
theorem part_12 (t g f : Int) : partR t g f 2 = manyI t (g - 1) f + manyI t g (f - 1) := by simp [partR]

end Go.Proofs.YtjadnfnpbacfdaaDoor

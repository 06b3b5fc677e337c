/- The text of a rule, read. -/
import Derived.Test.YticdhapbkfbhjaaRuT
import Derived.Test.YticdhapbkfbhjaaShelfB
import Derived.Lib.IndexAny
namespace Go.Proofs.Yticdhapbkfbhjaa
open Go.RowKit

def hasC (s : ByteArray) (c : UInt8) : Bool := (byt s).contains c
/-- The rule that a text would tell, and whether it does. -/
def parV (s : ByteArray) : Value := if str (ruT (hasC s 111) (hasC s 98) (hasC s 108)) = s then .tuple #[ruV (hasC s 111) (hasC s 98) (hasC s 108), .bool true] else .tuple #[ruV false false false, .bool false]
theorem ruT_has (o b l : Bool) : hasC (str (ruT o b l)) 111 = o ∧ hasC (str (ruT o b l)) 98 = b ∧ hasC (str (ruT o b l)) 108 = l := by
  unfold hasC
  rw [byt_str]
  cases o <;> cases b <;> cases l <;> decide
theorem set3 {W : World} {B : Nat} {a b c : Value} (x y z : Value) (h0 : W.cell? ⟨B, 0, none⟩ = some a) (h1 : W.cell? ⟨B, 1, none⟩ = some b) (h2 : W.cell? ⟨B, 2, none⟩ = some c) :
    (((W.setCell ⟨B, 0, none⟩ x).setCell ⟨B, 1, none⟩ y).setCell ⟨B, 2, none⟩ z).cell? ⟨B, 0, none⟩ = some x ∧ (((W.setCell ⟨B, 0, none⟩ x).setCell ⟨B, 1, none⟩ y).setCell ⟨B, 2, none⟩ z).cell? ⟨B, 1, none⟩ = some y ∧
      (((W.setCell ⟨B, 0, none⟩ x).setCell ⟨B, 1, none⟩ y).setCell ⟨B, 2, none⟩ z).cell? ⟨B, 2, none⟩ = some z := by
  refine ⟨?_, ?_, ?_⟩
  · rw [World.cell?_setCell_other _ _ _ _ (by simp), World.cell?_setCell_other _ _ _ _ (by simp), World.cell?_setCell_same _ _ _ h0]
  · rw [World.cell?_setCell_other _ _ _ _ (by simp), World.cell?_setCell_same _ _ _ (by rw [World.cell?_setCell_other _ _ _ _ (by simp)]; exact h1)]
  · rw [World.cell?_setCell_same _ _ _ (by rw [World.cell?_setCell_other _ _ _ _ (by simp), World.cell?_setCell_other _ _ _ _ (by simp)]; exact h2)]
/-- A rule's block, whole. -/
def BlU (W : World) (B : Nat) (x y z : Value) : Prop := W.heap[B]? = some (.cells #[x, y, z] 46 (0, 0))
theorem BlU.new (W : World) (x y z : Value) : BlU (W.alloc (.cells #[x, y, z] 46)) W.heap.size x y z := heap_alloc_new W _
theorem BlU.alloc {W : World} {B : Nat} {x y z : Value} (h : BlU W B x y z) (o : Obj) : BlU (W.alloc o) B x y z := (Below.heap_alloc W o B (Array.getElem?_eq_some_iff.1 h).1).trans h
theorem BlU.below {W W' : World} {B : Nat} {x y z : Value} (h : BlU W B x y z) (hb : Below W.heap.size W W') : BlU W' B x y z := (hb.block B (Array.getElem?_eq_some_iff.1 h).1).trans h
theorem BlU.all {W : World} {B : Nat} {x y z : Value} (h : BlU W B x y z) : W.cell? ⟨B, 0, none⟩ = some x ∧ W.cell? ⟨B, 1, none⟩ = some y ∧ W.cell? ⟨B, 2, none⟩ = some z ∧ W.frozen? ⟨B, 0, none⟩ = false ∧ W.frozen? ⟨B, 1, none⟩ = false ∧ W.frozen? ⟨B, 2, none⟩ = false := by
  have h : W.heap[B]? = _ := h
  refine ⟨?_, ?_, ?_, ?_, ?_, ?_⟩ <;> simp [World.cell?, World.frozen?, h]
theorem eq_bytes (a b : ByteArray) : (a.toList == b.toList) = decide (a = b) := by
  rw [Lib.toList_data, Lib.toList_data]
  by_cases h : a = b
  · subst h; simp
  · rw [decide_eq_false h, beq_eq_false_iff_ne]
    intro e
    exact h (by rw [← str_byt a, ← str_byt b]; exact congrArg str e)

/-- No rule of the first ones has this text. -/
def NoneB (s : ByteArray) (k : Nat) : Prop := ∀ j, j < k → str (ruT (j % 2 == 1) (j / 2 % 2 == 1) (j / 4 % 2 == 1)) ≠ s
theorem noneB_next {s : ByteArray} {k : Nat} (h : NoneB s k) (h2 : str (ruT (k % 2 == 1) (k / 2 % 2 == 1) (k / 4 % 2 == 1)) ≠ s) : NoneB s (k + 1) := by
  intro j hj
  by_cases e : j = k
  · subst e; exact h2
  · exact h j (by omega)
theorem par_yes {s : ByteArray} {o b l : Bool} (h : str (ruT o b l) = s) : parV s = .tuple #[ruV o b l, .bool true] := by
  obtain ⟨h1, h2, h3⟩ := ruT_has o b l
  rw [h] at h1 h2 h3
  unfold parV
  rw [h1, h2, h3, if_pos h]
theorem par_no {s : ByteArray} (h : NoneB s 8) : parV s = .tuple #[ruV false false false, .bool false] := by
  unfold parV
  rw [if_neg]
  generalize hasC s 111 = o
  generalize hasC s 98 = b
  generalize hasC s 108 = l
  have h0 := h 0 (by decide)
  have h1 := h 1 (by decide)
  have h2 := h 2 (by decide)
  have h3 := h 3 (by decide)
  have h4 := h 4 (by decide)
  have h5 := h 5 (by decide)
  have h6 := h 6 (by decide)
  have h7 := h 7 (by decide)
  cases o <;> cases b <;> cases l
  · exact h0
  · exact h4
  · exact h2
  · exact h6
  · exact h1
  · exact h5
  · exact h3
  · exact h7

end Go.Proofs.Yticdhapbkfbhjaa

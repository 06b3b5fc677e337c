/- Contracts: plays, and the laws' copies of lists of moves. -/
import Derived.Test.YticdhapbkfbhjabMarks
import Derived.Deep.SlicePairs
namespace Go.Proofs.Yticdhapbkfbhjab
open Go.RowKit

/-- A slice's address leads to a list of moves, wherever it begins. -/
def MvIn (w : World) (A : Option Addr) (l : List (Int × Int)) : Prop :=
  ∀ k (h : k < l.length), ∃ g o, A = some ⟨g, o, none⟩ ∧ g < w.heap.size ∧ w.cell? ⟨g, o + k * 2, none⟩ = some (.int .i64 l[k].1) ∧ w.cell? ⟨g, o + k * 2 + 1, none⟩ = some (.int .i64 l[k].2)
theorem MvIn.below {w w' : World} {A : Option Addr} {l : List (Int × Int)} (h : MvIn w A l) (hb : Below w.heap.size w w') : MvIn w' A l := by
  intro k hk
  obtain ⟨g, o, a, b, c, d⟩ := h k hk
  exact ⟨g, o, a, Nat.lt_of_lt_of_le b hb.size, (hb.cell (p := ⟨g, o + k * 2, none⟩) b).trans c, (hb.cell (p := ⟨g, o + k * 2 + 1, none⟩) b).trans d⟩

theorem made_two (n : Nat) : (madeCells (Value.agg #[.int .i64 0, .int .i64 0]).cells (n * 2)).toList = flat (List.replicate n ((0 : Int), (0 : Int))) := by
  have hz : (Value.agg #[.int .i64 0, .int .i64 0]).cells = #[.int .i64 0, .int .i64 0] := rfl
  rw [hz]
  apply List.ext_getElem?
  intro i
  by_cases hi : i < n * 2
  · have f : (flat (List.replicate n ((0 : Int), (0 : Int))))[i]? = some (.int .i64 0) := by
      have h := flat_at (List.replicate n ((0 : Int), (0 : Int))) (i / 2) (by simp; omega)
      rw [List.getElem_replicate] at h
      rcases Nat.mod_two_eq_zero_or_one i with h0 | h0
      · rw [show i = i / 2 * 2 by omega]; exact h.1
      · rw [show i = i / 2 * 2 + 1 by omega]; exact h.2
    rw [f]
    simp [madeCells, hi]
    rcases Nat.mod_two_eq_zero_or_one i with h0 | h0 <;> simp [h0]
  · have l1 : (madeCells #[Value.int .i64 0, .int .i64 0] (n * 2)).toList.length ≤ i := by simp [madeCells]; omega
    have l2 : (flat (List.replicate n ((0 : Int), (0 : Int)))).length ≤ i := by rw [flat_len]; simp; omega
    rw [List.getElem?_eq_none l1, List.getElem?_eq_none l2]

end Go.Proofs.Yticdhapbkfbhjab

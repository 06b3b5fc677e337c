/- Contract: the model's rows of a board. -/
import Derived.Test.YtjadnfnpbacfdaaDoorBdB
namespace Go.Proofs.YtjadnfnpbacfdaaDoor
open Go.RowKit

theorem spl_pos (l : List UInt8) : 0 < (spl l).length := List.length_pos_iff.2 (spl_ne l)
theorem spl_head (l : List UInt8) : (spl l).headD [] = (spl l)[0]'(spl_pos l) := by
  suffices h : ∀ (R : List (List UInt8)) (h : 0 < R.length), R.headD [] = R[0] from h _ _
  intro R h
  cases R with
  | nil => simp at h
  | cons a R => rfl
/-- A row's test, on the text itself. -/
theorem rowOk_str (w : Nat) (r : List UInt8) : rowOk w r = (goodL (str r) && decide ((str r).size ≤ 5) && decide ((str r).size = w)) := by
  unfold rowOk; rw [str_size]
theorem goodB_yes {l : List UInt8} (h5 : (spl l).length ≤ 5) (h : ∀ j (hj : j < (spl l).length), rowOk ((spl l)[0]'(spl_pos l)).length (spl l)[j] = true) : goodB l = true := by
  unfold goodB boOk
  rw [Bool.and_eq_true, decide_eq_true_iff, List.all_eq_true, spl_head]
  refine ⟨h5, fun r hr => ?_⟩
  obtain ⟨j, hj, rfl⟩ := List.getElem_of_mem hr
  exact h j hj
theorem goodB_no {l : List UInt8} (k : Nat) (hk : k < (spl l).length) (h : rowOk ((spl l)[0]'(spl_pos l)).length (spl l)[k] = false) : goodB l = false := by
  cases hg : goodB l
  · rfl
  · unfold goodB boOk at hg
    rw [Bool.and_eq_true, List.all_eq_true, spl_head] at hg
    rw [hg.2 _ (List.getElem_mem hk)] at h
    cases h
theorem goodB_many {l : List UInt8} (h : 5 < (spl l).length) : goodB l = false := by
  unfold goodB boOk
  rw [decide_eq_false (by omega)]
  rfl
theorem goodB_long {l : List UInt8} (h : 30 < l.length) : goodB l = false := by
  cases hg : goodB l
  · rfl
  · have := goodB_len hg; omega
/-- The answer: the rows, or none. -/
def BrP (gb : Bool) (R : List (List UInt8)) (w : World) (e : Ending) (w' : World) : Prop :=
  (gb = true ∧ ∃ A cap, e = .returned (.tuple #[.slice A R.length cap, .bool true]) ∧ R.length ≤ cap ∧ StAt w' A R ∧ Below w.heap.size w w') ∨
  (gb = false ∧ e = .returned (.tuple #[.slice none 0 0, .bool false]) ∧ Below w.heap.size w w')

end Go.Proofs.YtjadnfnpbacfdaaDoor

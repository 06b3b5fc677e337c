/- Contracts: the model's one move on a line. -/
import Derived.Test.YticdhapbkfbhjaaDoorMoveB
namespace Go.Proofs.YticdhapbkfbhjaaDoor
open Go.RowKit

/-- What the model asks of a move. -/
def canS (s : ByteArray) (f t : Int) : Prop := (0 ≤ f ∧ f < s.size) ∧ (0 ≤ t ∧ t < s.size) ∧ sgAt s t = 46 ∧
  ((sgAt s f = 84 ∧ (t = f + 1 ∨ (t = f + 1 + 1 ∧ sgAt s (f + 1) = 70))) ∨ (sgAt s f = 70 ∧ (t = f + -1 ∨ (t = f + -1 + -1 ∧ sgAt s (f + -1) = 84))))
theorem canM_iff (s : ByteArray) (f t : Int) : canM s f t = true ↔ canS s f t := by
  unfold canM canS
  simp only [Bool.and_eq_true, decide_eq_true_eq]
  constructor
  · rintro ⟨hne, ht⟩
    have hh : canM s f t = true := by simp [canM, hne, ← ht]
    obtain ⟨a, b, rfl, rfl, ha, hb, _⟩ := canM_in hh
    refine ⟨by omega, by omega, ?_⟩
    unfold mvTo at ht
    split at ht
    · rename_i h84
      split at ht
      · rename_i h1
        exact ⟨by rw [ht]; exact h1, .inl ⟨h84, .inl ht⟩⟩
      · split at ht
        · split at ht
          · rename_i h2 h3
            exact ⟨by rw [ht]; exact h3, .inl ⟨h84, .inr ⟨ht, h2⟩⟩⟩
          · exact absurd ht.symm hne
        · exact absurd ht.symm hne
    · split at ht
      · rename_i h70
        split at ht
        · rename_i h1
          exact ⟨by rw [ht]; exact h1, .inr ⟨h70, .inl ht⟩⟩
        · split at ht
          · split at ht
            · rename_i h2 h3
              exact ⟨by rw [ht]; exact h3, .inr ⟨h70, .inr ⟨ht, h2⟩⟩⟩
            · exact absurd ht.symm hne
          · exact absurd ht.symm hne
      · exact absurd ht.symm hne
  · rintro ⟨hf, ht, h46, ⟨h84, h⟩ | ⟨h70, h⟩⟩
    · rcases h with rfl | ⟨rfl, h2⟩
      · exact ⟨by omega, by simp [mvTo, h84, h46]⟩
      · exact ⟨by omega, by simp [mvTo, h84, h46, h2]⟩
    · rcases h with rfl | ⟨rfl, h2⟩
      · exact ⟨by omega, by simp [mvTo, h70, h46]⟩
      · exact ⟨by omega, by simp [mvTo, h70, h46, h2]⟩

theorem canM_not {s : ByteArray} {f t : Int} (h : ¬ canS s f t) : canM s f t = false := by
  rw [Bool.eq_false_iff]
  exact fun e => h ((canM_iff s f t).1 e)

end Go.Proofs.YticdhapbkfbhjaaDoor

/- Contracts: all moves on a line, the model's. -/
import Derived.Test.YtekmgfbmliakiaaMoves
import Derived.Lib.OthersKept
namespace Go.Proofs.Ytekmgfbmliakiaa
open Go.RowKit

theorem own_base {w : World} {b b' : Nat} {e : TypeId} {size n : Nat} {v : Value} {xs : List Value} (h : w.ownsRow b e size v n xs) (hb : b' ≤ b) : w.ownsRow b' e size v n xs := by
  refine ⟨h.1, ?_⟩
  rcases h.2 with h0 | ⟨g, cap, cur, hv, hg, rest⟩
  · exact .inl h0
  · exact .inr ⟨g, cap, cur, hv, by omega, rest⟩
theorem own_iterAt {w : World} {base : Nat} {e : TypeId} {size n : Nat} {v : Value} {xs : List Value} (h : w.ownsRow base e size v n xs) {k : Nat} (hk : k < base) (s : ByteArray) (pos : Nat) : (w.iterAt k s pos).ownsRow base e size v n xs := by
  refine ⟨h.1, ?_⟩
  rcases h.2 with h0 | ⟨g, cap, cur, hv, hg, hh, rest⟩
  · exact .inl h0
  · exact .inr ⟨g, cap, cur, hv, hg, by rw [Lib.iterAt_other w k g s pos (by omega)]; exact hh, rest⟩
theorem iterPos_of {w : World} {k : Nat} {s : ByteArray} {p : Nat} (h : w.heap[k]? = some (.stringIter s p)) : w.iterPos k = p := by simp [World.iterPos, h]
theorem lt_of_block {w : World} {k : Nat} {o : Obj} (h : w.heap[k]? = some o) : k < w.heap.size := by
  by_cases hk : k < w.heap.size
  · exact hk
  · rw [Array.getElem?_eq_none (by omega)] at h; cases h

/-- The moves of a kind. -/
def kindM (tt ff : Bool) (s : ByteArray) (f t : Int) : Bool := canM s f t && !(decide (sgAt s f = 84) && !tt) && !(decide (sgAt s f = 70) && !ff)
/-- The moves from a cell to the j cells from two cells left of it on. -/
def innL (s : ByteArray) (k j : Nat) : List (Int × Int) := if canM s k (mvTo s k) && decide (mvTo s k < (k : Int) - 2 + j) then [((k : Int), mvTo s k)] else []
theorem canM_to {s : ByteArray} {f t : Int} (h : canM s f t = true) : t = mvTo s f := by
  unfold canM at h
  simp only [Bool.and_eq_true, decide_eq_true_eq] at h
  exact h.2
theorem innL_zero (s : ByteArray) (k : Nat) : innL s k 0 = [] := by
  unfold innL
  cases h : canM s k (mvTo s k)
  · rfl
  · have := canM_far h
    rw [if_neg]
    simp
    omega
theorem innL_last (s : ByteArray) (k : Nat) : innL s k 5 = if canM s k (mvTo s k) then [((k : Int), mvTo s k)] else [] := by
  unfold innL
  cases h : canM s k (mvTo s k)
  · rfl
  · have := canM_far h
    rw [if_pos rfl, if_pos]
    simp
    omega
theorem innL_next (s : ByteArray) (k j : Nat) : innL s k (j + 1) = innL s k j ++ if canM s k ((k : Int) - 2 + j) then [((k : Int), (k : Int) - 2 + j)] else [] := by
  unfold innL
  cases h : canM s k ((k : Int) - 2 + j)
  · cases h2 : canM s k (mvTo s k)
    · rfl
    · have hne : mvTo s k ≠ (k : Int) - 2 + j := fun e => by rw [← e, h2] at h; cases h
      have e : decide (mvTo s k < (k : Int) - 2 + ((j + 1 : Nat) : Int)) = decide (mvTo s k < (k : Int) - 2 + j) := by
        rw [decide_eq_decide]; omega
      rw [e]
      simp
  · have e := canM_to h
    have h2 : canM s k (mvTo s k) = true := by rw [← e]; exact h
    rw [h2]
    have e1 : decide (mvTo s k < (k : Int) - 2 + ((j + 1 : Nat) : Int)) = true := by rw [decide_eq_true_iff]; omega
    have e2 : decide (mvTo s k < (k : Int) - 2 + (j : Int)) = false := by rw [decide_eq_false_iff_not]; omega
    rw [e1, e2, ← e]
    rfl
theorem innL_le (s : ByteArray) (k j : Nat) : (innL s k j).length ≤ 1 := by
  unfold innL
  split <;> simp

/-- The answer of the model: a list of moves in memory of the call's own. -/
def SpPost (w : World) (l : List (Int × Int)) (e : Ending) (w' : World) : Prop :=
  ∃ v, e = .returned v ∧ w'.ownsRow w.heap.size 36 2 v l.length (flat l) ∧ Below w.heap.size w w'

end Go.Proofs.Ytekmgfbmliakiaa

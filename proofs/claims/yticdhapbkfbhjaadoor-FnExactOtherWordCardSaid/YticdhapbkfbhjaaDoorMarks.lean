/- Contracts: the laws' own functions on lists of moves. -/
import Derived.Test.YticdhapbkfbhjaaDoorMoves
namespace Go.Proofs.YticdhapbkfbhjaaDoor
open Go.RowKit

/-- The cells of a slice's address hold a list of moves. -/
def MvAt (w : World) (A : Option Addr) (l : List (Int × Int)) : Prop :=
  ∀ k (h : k < l.length), ∃ g, A = some ⟨g, 0, none⟩ ∧ g < w.heap.size ∧ w.cell? ⟨g, k * 2, none⟩ = some (.int .i64 l[k].1) ∧ w.cell? ⟨g, k * 2 + 1, none⟩ = some (.int .i64 l[k].2)

theorem flat_at : ∀ (l : List (Int × Int)) (k : Nat) (h : k < l.length), (flat l)[k * 2]? = some (.int .i64 l[k].1) ∧ (flat l)[k * 2 + 1]? = some (.int .i64 l[k].2)
  | p :: l, 0, _ => by simp [flat]
  | p :: l, k + 1, h => by
    have ih := flat_at l k (by simpa using h)
    have e : flat (p :: l) = .int .i64 p.1 :: .int .i64 p.2 :: flat l := by simp [flat]
    rw [e]
    have e1 : (k + 1) * 2 = k * 2 + 1 + 1 := by omega
    rw [e1]
    simpa using ih

theorem MvAt.below {w w' : World} {A : Option Addr} {l : List (Int × Int)} (h : MvAt w A l) (hb : Below w.heap.size w w') : MvAt w' A l := by
  intro k hk
  obtain ⟨g, a, b, c, d⟩ := h k hk
  exact ⟨g, a, Nat.lt_of_lt_of_le b hb.size, (hb.cell (p := ⟨g, k * 2, none⟩) b).trans c, (hb.cell (p := ⟨g, k * 2 + 1, none⟩) b).trans d⟩

/-- The marks k, k + 1, ..: two for each of n moves. -/
def marks (k : Nat) (n : Nat) : List (Int × Int) := (List.range n).map fun (j : Nat) => (((k + 2 * j : Nat) : Int), ((k + 2 * j + 1 : Nat) : Int))
theorem marks_len (k n : Nat) : (marks k n).length = n := by simp [marks]
theorem marks_next (k n : Nat) : marks k (n + 1) = marks k n ++ [(((k + 2 * n : Nat) : Int), ((k + 2 * n + 1 : Nat) : Int))] := by
  simp [marks, List.range_succ]
theorem marks_at (k n j : Nat) (h : j < (marks k n).length) : (marks k n)[j] = (((k + 2 * j : Nat) : Int), ((k + 2 * j + 1 : Nat) : Int)) := by simp [marks]

theorem flat_set (l : List (Int × Int)) (j : Nat) (h : j < l.length) (a b : Int) :
    ((flat l).set (j * 2) (.int .i64 a)).set (j * 2 + 1) (.int .i64 b) = flat (l.set j (a, b)) := by
  induction l generalizing j with
  | nil => simp at h
  | cons q l ih =>
    have e : ∀ q : Int × Int, ∀ r, flat (q :: r) = .int .i64 q.1 :: .int .i64 q.2 :: flat r := by intro q r; simp [flat]
    rw [e]
    cases j with
    | zero => simp [e]
    | succ j =>
      have e1 : (j + 1) * 2 = j * 2 + 1 + 1 := by omega
      have ih := ih j (by simpa using h)
      rw [e1]
      simp only [List.set_cons_succ, e, ih]
theorem set_mid (A B : List (Int × Int)) (q p : Int × Int) (j : Nat) (h : A.length = j) : (A ++ q :: B).set j p = (A ++ [p]) ++ B := by
  subst h
  simp

/-- All blocks but one lie as they lay. -/
def FarB (row : Option Nat) (w w' : World) : Prop := w.heap.size ≤ w'.heap.size ∧ ∀ k, some k ≠ row → k < w.heap.size → w'.heap[k]? = w.heap[k]?
theorem FarB.refl (row : Option Nat) (w : World) : FarB row w w := ⟨Nat.le_refl _, fun _ _ _ => rfl⟩
theorem FarB.set {g : Nat} {w w' : World} (h : FarB (some g) w w') (o : Nat) (u : Value) : FarB (some g) w (w'.setCell ⟨g, o, none⟩ u) :=
  ⟨by have := h.1; simpa using this, fun k hk hlt => (Below.heap_setCell _ _ _ k (fun e => hk (by rw [e]))).trans (h.2 k hk hlt)⟩
theorem own_farB {w w' : World} {row : Option Nat} {base : Nat} {e : TypeId} {size n : Nat} {v : Value} {xs : List Value} (h : w.ownsRow base e size v n xs) (hf : FarB row w w') (hne : ∀ g, v.ownBlock = some g → some g ≠ row) : w'.ownsRow base e size v n xs := by
  refine ⟨h.1, ?_⟩
  rcases h.2 with h2 | ⟨g, cap, cur, rfl, hb, hg, r⟩
  · exact .inl h2
  · exact .inr ⟨g, cap, cur, rfl, hb, (hf.2 g (hne g rfl) (Array.getElem?_eq_some_iff.1 hg).1).trans hg, r⟩

end Go.Proofs.YticdhapbkfbhjaaDoor

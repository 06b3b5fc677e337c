/- Rows beside string iterators. -/
import Derived.Test.YtdcbjbmnkajjcaaDoorMoves
namespace Go.Proofs.YtdcbjbmnkajjcaaDoor
open Go.RowKit

/-- A row of one's own lies apart from an iterator. -/
theorem own_ne_iter {w : World} {base : Nat} {e : TypeId} {size n : Nat} {v : Value} {xs : List Value} (h : w.ownsRow base e size v n xs) {q p : Nat} {s : ByteArray} (hq : w.heap[q]? = some (.stringIter s p)) : v.ownBlock ≠ some q := by
  rcases h.2 with ⟨hv, _⟩ | ⟨g, cap, cur, rfl, hg, hh, rest⟩
  · rw [hv]; intro h; cases h
  · intro e
    have e : g = q := by injection e
    subst e
    rw [hh] at hq
    cases hq
theorem own_iter_any {w : World} {base : Nat} {e : TypeId} {size n : Nat} {v : Value} {xs : List Value} (h : w.ownsRow base e size v n xs) {q p : Nat} {s : ByteArray} (hq : w.heap[q]? = some (.stringIter s p)) (p' : Nat) : (w.iterAt q s p').ownsRow base e size v n xs := by
  have hne := own_ne_iter h hq
  refine ⟨h.1, ?_⟩
  rcases h.2 with h0 | ⟨g, cap, cur, rfl, hg, hh, rest⟩
  · exact .inl h0
  · exact .inr ⟨g, cap, cur, rfl, hg, by rw [Lib.iterAt_other w q g s p' (fun e => hne (by show some g = some q; rw [e]))]; exact hh, rest⟩
theorem good_asc {s : ByteArray} (hg : goodL s = true) (k : Nat) (hk : k < s.size) : s[k].toNat < 128 := by
  rcases sign_cases s[k] with h | h | h | h
  · rw [h]; decide
  · rw [h]; decide
  · rw [h]; decide
  · rw [good_sign hg k hk] at h; cases h

end Go.Proofs.YtdcbjbmnkajjcaaDoor

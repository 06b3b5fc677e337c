/- The library's reversal of moves, in place. -/
import Derived.Test.YtfiifjcjmnhbnaaDoorMove
import Derived.Test.YtfiifjcjmnhbnaaDoorMoves
import Derived.Test.YtfiifjcjmnhbnaaDoorSwF
namespace Go.Proofs.YtfiifjcjmnhbnaaDoor
open Go.RowKit

/-- What stands at place j after i exchanges from both ends. -/
def revG {α : Type} (d : α) (l : List α) (i j : Nat) : α := if j < i ∨ l.length < j + 1 + i then l.getD (l.length - 1 - j) d else l.getD j d
theorem revG_zero {α : Type} (d : α) (l : List α) (j : Nat) (h : j < l.length) : revG d l 0 j = l[j] := by
  unfold revG
  rw [if_neg (by omega)]
  simp [List.getD_eq_getElem?_getD, h]
theorem revG_end {α : Type} (d : α) (l : List α) (i j : Nat) (h : j < l.length) (hi : l.length ≤ i + i + 1) : revG d l i j = l.reverse.getD j d := by
  have e : l.reverse.getD j d = l.getD (l.length - 1 - j) d := by
    rw [List.getD_eq_getElem?_getD, List.getD_eq_getElem?_getD, List.getElem?_reverse h]
  rw [e]
  unfold revG
  split
  · rfl
  · have : l.length - 1 - j = j := by omega
    rw [this]
theorem revG_next {α : Type} (d : α) (l : List α) (i k j : Nat) (hik : i + k + 1 = l.length) (hlt : i < k) (h : j < l.length) :
    revG d l (i + 1) j = if j = k then revG d l i i else if j = i then revG d l i k else revG d l i j := by
  unfold revG
  by_cases e1 : j = k
  · subst e1
    rw [if_pos rfl, if_pos (by omega), if_neg (by omega)]
    congr 1; omega
  · rw [if_neg e1]
    by_cases e2 : j = i
    · subst e2
      rw [if_pos rfl, if_pos (by omega), if_neg (by omega)]
      congr 1; omega
    · rw [if_neg e2]
      by_cases e3 : j < i ∨ l.length < j + 1 + i
      · rw [if_pos e3, if_pos (by omega)]
      · rw [if_neg e3, if_neg (by omega)]
theorem own_setM {w : World} {base g n cap : Nat} {F : List (Int × Int)} (h : w.ownsRow base 55 2 (.slice (some ⟨g, 0, none⟩) n cap) n (flat F)) (k : Nat) (hk : k < F.length) (x y : Int) :
    ((w.setCell ⟨g, k * 2, none⟩ (.int .i64 x)).setCell ⟨g, k * 2 + 1, none⟩ (.int .i64 y)).ownsRow base 55 2 (.slice (some ⟨g, 0, none⟩) n cap) n (flat (F.set k (x, y))) := by
  rw [← flat_set F k hk]
  exact ((h.stored (k * 2) (.int .i64 x)).1.stored (k * 2 + 1) (.int .i64 y)).1
theorem own_cellM {w : World} {base g n cap : Nat} {F : List (Int × Int)} (h : w.ownsRow base 55 2 (.slice (some ⟨g, 0, none⟩) n cap) n (flat F)) (hn : F.length = n) (k : Nat) (hk : k < n) :
    w.cell? ⟨g, k * 2, none⟩ = some (.int .i64 (F.getD k (0, 0)).1) ∧ w.cell? ⟨g, k * 2 + 1, none⟩ = some (.int .i64 (F.getD k (0, 0)).2) ∧ w.frozen? ⟨g, k * 2, none⟩ = false ∧ w.frozen? ⟨g, k * 2 + 1, none⟩ = false := by
  obtain ⟨a, b⟩ := flat_at F k (by omega)
  have e : F.getD k (0, 0) = F[k]'(by omega) := by rw [List.getD_eq_getElem?_getD, List.getElem?_eq_getElem (by omega)]; rfl
  rw [e]
  exact ⟨(h.cellAt _ (by omega)).trans a, (h.cellAt _ (by omega)).trans b, h.frozenAt _, h.frozenAt _⟩

end Go.Proofs.YtfiifjcjmnhbnaaDoor
namespace Go.Proofs.YtfiifjcjmnhbnaaDoor
open Go.RowKit Go.Shelf Go.Maps

theorem rev_at (x : List UInt8) (k : Nat) (h : k < (mvL x).reverse.length) : ∃ a b : Nat, (mvL x).reverse[k].1 = a ∧ (mvL x).reverse[k].2 = b ∧ a < (str x).size ∧ b < (str x).size ∧ a ≠ b ∧ canM (str x) a b = true := by
  rw [List.getElem_reverse]
  exact mvL_at x _ _
end Go.Proofs.YtfiifjcjmnhbnaaDoor

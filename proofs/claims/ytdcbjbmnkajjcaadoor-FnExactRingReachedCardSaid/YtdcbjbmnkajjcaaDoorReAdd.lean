/- Contract: the model puts a text into a rising list. -/
import Derived.Test.YtdcbjbmnkajjcaaDoorSl
namespace Go.Proofs.YtdcbjbmnkajjcaaDoor
open Go.RowKit

theorem half_in (a b : Nat) (h : a < b) (hb : b ≤ 100000) : IntKind.i64.wrap ((a : Int) + (b : Int)) = ((a + b : Nat) : Int) ∧ (((a + b : Nat) : Int).tdiv 2 = (((a + b) / 2 : Nat) : Int)) := by
  constructor
  · rw [IntKind.wrap_i64]; omega
  · rw [Int.tdiv_eq_ediv_of_nonneg (by omega)]; omega
theorem rising_lt {l : List (List UInt8)} (h : Rising l) {i j : Nat} (hj : j < l.length) (hij : i < j) : l[i]'(by omega) < l[j] := List.pairwise_iff_getElem.1 h i j (by omega) hj hij

theorem empty_own (w : World) : (w.alloc (Obj.cells #[] 9)).ownsRow w.heap.size 9 1 (.slice (some ⟨w.heap.size, 0, none⟩) 0 0) 0 [] := World.ownsRow_made w #[] 0 (Nat.le_refl _) (by decide) rfl
theorem addr_at (g o j : Nat) : (⟨g, o, none⟩ : Addr).add j = ⟨g, o + j, none⟩ := by
  unfold Addr.add
  split
  · simp_all
  · rfl
theorem cells_txs {w : World} {g : Nat} {l : List (List UInt8)} (h : ∀ k (hk : k < l.length), w.cell? ⟨g, k, none⟩ = some (.string (str l[k]))) (o : Nat) :
    ∀ (m : List (List UInt8)), (∀ j (hj : j < m.length), ∃ h2 : o + j < l.length, m[j] = l[o + j]) → ∀ j u, (txs m)[j]? = some u → w.cell? ((⟨g, o, none⟩ : Addr).add j) = some u := by
  intro m hm j u hu
  rw [addr_at]
  have hj : j < m.length := by
    have := (List.getElem?_eq_some_iff.1 hu).1
    rwa [txs_len] at this
  obtain ⟨h2, e⟩ := hm j hj
  have e2 : (txs m)[j]? = some (.string (str m[j])) := by simp [txs, hj]
  rw [e2] at hu
  injection hu with hu
  rw [← hu, e]
  exact h (o + j) h2

end Go.Proofs.YtdcbjbmnkajjcaaDoor

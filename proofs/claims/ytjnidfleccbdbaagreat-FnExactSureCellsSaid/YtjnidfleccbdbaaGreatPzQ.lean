/- Contracts: how many solutions, whether it is one, the first one. -/
import Derived.Test.YtjnidfleccbdbaaGreatPzP
namespace Go.Proofs.YtjnidfleccbdbaaGreat
open Go.RowKit

theorem solOr_bad {n : Int} {l : List Cl} (h : goodP n l = false) : solOr n l = [] := by unfold solOr; rw [h]; rfl
theorem solOr_good {n : Int} {l : List Cl} (h : goodP n l = true) : solOr n l = solL n.toNat l := by unfold solOr; rw [h]; rfl
theorem solL_small {m : Nat} {cs : List Cl} (h15 : 1 ≤ m ∧ m ≤ 5) : (solL m cs).length ≤ 243 := by
  have h1 := solL_le m cs
  have h2 := grow_few h15
  rw [grow_len] at h2
  omega
theorem solOr_small (n : Int) (l : List Cl) : (solOr n l).length ≤ 243 := by
  cases h : goodP n l
  · rw [solOr_bad h]; simp
  · obtain ⟨m, rfl, h15⟩ := goodP_nat h
    rw [solOr_good h]
    exact solL_small h15
/-- The first text of a list, or none. -/
def firstV (L : List (List UInt8)) : Value := .tuple #[.string (str (L.headD [])), .bool (!L.isEmpty)]

end Go.Proofs.YtjnidfleccbdbaaGreat

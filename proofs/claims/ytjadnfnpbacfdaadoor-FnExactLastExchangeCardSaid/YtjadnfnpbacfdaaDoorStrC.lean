/- Contracts: the model's functions on lines, on. -/
import Derived.Test.YtjadnfnpbacfdaaDoorStrB
namespace Go.Proofs.YtjadnfnpbacfdaaDoor
open Go.RowKit

/-- What is known of a byte, in the walk's own form. -/
theorem byte_split (c : UInt8) :
    (c = 84 ∧ (c.toNat : Int) = 84) ∨ (c = 70 ∧ (c.toNat : Int) = 70) ∨
    ((c ≠ 84 ∧ c ≠ 70) ∧ ((c.toNat : Int) == 84) = false ∧ ((c.toNat : Int) == 70) = false) := by
  by_cases h1 : c = 84
  · subst h1; exact .inl ⟨rfl, rfl⟩
  · by_cases h2 : c = 70
    · subst h2; exact .inr (.inl ⟨rfl, rfl⟩)
    · exact .inr (.inr ⟨⟨h1, h2⟩, bne_u8 (b := 84) h1, bne_u8 (b := 70) h2⟩)

/-- How far all have to go, as the model reckons it. -/
def wayL (l : List UInt8) : Int := ((sumSt 84 (lastL l)).1 : Int) - (sumSt 84 l).1 + (sumSt 70 l).1 - (sumSt 70 (lastL l)).1

theorem sumSt_small (c : UInt8) (l : List UInt8) (h : l.length ≤ 100) : (sumSt c l).1 ≤ 10000 := by
  have hb := (sumSt_le c l).2
  have hq : l.length * l.length ≤ 100 * 100 := Nat.mul_le_mul h h
  omega

end Go.Proofs.YtjadnfnpbacfdaaDoor

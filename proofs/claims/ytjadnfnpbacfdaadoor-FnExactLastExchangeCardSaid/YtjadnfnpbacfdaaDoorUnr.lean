/- Contracts: the line with a rank. -/
import Derived.Test.YtjadnfnpbacfdaaDoorRankI
namespace Go.Proofs.YtjadnfnpbacfdaaDoor
open Go.RowKit

theorem many_sum (t g f : Int) (ht : 0 ≤ t) (hg : 0 ≤ g) (hf : 0 ≤ f) (h1 : 1 ≤ t + g + f) (h12 : t + g + f ≤ 12) :
    manyI t g f = manyI t (g - 1) f + manyI t g (f - 1) + manyI (t - 1) g f := by
  have h : ((List.range 13).all fun t => (List.range 13).all fun g => (List.range 13).all fun f => decide (t + g + f < 1) || decide (12 < t + g + f) ||
      manyI (t : Int) (g : Int) (f : Int) == manyI (t : Int) ((g : Int) - 1) (f : Int) + manyI (t : Int) (g : Int) ((f : Int) - 1) + manyI ((t : Int) - 1) (g : Int) (f : Int)) = true := by decide +kernel
  obtain ⟨x, rfl⟩ := Int.eq_ofNat_of_zero_le ht
  obtain ⟨y, rfl⟩ := Int.eq_ofNat_of_zero_le hg
  obtain ⟨z, rfl⟩ := Int.eq_ofNat_of_zero_le hf
  rw [List.all_eq_true] at h
  have a := h x (List.mem_range.2 (by omega))
  rw [List.all_eq_true] at a
  have b := a y (List.mem_range.2 (by omega))
  rw [List.all_eq_true] at b
  have c := b z (List.mem_range.2 (by omega))
  have e1 : decide (x + y + z < 1) = false := by rw [decide_eq_false_iff_not]; omega
  have e2 : decide (12 < x + y + z) = false := by rw [decide_eq_false_iff_not]; omega
  rw [e1, e2, Bool.false_or, Bool.false_or, beq_iff_eq] at c
  exact c
theorem many_pos {t g f : Int} (h : 0 < manyI t g f) : 0 ≤ t ∧ 0 ≤ g ∧ 0 ≤ f := by
  unfold manyI at h
  split at h <;> omega

/-- The line of n signs with a rank. -/
def unr : Nat → Int → Int → Int → Int → List UInt8
  | 0, _, _, _, _ => []
  | n + 1, t, g, f, r =>
    if r < manyI t (g - 1) f then 46 :: unr n t (g - 1) f r
    else if r < manyI t (g - 1) f + manyI t g (f - 1) then 70 :: unr n t g (f - 1) (r - manyI t (g - 1) f)
    else 84 :: unr n (t - 1) g f (r - (manyI t (g - 1) f + manyI t g (f - 1)))
theorem unr_len : ∀ (n : Nat) (t g f r : Int), (unr n t g f r).length = n
  | 0, _, _, _, _ => rfl
  | n + 1, t, g, f, r => by
    unfold unr
    split
    · simp [unr_len n]
    · split <;> simp [unr_len n]

end Go.Proofs.YtjadnfnpbacfdaaDoor

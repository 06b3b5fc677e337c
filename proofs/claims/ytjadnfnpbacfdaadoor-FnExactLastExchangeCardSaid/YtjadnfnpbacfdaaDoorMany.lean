/- How many lines there are: the model's reckoning and the program's. -/
import Derived.Test.YtjadnfnpbacfdaaDoorSpecA
namespace Go.Proofs.YtjadnfnpbacfdaaDoor
open Go.RowKit

/-- Behind k rounds: each multiplies by one more and divides by how many there have been. -/
def rnd (c l : Nat) : Nat → Nat
  | 0 => l
  | k + 1 => rnd c l k * (c + (k + 1)) / (k + 1)
theorem rnd_le (c l k : Nat) (h : c + k ≤ 12) : rnd c l k ≤ l * 12 ^ k := by
  induction k with
  | zero => simp [rnd]
  | succ k ih =>
    have ih := ih (by omega)
    simp only [rnd]
    refine Nat.le_trans (Nat.div_le_self _ _) ?_
    calc rnd c l k * (c + (k + 1)) ≤ (l * 12 ^ k) * 12 := Nat.mul_le_mul ih (by omega)
      _ = l * 12 ^ (k + 1) := by rw [Nat.pow_succ, Nat.mul_assoc]
def manyN (t g f : Nat) : Nat := rnd g (rnd (g + f) 1 t) f
def linesN (g f t : Nat) : Nat := rnd (g + f) (rnd g (rnd 0 1 g) f) t
/-- The model's number, with numbers that may be less than 0. -/
def manyI (t g f : Int) : Int := if t < 0 ∨ g < 0 ∨ f < 0 then 0 else manyN t.toNat g.toNat f.toNat
theorem lines_many : ∀ g f t : Nat, g + f + t ≤ 12 → linesN g f t = manyN t g f := by
  have h : ((List.range 13).all fun g => (List.range 13).all fun f => (List.range 13).all fun t => decide (12 < g + f + t) || linesN g f t == manyN t g f) = true := by decide +kernel
  intro g f t hs
  rw [List.all_eq_true] at h
  have h1 := h g (List.mem_range.2 (by omega))
  rw [List.all_eq_true] at h1
  have h2 := h1 f (List.mem_range.2 (by omega))
  rw [List.all_eq_true] at h2
  have h3 := h2 t (List.mem_range.2 (by omega))
  simpa [Nat.not_lt.2 hs] using h3
theorem pow12 (k : Nat) (h : k ≤ 12) : 12 ^ k ≤ 8916100448256 := Nat.le_trans (Nat.pow_le_pow_right (by omega) h) (by decide)
theorem rnd_one (c k : Nat) (h : c + k ≤ 12) : rnd c 1 k ≤ 8916100448256 := by
  have := rnd_le c 1 k h
  have := pow12 k (by omega)
  omega
theorem manyN_part (t g f k : Nat) (h : t + g + f ≤ 12) (hk : k ≤ f) : rnd g (rnd (g + f) 1 t) k ≤ 8916100448256 := by
  have h1 := rnd_le (g + f) 1 t (by omega)
  have h2 := rnd_le g (rnd (g + f) 1 t) k (by omega)
  have h3 := pow12 (t + k) (by omega)
  rw [Nat.pow_add] at h3
  have h4 : rnd (g + f) 1 t * 12 ^ k ≤ 12 ^ t * 12 ^ k := Nat.mul_le_mul_right _ (by omega)
  omega

theorem Tryd.cellsC : Tryd.prog.cellsOf 136 = 3 := by kernel_rfl

theorem lines_part (g f t k : Nat) (h : g + f + t ≤ 12) (hk : k ≤ t) : rnd (g + f) (rnd g (rnd 0 1 g) f) k ≤ 8916100448256 ∧ rnd g (rnd 0 1 g) f ≤ 8916100448256 ∧ rnd 0 1 g ≤ 8916100448256 := by
  have a1 := rnd_le 0 1 g (by omega)
  have a2 := rnd_le g (rnd 0 1 g) f (by omega)
  have a3 := rnd_le (g + f) (rnd g (rnd 0 1 g) f) k (by omega)
  have p := pow12 (g + f + k) (by omega)
  have q := pow12 (g + f) (by omega)
  have r := pow12 g (by omega)
  rw [Nat.pow_add, Nat.pow_add] at p
  rw [Nat.pow_add] at q
  have b1 : rnd 0 1 g * 12 ^ f ≤ 12 ^ g * 12 ^ f := Nat.mul_le_mul_right _ (by omega)
  have b2 : rnd g (rnd 0 1 g) f * 12 ^ k ≤ (12 ^ g * 12 ^ f) * 12 ^ k := Nat.mul_le_mul_right _ (by omega)
  omega

/-- The part of the reckoning that lies behind j of the three numbers: how many cells, how many lines. -/
def linesTo (g f t : Nat) (j : Int) : Nat × Nat := if j = 0 then (0, 1) else if j = 1 then (g, rnd 0 1 g) else if j = 2 then (g + f, rnd g (rnd 0 1 g) f) else (g + f + t, linesN g f t)
def numAt (g f t : Nat) (j : Int) : Nat := if j = 0 then g else if j = 1 then f else t

theorem linesTo_next (g f t : Nat) (j : Int) (h : j = 0 ∨ j = 1 ∨ j = 2) : linesTo g f t (j + 1) = ((linesTo g f t j).1 + numAt g f t j, rnd (linesTo g f t j).1 (linesTo g f t j).2 (numAt g f t j)) := by
  rcases h with rfl | rfl | rfl
  · simp [linesTo, numAt]
  · simp [linesTo, numAt]
  · simp [linesTo, numAt, linesN]
theorem linesTo_le (g f t : Nat) (hs : g + f + t ≤ 12) (j : Int) (h : j = 0 ∨ j = 1 ∨ j = 2) : (linesTo g f t j).1 + numAt g f t j ≤ 12 ∧ ∀ k, k ≤ numAt g f t j → rnd (linesTo g f t j).1 (linesTo g f t j).2 k ≤ 8916100448256 := by
  rcases h with rfl | rfl | rfl
  · refine ⟨by simp [linesTo, numAt]; omega, fun k hk => ?_⟩
    simp [linesTo, numAt] at hk ⊢
    exact rnd_one 0 k (by omega)
  · refine ⟨by simp [linesTo, numAt]; omega, fun k hk => ?_⟩
    simp [linesTo, numAt] at hk ⊢
    exact (lines_part g k 0 0 (by omega) (by omega)).2.1
  · refine ⟨by simp [linesTo, numAt]; omega, fun k hk => ?_⟩
    simp [linesTo, numAt] at hk ⊢
    exact (lines_part g f t k (by omega) hk).1

end Go.Proofs.YtjadnfnpbacfdaaDoor

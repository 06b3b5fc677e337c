/- Contracts and walks: the numbers of exchanges. -/
import Derived.Test.YticdhapbkfbhjaaSpecA
namespace Go.Proofs.Yticdhapbkfbhjaa
open Go.RowKit

/-- Few toads, gaps and frogs. -/
def few (t g f : Int) : Bool := [t, g, f].all (inR · 0 8) && inR (t + g + f) 1 8
theorem few_iff (t g f : Int) : few t g f = true ↔ (0 ≤ t ∧ t ≤ 8) ∧ (0 ≤ g ∧ g ≤ 8) ∧ (0 ≤ f ∧ f ≤ 8) ∧ 1 ≤ t + g + f ∧ t + g + f ≤ 8 := by
  simp [few, inR, and_assoc]
theorem few_three {t g f : Int} (h : few t g f = true) : three t g f = true := by
  have := (few_iff t g f).1 h
  exact (three_iff t g f).2 (by omega)
theorem few_of {t g f : Int} (h : three t g f = true) : few t g f = decide (t + g + f ≤ 8) := by
  have := (three_iff t g f).1 h
  rw [Bool.eq_iff_iff, few_iff]
  simp
  omega
/-- How many moves an exchange has. -/
def exLen (t g f : Int) : Int := g * (t + f) + t * f
/-- There is an exchange. -/
def hasEx (t g f : Int) : Bool := decide (0 < g) || (t == 0) || (f == 0)
theorem mul_in {a b : Int} (n m : Int) (h1 : 0 ≤ a) (h2 : a ≤ n) (h3 : 0 ≤ b) (h4 : b ≤ m) : 0 ≤ a * b ∧ a * b ≤ n * m :=
  ⟨Int.mul_nonneg h1 h3, Int.mul_le_mul h2 h4 h3 (by omega)⟩

set_option maxHeartbeats 400000 in
theorem swNumbers_any (t g f : Int) (w : World) :
    Calls Try.prog 81 #[.int .i64 t, .int .i64 g, .int .i64 f] w fun e w' => e = .returned (.bool (few t g f)) ∧ Below w.heap.size w w' := by
  have hcell := Lib.hid (three_cells t g f w)
  cases ha : [t, g, f].all (inR · 0 8)
  · have hA := Lib.hid ha
    have h3 : Hid (few t g f = false) := by show _ = _; unfold few; rw [ha]; rfl
    clear ha
    go_enter Try.func81, Try.ntmps81
    go_wp2_with (go_at_call 102; refine (l1All_any _ 3 [t, g, f] _ _ _ (by simp) hcell.out).mono ?_; rintro e w' ⟨rfl, rfl⟩; rw [hA.out])
    go_ret
    exact ⟨congrArg (fun b => Ending.returned (.bool b)) h3.out.symm, (Below.refl _ _).alloc (Nat.le_refl _) _⟩
  · have hA := Lib.hid ha
    have h3 : Hid (few t g f = inR (t + g + f) 1 8) := by show _ = _; unfold few; rw [ha]; rfl
    have hb : (0 ≤ t ∧ t ≤ 8) ∧ (0 ≤ g ∧ g ≤ 8) ∧ (0 ≤ f ∧ f ≤ 8) := by simpa [inR] using ha
    clear ha
    obtain ⟨⟨_, _⟩, ⟨_, _⟩, ⟨_, _⟩⟩ := hb
    go_enter Try.func81, Try.ntmps81
    go_wp2_with (first | (go_at_call 102; refine (l1All_any _ 3 [t, g, f] _ _ _ (by simp) hcell.out).mono ?_; rintro e w' ⟨rfl, rfl⟩; rw [hA.out]) | (go_at_call 77; refine (l1In_any _ _ _ _).mono ?_; rintro e w' ⟨rfl, rfl⟩))
    go_ret
    exact ⟨congrArg (fun b => Ending.returned (.bool b)) h3.out.symm, (Below.refl _ _).alloc (Nat.le_refl _) _⟩

set_option maxHeartbeats 400000 in
theorem swapCounts_any (t g f : Int) (w : World) :
    Calls Try.prog 54 #[.int .i64 t, .int .i64 g, .int .i64 f] w fun e w' => e = .returned (.bool (few t g f)) ∧ w = w' := by
  cases hc : three t g f
  · have hC := Lib.hid hc
    have h3 : Hid (few t g f = false) := by
      show _ = _
      rw [Bool.eq_false_iff]
      intro h
      rw [few_three h] at hc
      cases hc
    clear hc
    go_enter Try.func54, Try.ntmps54
    go_wp2_with (go_at_call 84; refine (areCounts_any _ _ _ _).mono ?_; rintro e w' ⟨rfl, rfl⟩; rw [hC.out])
    go_ret
    exact ⟨congrArg (fun b => Ending.returned (.bool b)) h3.out.symm, rfl⟩
  · have hC := Lib.hid hc
    have h3 := Lib.hid (few_of hc)
    obtain ⟨⟨_, _⟩, ⟨_, _⟩, ⟨_, _⟩, _, _⟩ := (three_iff t g f).1 hc
    clear hc
    go_enter Try.func54, Try.ntmps54
    go_wp2_with (go_at_call 84; refine (areCounts_any _ _ _ _).mono ?_; rintro e w' ⟨rfl, rfl⟩; rw [hC.out])
    go_ret
    exact ⟨congrArg (fun b => Ending.returned (.bool b)) h3.out.symm, rfl⟩

theorem exLen_in {t g f : Int} (h : few t g f = true) : (0 ≤ g * (t + f) ∧ g * (t + f) ≤ 64) ∧ (0 ≤ t * f ∧ t * f ≤ 64) := by
  have := (few_iff t g f).1 h
  exact ⟨mul_in (n := 8) (m := 8) (by omega) (by omega) (by omega) (by omega), mul_in (n := 8) (m := 8) (by omega) (by omega) (by omega) (by omega)⟩

/-- The model's pair of length and whether there is one. -/
def lenPair (t g f : Int) : Value := .tuple #[.int .i64 (exLen t g f), .bool (hasEx t g f)]

theorem asks_no {t g f : Int} (h : few t g f = false) : (few t g f && hasEx t g f) = false := by rw [h]; rfl
theorem asks_ex {t g f : Int} (h : few t g f = true) : (few t g f && hasEx t g f) = hasEx t g f := by rw [h]; rfl

theorem asked_few {t g f : Int} (h : (few t g f && hasEx t g f) = true) : few t g f = true := by
  rw [Bool.and_eq_true] at h
  exact h.1
/-- The lines of slides are what is left without the jumps. -/
theorem slides_eq (t g f : Int) : exLen t g f - t * f = g * (t + f) := by unfold exLen; omega

/-- Two numbers of kinds, few together. -/
def few2 (t f : Int) : Bool := [t, f].all (inR · 0 8) && decide (t + f ≤ 8)
theorem few2_iff (t f : Int) : few2 t f = true ↔ (0 ≤ t ∧ t ≤ 8) ∧ (0 ≤ f ∧ f ≤ 8) ∧ t + f ≤ 8 := by
  simp [few2, inR, and_assoc]
theorem two_cells (t f : Int) (w : World) : ∀ (j : Nat),
  j < [t, f].length →
    (w.alloc (Obj.cells #[Value.int IntKind.i64 t, Value.int IntKind.i64 f] 3)).cell? { block := w.heap.size, off := j } =
      some (Value.int IntKind.i64 ([t, f].getD j 0)) := by
  intro j hj
  rw [World.cell?_alloc_new]
  match j, hj with
  | 0, _ => rfl
  | 1, _ => rfl

end Go.Proofs.Yticdhapbkfbhjaa

/- Contracts and walks: the numbers of exchanges. -/
import Derived.Test.YtmlffocbcfediaaSpecA
namespace Go.Proofs.Ytmlffocbcfediaa
open Go.RowKit

/-- Few toads, gaps and frogs. -/
def few (t g f : Int) : Bool := [t, g, f].all (inR · 0 8) && inR (t + g + f) 1 8
theorem few_iff (t g f : Int) : few t g f = true ↔ (0 ≤ t ∧ t ≤ 8) ∧ (0 ≤ g ∧ g ≤ 8) ∧ (0 ≤ f ∧ f ≤ 8) ∧ 1 ≤ t + g + f ∧ t + g + f ≤ 8 := by
  simp [few, inR, and_assoc]
theorem few_three {t g f : Int} (h : few t g f = true) : three t g f = true := by
  have := (few_iff t g f).1 h
  exact (three_iff t g f).2 (by omega)
theorem few_of {t g f : Int} (h : three t g f = true) : few t g f = decide (t + g + f ≤ 8) := by
  have := (three_iff t g f).1 h
  rw [Bool.eq_iff_iff, few_iff]
  simp
  omega
/-- How many moves an exchange has. -/
def exLen (t g f : Int) : Int := g * (t + f) + t * f
/-- There is an exchange. -/
def hasEx (t g f : Int) : Bool := decide (0 < g) || (t == 0) || (f == 0)
theorem mul_in {a b : Int} (n m : Int) (h1 : 0 ≤ a) (h2 : a ≤ n) (h3 : 0 ≤ b) (h4 : b ≤ m) : 0 ≤ a * b ∧ a * b ≤ n * m :=
  ⟨Int.mul_nonneg h1 h3, Int.mul_le_mul h2 h4 h3 (by omega)⟩

set_option maxHeartbeats 400000 in
theorem swapCounts_any (t g f : Int) (w : World) :
    Calls Try.prog 31 #[.int .i64 t, .int .i64 g, .int .i64 f] w fun e w' => e = .returned (.bool (few t g f)) ∧ w = w' := by
  cases hc : three t g f
  · have hC := Lib.hid hc
    have h3 : Hid (few t g f = false) := by
      show _ = _
      rw [Bool.eq_false_iff]
      intro h
      rw [few_three h] at hc
      cases hc
    clear hc
    go_enter Try.func31, Try.ntmps31
    go_wp2_with (go_at_call 23; refine (areCounts_any _ _ _ _).mono ?_; rintro e w' ⟨rfl, rfl⟩; rw [hC.out])
    go_ret
    exact ⟨congrArg (fun b => Ending.returned (.bool b)) h3.out.symm, rfl⟩
  · have hC := Lib.hid hc
    have h3 := Lib.hid (few_of hc)
    obtain ⟨⟨_, _⟩, ⟨_, _⟩, ⟨_, _⟩, _, _⟩ := (three_iff t g f).1 hc
    clear hc
    go_enter Try.func31, Try.ntmps31
    go_wp2_with (go_at_call 23; refine (areCounts_any _ _ _ _).mono ?_; rintro e w' ⟨rfl, rfl⟩; rw [hC.out])
    go_ret
    exact ⟨congrArg (fun b => Ending.returned (.bool b)) h3.out.symm, rfl⟩

theorem exLen_in {t g f : Int} (h : few t g f = true) : (0 ≤ g * (t + f) ∧ g * (t + f) ≤ 64) ∧ (0 ≤ t * f ∧ t * f ≤ 64) := by
  have := (few_iff t g f).1 h
  exact ⟨mul_in (n := 8) (m := 8) (by omega) (by omega) (by omega) (by omega), mul_in (n := 8) (m := 8) (by omega) (by omega) (by omega) (by omega)⟩

/-- The model's pair of length and whether there is one. -/
def lenPair (t g f : Int) : Value := .tuple #[.int .i64 (exLen t g f), .bool (hasEx t g f)]

theorem asks_no {t g f : Int} (h : few t g f = false) : (few t g f && hasEx t g f) = false := by rw [h]; rfl
theorem asks_ex {t g f : Int} (h : few t g f = true) : (few t g f && hasEx t g f) = hasEx t g f := by rw [h]; rfl

set_option maxHeartbeats 400000 in
theorem exLen_any (t g f : Int) (w : World) :
    Calls Try.prog 20 #[.int .i64 t, .int .i64 g, .int .i64 f] w fun e w' => e = .returned (intOr (few t g f && hasEx t g f) (exLen t g f)) ∧ w = w' := by
  cases hc : few t g f
  · have hC := Lib.hid hc
    have hR := Lib.hid (intOr_no (false && hasEx t g f) (exLen t g f) rfl)
    clear hc
    go_enter Try.func20, Try.ntmps20
    go_wp2_with (go_at_call 31; refine (swapCounts_any _ _ _ _).mono ?_; rintro e w' ⟨rfl, rfl⟩; rw [hC.out])
    go_ret2
    exact ⟨congrArg Ending.returned hR.out.symm, rfl⟩
  · have hC := Lib.hid hc
    obtain ⟨⟨_, _⟩, ⟨_, _⟩⟩ := exLen_in hc
    obtain ⟨⟨_, _⟩, ⟨_, _⟩, ⟨_, _⟩, _, _⟩ := (few_iff t g f).1 hc
    clear hc
    by_cases hg : g = 0
    · subst hg
      by_cases ht : t = 0
      · subst ht
        have hR : Hid (intOr (true && hasEx 0 0 f) (exLen 0 0 f) = .tuple #[.int .i64 0, .bool true]) := by show _ = _; simp [intOr, exLen, hasEx]
        go_enter Try.func20, Try.ntmps20
        go_wp2_with (go_at_call 31; refine (swapCounts_any _ _ _ _).mono ?_; rintro e w' ⟨rfl, rfl⟩; rw [hC.out])
        go_ret2
        exact ⟨congrArg Ending.returned hR.out.symm, rfl⟩
      · have ht1 : 0 < t := by omega
        by_cases hf : f = 0
        · subst hf
          have hR : Hid (intOr (true && hasEx t 0 0) (exLen t 0 0) = .tuple #[.int .i64 0, .bool true]) := by show _ = _; simp [intOr, exLen, hasEx]
          go_enter Try.func20, Try.ntmps20
          go_wp2_with (go_at_call 31; refine (swapCounts_any _ _ _ _).mono ?_; rintro e w' ⟨rfl, rfl⟩; rw [hC.out])
          go_ret2
          exact ⟨congrArg Ending.returned hR.out.symm, rfl⟩
        · have hf1 : 0 < f := by omega
          have hR : Hid (intOr (true && hasEx t 0 f) (exLen t 0 f) = .tuple #[.int .i64 0, .bool false]) := by show _ = _; simp [intOr, hasEx, ht, hf]
          clear ht hf
          go_enter Try.func20, Try.ntmps20
          go_wp2_with (go_at_call 31; refine (swapCounts_any _ _ _ _).mono ?_; rintro e w' ⟨rfl, rfl⟩; rw [hC.out])
          go_ret2
          exact ⟨congrArg Ending.returned hR.out.symm, rfl⟩
    · have hg1 : 0 < g := by omega
      have hg2 : (g == 0) = false := by simpa using hg
      have hR : Hid (intOr (true && hasEx t g f) (exLen t g f) = .tuple #[.int .i64 (g * (t + f) + t * f), .bool true]) := by show _ = _; simp [intOr, exLen, hasEx, hg1]
      go_enter Try.func20, Try.ntmps20
      go_wp2_with (go_at_call 31; refine (swapCounts_any _ _ _ _).mono ?_; rintro e w' ⟨rfl, rfl⟩; rw [hC.out])
      go_ret2
      exact ⟨congrArg Ending.returned hR.out.symm, rfl⟩

theorem asked_few {t g f : Int} (h : (few t g f && hasEx t g f) = true) : few t g f = true := by
  rw [Bool.and_eq_true] at h
  exact h.1
/-- The lines of slides are what is left without the jumps. -/
theorem slides_eq (t g f : Int) : exLen t g f - t * f = g * (t + f) := by unfold exLen; omega

/-- Two numbers of kinds, few together. -/
def few2 (t f : Int) : Bool := [t, f].all (inR · 0 8) && decide (t + f ≤ 8)
theorem few2_iff (t f : Int) : few2 t f = true ↔ (0 ≤ t ∧ t ≤ 8) ∧ (0 ≤ f ∧ f ≤ 8) ∧ t + f ≤ 8 := by
  simp [few2, inR, and_assoc]
theorem two_cells (t f : Int) (w : World) : ∀ (j : Nat),
  j < [t, f].length →
    (w.alloc (Obj.cells #[Value.int IntKind.i64 t, Value.int IntKind.i64 f] 3)).cell? { block := w.heap.size, off := j } =
      some (Value.int IntKind.i64 ([t, f].getD j 0)) := by
  intro j hj
  rw [World.cell?_alloc_new]
  match j, hj with
  | 0, _ => rfl
  | 1, _ => rfl

end Go.Proofs.Ytmlffocbcfediaa

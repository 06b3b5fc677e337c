/- Contracts and walks: the numbers of exchanges. -/
import Derived.Test.YtikhopheggiknaaSpecA
namespace Go.Proofs.Ytikhopheggiknaa
open Go.RowKit

/-- Few toads, gaps and frogs. -/
def few (t g f : Int) : Bool := [t, g, f].all (inR · 0 8) && inR (t + g + f) 1 8
theorem few_iff (t g f : Int) : few t g f = true ↔ (0 ≤ t ∧ t ≤ 8) ∧ (0 ≤ g ∧ g ≤ 8) ∧ (0 ≤ f ∧ f ≤ 8) ∧ 1 ≤ t + g + f ∧ t + g + f ≤ 8 := by
  simp [few, inR, and_assoc]
theorem few_three {t g f : Int} (h : few t g f = true) : three t g f = true := by
  have := (few_iff t g f).1 h
  exact (three_iff t g f).2 (by omega)
theorem few_of {t g f : Int} (h : three t g f = true) : few t g f = decide (t + g + f ≤ 8) := by
  have := (three_iff t g f).1 h
  rw [Bool.eq_iff_iff, few_iff]
  simp
  omega
/-- How many moves an exchange has. -/
def exLen (t g f : Int) : Int := g * (t + f) + t * f
/-- There is an exchange. -/
def hasEx (t g f : Int) : Bool := decide (0 < g) || (t == 0) || (f == 0)
theorem mul_in {a b : Int} (n m : Int) (h1 : 0 ≤ a) (h2 : a ≤ n) (h3 : 0 ≤ b) (h4 : b ≤ m) : 0 ≤ a * b ∧ a * b ≤ n * m :=
  ⟨Int.mul_nonneg h1 h3, Int.mul_le_mul h2 h4 h3 (by omega)⟩

set_option maxHeartbeats 400000 in
theorem swNumbers_any (t g f : Int) (w : World) :
    Calls Try.prog 77 #[.int .i64 t, .int .i64 g, .int .i64 f] w fun e w' => e = .returned (.bool (few t g f)) ∧ Below w.heap.size w w' := by
  have hcell := Lib.hid (three_cells t g f w)
  cases ha : [t, g, f].all (inR · 0 8)
  · have hA := Lib.hid ha
    have h3 : Hid (few t g f = false) := by show _ = _; unfold few; rw [ha]; rfl
    clear ha
    go_enter Try.func77, Try.ntmps77
    go_wp2_with (go_at_call 80; refine (l1All_any _ 3 [t, g, f] _ _ _ (by simp) hcell.out).mono ?_; rintro e w' ⟨rfl, rfl⟩; rw [hA.out])
    go_ret
    exact ⟨congrArg (fun b => Ending.returned (.bool b)) h3.out.symm, (Below.refl _ _).alloc (Nat.le_refl _) _⟩
  · have hA := Lib.hid ha
    have h3 : Hid (few t g f = inR (t + g + f) 1 8) := by show _ = _; unfold few; rw [ha]; rfl
    have hb : (0 ≤ t ∧ t ≤ 8) ∧ (0 ≤ g ∧ g ≤ 8) ∧ (0 ≤ f ∧ f ≤ 8) := by simpa [inR] using ha
    clear ha
    obtain ⟨⟨_, _⟩, ⟨_, _⟩, ⟨_, _⟩⟩ := hb
    go_enter Try.func77, Try.ntmps77
    go_wp2_with (first | (go_at_call 80; refine (l1All_any _ 3 [t, g, f] _ _ _ (by simp) hcell.out).mono ?_; rintro e w' ⟨rfl, rfl⟩; rw [hA.out]) | (go_at_call 118; refine (l1In_any _ _ _ _).mono ?_; rintro e w' ⟨rfl, rfl⟩))
    go_ret
    exact ⟨congrArg (fun b => Ending.returned (.bool b)) h3.out.symm, (Below.refl _ _).alloc (Nat.le_refl _) _⟩

set_option maxHeartbeats 400000 in
theorem swapCounts_any (t g f : Int) (w : World) :
    Calls Try.prog 79 #[.int .i64 t, .int .i64 g, .int .i64 f] w fun e w' => e = .returned (.bool (few t g f)) ∧ w = w' := by
  cases hc : three t g f
  · have hC := Lib.hid hc
    have h3 : Hid (few t g f = false) := by
      show _ = _
      rw [Bool.eq_false_iff]
      intro h
      rw [few_three h] at hc
      cases hc
    clear hc
    go_enter Try.func79, Try.ntmps79
    go_wp2_with (go_at_call 113; refine (areCounts_any _ _ _ _).mono ?_; rintro e w' ⟨rfl, rfl⟩; rw [hC.out])
    go_ret
    exact ⟨congrArg (fun b => Ending.returned (.bool b)) h3.out.symm, rfl⟩
  · have hC := Lib.hid hc
    have h3 := Lib.hid (few_of hc)
    obtain ⟨⟨_, _⟩, ⟨_, _⟩, ⟨_, _⟩, _, _⟩ := (three_iff t g f).1 hc
    clear hc
    go_enter Try.func79, Try.ntmps79
    go_wp2_with (go_at_call 113; refine (areCounts_any _ _ _ _).mono ?_; rintro e w' ⟨rfl, rfl⟩; rw [hC.out])
    go_ret
    exact ⟨congrArg (fun b => Ending.returned (.bool b)) h3.out.symm, rfl⟩

theorem exLen_in {t g f : Int} (h : few t g f = true) : (0 ≤ g * (t + f) ∧ g * (t + f) ≤ 64) ∧ (0 ≤ t * f ∧ t * f ≤ 64) := by
  have := (few_iff t g f).1 h
  exact ⟨mul_in (n := 8) (m := 8) (by omega) (by omega) (by omega) (by omega), mul_in (n := 8) (m := 8) (by omega) (by omega) (by omega) (by omega)⟩

/-- The model's pair of length and whether there is one. -/
def lenPair (t g f : Int) : Value := .tuple #[.int .i64 (exLen t g f), .bool (hasEx t g f)]

set_option maxHeartbeats 400000 in
theorem swLength_any (t g f : Int) (w : World) (h : few t g f = true) :
    Calls Try.prog 78 #[.int .i64 t, .int .i64 g, .int .i64 f] w fun e w' => e = .returned (lenPair t g f) ∧ w = w' := by
  obtain ⟨⟨_, _⟩, ⟨_, _⟩⟩ := exLen_in h
  obtain ⟨⟨_, _⟩, ⟨_, _⟩, ⟨_, _⟩, _, _⟩ := (few_iff t g f).1 h
  clear h
  by_cases hg : 0 < g
  · have hR : Hid (lenPair t g f = .tuple #[.int .i64 (g * (t + f) + t * f), .bool true]) := by show _ = _; simp [lenPair, exLen, hasEx, hg]
    go_enter Try.func78, Try.ntmps78
    go_wp2
    go_ret2
    exact ⟨congrArg Ending.returned hR.out.symm, rfl⟩
  · obtain rfl : g = 0 := by omega
    by_cases ht : t = 0
    · subst ht
      have hR : Hid (lenPair 0 0 f = .tuple #[.int .i64 0, .bool true]) := by show _ = _; simp [lenPair, exLen, hasEx]
      go_enter Try.func78, Try.ntmps78
      go_wp2
      go_ret2
      exact ⟨congrArg Ending.returned hR.out.symm, rfl⟩
    · have hR : Hid (lenPair t 0 f = .tuple #[.int .i64 (t * f), .bool (f == 0)]) := by show _ = _; simp [lenPair, exLen, hasEx, ht]
      have ht2 : (t == 0) = false := by simpa using ht
      go_enter Try.func78, Try.ntmps78
      go_wp2
      go_ret2
      exact ⟨congrArg Ending.returned hR.out.symm, rfl⟩

theorem asks_no {t g f : Int} (h : few t g f = false) : (few t g f && hasEx t g f) = false := by rw [h]; rfl
theorem asks_ex {t g f : Int} (h : few t g f = true) : (few t g f && hasEx t g f) = hasEx t g f := by rw [h]; rfl

set_option maxHeartbeats 400000 in
theorem sExLen_any (t g f : Int) (w : World) :
    Calls Try.prog 13 #[.int .i64 t, .int .i64 g, .int .i64 f] w fun e w' => e = .returned (intOr (few t g f && hasEx t g f) (exLen t g f)) ∧ Below w.heap.size w w' := by
  cases hc : few t g f
  · have hC := Lib.hid hc
    have hR := Lib.hid (intOr_no (false && hasEx t g f) (exLen t g f) rfl)
    clear hc
    go_enter Try.func13, Try.ntmps13
    go_wp2_with fail
    refine (swNumbers_any _ _ _ _).mono ?_
    rintro e w1 ⟨rfl, hb1⟩
    rw [hC.out]
    go_wp2
    go_ret2
    exact ⟨congrArg Ending.returned hR.out.symm, hb1⟩
  · have hC := Lib.hid hc
    have hlen := fun wx => swLength_any t g f wx hc
    have hL := Lib.hid hlen
    clear hc hlen
    cases hx : hasEx t g f
    · have hR := Lib.hid (intOr_no (true && false) (exLen t g f) rfl)
      have hP : Hid (lenPair t g f = .tuple #[.int .i64 (exLen t g f), .bool false]) := by show _ = _; simp [lenPair, hx]
      clear hx
      go_enter Try.func13, Try.ntmps13
      go_wp2_with fail
      refine (swNumbers_any _ _ _ _).mono ?_
      rintro e w1 ⟨rfl, hb1⟩
      rw [hC.out]
      go_wp2_with fail
      refine (hL.out _).mono ?_
      rintro e w' ⟨rfl, rfl⟩
      rw [hP.out]
      go_wp2
      go_ret2
      exact ⟨congrArg Ending.returned hR.out.symm, hb1⟩
    · have hR := Lib.hid (intOr_yes (true && true) (exLen t g f) rfl)
      have hP : Hid (lenPair t g f = .tuple #[.int .i64 (exLen t g f), .bool true]) := by show _ = _; simp [lenPair, hx]
      clear hx
      go_enter Try.func13, Try.ntmps13
      go_wp2_with fail
      refine (swNumbers_any _ _ _ _).mono ?_
      rintro e w1 ⟨rfl, hb1⟩
      rw [hC.out]
      go_wp2_with fail
      refine (hL.out _).mono ?_
      rintro e w' ⟨rfl, rfl⟩
      rw [hP.out]
      go_wp2
      go_ret2
      exact ⟨congrArg Ending.returned hR.out.symm, hb1⟩

set_option maxHeartbeats 400000 in
theorem exLen_any (t g f : Int) (w : World) :
    Calls Try.prog 14 #[.int .i64 t, .int .i64 g, .int .i64 f] w fun e w' => e = .returned (intOr (few t g f && hasEx t g f) (exLen t g f)) ∧ w = w' := by
  cases hc : few t g f
  · have hC := Lib.hid hc
    have hR := Lib.hid (intOr_no (false && hasEx t g f) (exLen t g f) rfl)
    clear hc
    go_enter Try.func14, Try.ntmps14
    go_wp2_with (go_at_call 79; refine (swapCounts_any _ _ _ _).mono ?_; rintro e w' ⟨rfl, rfl⟩; rw [hC.out])
    go_ret2
    exact ⟨congrArg Ending.returned hR.out.symm, rfl⟩
  · have hC := Lib.hid hc
    obtain ⟨⟨_, _⟩, ⟨_, _⟩⟩ := exLen_in hc
    obtain ⟨⟨_, _⟩, ⟨_, _⟩, ⟨_, _⟩, _, _⟩ := (few_iff t g f).1 hc
    clear hc
    by_cases hg : g = 0
    · subst hg
      by_cases ht : t = 0
      · subst ht
        have hR : Hid (intOr (true && hasEx 0 0 f) (exLen 0 0 f) = .tuple #[.int .i64 0, .bool true]) := by show _ = _; simp [intOr, exLen, hasEx]
        go_enter Try.func14, Try.ntmps14
        go_wp2_with (go_at_call 79; refine (swapCounts_any _ _ _ _).mono ?_; rintro e w' ⟨rfl, rfl⟩; rw [hC.out])
        go_ret2
        exact ⟨congrArg Ending.returned hR.out.symm, rfl⟩
      · have ht1 : 0 < t := by omega
        by_cases hf : f = 0
        · subst hf
          have hR : Hid (intOr (true && hasEx t 0 0) (exLen t 0 0) = .tuple #[.int .i64 0, .bool true]) := by show _ = _; simp [intOr, exLen, hasEx]
          go_enter Try.func14, Try.ntmps14
          go_wp2_with (go_at_call 79; refine (swapCounts_any _ _ _ _).mono ?_; rintro e w' ⟨rfl, rfl⟩; rw [hC.out])
          go_ret2
          exact ⟨congrArg Ending.returned hR.out.symm, rfl⟩
        · have hf1 : 0 < f := by omega
          have hR : Hid (intOr (true && hasEx t 0 f) (exLen t 0 f) = .tuple #[.int .i64 0, .bool false]) := by show _ = _; simp [intOr, hasEx, ht, hf]
          clear ht hf
          go_enter Try.func14, Try.ntmps14
          go_wp2_with (go_at_call 79; refine (swapCounts_any _ _ _ _).mono ?_; rintro e w' ⟨rfl, rfl⟩; rw [hC.out])
          go_ret2
          exact ⟨congrArg Ending.returned hR.out.symm, rfl⟩
    · have hg1 : 0 < g := by omega
      have hg2 : (g == 0) = false := by simpa using hg
      have hR : Hid (intOr (true && hasEx t g f) (exLen t g f) = .tuple #[.int .i64 (g * (t + f) + t * f), .bool true]) := by show _ = _; simp [intOr, exLen, hasEx, hg1]
      go_enter Try.func14, Try.ntmps14
      go_wp2_with (go_at_call 79; refine (swapCounts_any _ _ _ _).mono ?_; rintro e w' ⟨rfl, rfl⟩; rw [hC.out])
      go_ret2
      exact ⟨congrArg Ending.returned hR.out.symm, rfl⟩

set_option maxHeartbeats 400000 in
theorem walk_FnExactExchangeLength (t : Int) (_ : (Lit.int .i64 t).wf = true) (g : Int) (_ : (Lit.int .i64 g).wf = true) (f : Int) (_ : (Lit.int .i64 f).wf = true) (w : World) :
    Calls Try.prog 3 #[.int .i64 t, .int .i64 g, .int .i64 f] w fun e w' => e = .returned (.bool true) ∧ Below w.heap.size w w' := by
  cases hc : few t g f && hasEx t g f
  all_goals
    first
      | have hR := Lib.hid (intOr_no (few t g f && hasEx t g f) (exLen t g f) hc)
      | have hR := Lib.hid (intOr_yes (few t g f && hasEx t g f) (exLen t g f) hc)
    clear hc
    go_enter Try.func3, Try.ntmps3
    go_wp2_with fail
    refine (sExLen_any _ _ _ _).mono ?_
    rintro e w1 ⟨rfl, hb1⟩
    rw [hR.out]
    go_wp2_with fail
    refine (exLen_any _ _ _ _).mono ?_
    rintro e w2 ⟨rfl, rfl⟩
    rw [hR.out]
    go_wp2
    go_ret
    exact ⟨rfl, hb1⟩

theorem asked_few {t g f : Int} (h : (few t g f && hasEx t g f) = true) : few t g f = true := by
  rw [Bool.and_eq_true] at h
  exact h.1
/-- The lines of slides are what is left without the jumps. -/
theorem slides_eq (t g f : Int) : exLen t g f - t * f = g * (t + f) := by unfold exLen; omega

set_option maxHeartbeats 400000 in
theorem sSlides_any (t g f : Int) (w : World) :
    Calls Try.prog 15 #[.int .i64 t, .int .i64 g, .int .i64 f] w fun e w' => e = .returned (intOr (few t g f && hasEx t g f) (exLen t g f - t * f)) ∧ Below w.heap.size w w' := by
  cases hc : few t g f && hasEx t g f
  · have hR := Lib.hid (intOr_no (few t g f && hasEx t g f) (exLen t g f) hc)
    clear hc
    go_enter Try.func15, Try.ntmps15
    go_wp2_with fail
    refine (sExLen_any _ _ _ _).mono ?_
    rintro e w1 ⟨rfl, hb1⟩
    rw [hR.out]
    go_wp2
    go_ret2
    exact ⟨rfl, hb1⟩
  · have hR := Lib.hid (intOr_yes (few t g f && hasEx t g f) (exLen t g f) hc)
    obtain ⟨⟨_, _⟩, ⟨_, _⟩⟩ := exLen_in (asked_few hc)
    have e1 : 0 ≤ exLen t g f := by unfold exLen; omega
    have e2 : exLen t g f ≤ 128 := by unfold exLen; omega
    clear hc
    go_enter Try.func15, Try.ntmps15
    go_wp2_with fail
    refine (sExLen_any _ _ _ _).mono ?_
    rintro e w1 ⟨rfl, hb1⟩
    rw [hR.out]
    go_wp2
    go_ret2
    exact ⟨rfl, hb1⟩

set_option maxHeartbeats 400000 in
theorem slides_any (t g f : Int) (w : World) :
    Calls Try.prog 16 #[.int .i64 t, .int .i64 g, .int .i64 f] w fun e w' => e = .returned (intOr (few t g f && hasEx t g f) (exLen t g f - t * f)) ∧ w = w' := by
  cases hc : few t g f && hasEx t g f
  · have hR := Lib.hid (intOr_no (few t g f && hasEx t g f) (exLen t g f) hc)
    clear hc
    go_enter Try.func16, Try.ntmps16
    go_wp2_with fail
    refine (exLen_any _ _ _ _).mono ?_
    rintro e w1 ⟨rfl, rfl⟩
    rw [hR.out]
    go_wp2
    go_ret2
    exact ⟨rfl, rfl⟩
  · have hR := Lib.hid (intOr_yes (few t g f && hasEx t g f) (exLen t g f) hc)
    obtain ⟨⟨_, _⟩, ⟨_, _⟩⟩ := exLen_in (asked_few hc)
    have e1 : 0 ≤ exLen t g f := by unfold exLen; omega
    have e2 : exLen t g f ≤ 128 := by unfold exLen; omega
    clear hc
    go_enter Try.func16, Try.ntmps16
    go_wp2_with fail
    refine (exLen_any _ _ _ _).mono ?_
    rintro e w1 ⟨rfl, rfl⟩
    rw [hR.out]
    go_wp2
    go_ret2
    exact ⟨rfl, rfl⟩

set_option maxHeartbeats 400000 in
theorem walk_FnExactSlidesOfExchange (t : Int) (_ : (Lit.int .i64 t).wf = true) (g : Int) (_ : (Lit.int .i64 g).wf = true) (f : Int) (_ : (Lit.int .i64 f).wf = true) (w : World) :
    Calls Try.prog 4 #[.int .i64 t, .int .i64 g, .int .i64 f] w fun e w' => e = .returned (.bool true) ∧ Below w.heap.size w w' := by
  cases hc : few t g f && hasEx t g f
  all_goals
    first
      | have hR := Lib.hid (intOr_no (few t g f && hasEx t g f) (exLen t g f - t * f) hc)
      | have hR := Lib.hid (intOr_yes (few t g f && hasEx t g f) (exLen t g f - t * f) hc)
    clear hc
    go_enter Try.func4, Try.ntmps4
    go_wp2_with fail
    refine (sSlides_any _ _ _ _).mono ?_
    rintro e w1 ⟨rfl, hb1⟩
    rw [hR.out]
    go_wp2_with fail
    refine (slides_any _ _ _ _).mono ?_
    rintro e w2 ⟨rfl, rfl⟩
    rw [hR.out]
    go_wp2
    go_ret
    exact ⟨rfl, hb1⟩

/-- Two numbers of kinds, few together. -/
def few2 (t f : Int) : Bool := [t, f].all (inR · 0 8) && decide (t + f ≤ 8)
theorem few2_iff (t f : Int) : few2 t f = true ↔ (0 ≤ t ∧ t ≤ 8) ∧ (0 ≤ f ∧ f ≤ 8) ∧ t + f ≤ 8 := by
  simp [few2, inR, and_assoc]
theorem two_cells (t f : Int) (w : World) : ∀ (j : Nat),
  j < [t, f].length →
    (w.alloc (Obj.cells #[Value.int IntKind.i64 t, Value.int IntKind.i64 f] 3)).cell? { block := w.heap.size, off := j } =
      some (Value.int IntKind.i64 ([t, f].getD j 0)) := by
  intro j hj
  rw [World.cell?_alloc_new]
  match j, hj with
  | 0, _ => rfl
  | 1, _ => rfl

set_option maxHeartbeats 400000 in
theorem sJumps_any (t f : Int) (w : World) :
    Calls Try.prog 17 #[.int .i64 t, .int .i64 f] w fun e w' => e = .returned (intOr (few2 t f) (t * f)) ∧ Below w.heap.size w w' := by
  have hcell := Lib.hid (two_cells t f w)
  cases ha : [t, f].all (inR · 0 8)
  · have hA := Lib.hid ha
    have h3 : Hid (intOr (few2 t f) (t * f) = .tuple #[.int .i64 0, .bool false]) := by show _ = _; unfold few2; rw [ha]; rfl
    clear ha
    go_enter Try.func17, Try.ntmps17
    go_wp2_with (go_at_call 80; refine (l1All_any _ 2 [t, f] _ _ _ (by simp) hcell.out).mono ?_; rintro e w' ⟨rfl, rfl⟩; rw [hA.out])
    go_ret2
    exact ⟨congrArg Ending.returned h3.out.symm, (Below.refl _ _).alloc (Nat.le_refl _) _⟩
  · have hA := Lib.hid ha
    have hb : (0 ≤ t ∧ t ≤ 8) ∧ (0 ≤ f ∧ f ≤ 8) := by simpa [inR] using ha
    obtain ⟨⟨_, _⟩, ⟨_, _⟩⟩ := hb
    obtain ⟨_, _⟩ := mul_in (a := t) (b := f) 8 8 (by omega) (by omega) (by omega) (by omega)
    by_cases hs : 8 < t + f
    · have h3 : Hid (intOr (few2 t f) (t * f) = .tuple #[.int .i64 0, .bool false]) := by
        show _ = _; unfold few2; rw [ha, decide_eq_false (by omega)]; rfl
      clear ha
      go_enter Try.func17, Try.ntmps17
      go_wp2_with (go_at_call 80; refine (l1All_any _ 2 [t, f] _ _ _ (by simp) hcell.out).mono ?_; rintro e w' ⟨rfl, rfl⟩; rw [hA.out])
      go_ret2
      exact ⟨congrArg Ending.returned h3.out.symm, (Below.refl _ _).alloc (Nat.le_refl _) _⟩
    · have h3 : Hid (intOr (few2 t f) (t * f) = .tuple #[.int .i64 (t * f), .bool true]) := by
        show _ = _; unfold few2; rw [ha, decide_eq_true (by omega)]; rfl
      clear ha
      go_enter Try.func17, Try.ntmps17
      go_wp2_with (go_at_call 80; refine (l1All_any _ 2 [t, f] _ _ _ (by simp) hcell.out).mono ?_; rintro e w' ⟨rfl, rfl⟩; rw [hA.out])
      go_ret2
      exact ⟨congrArg Ending.returned h3.out.symm, (Below.refl _ _).alloc (Nat.le_refl _) _⟩

set_option maxHeartbeats 400000 in
theorem jumps_any (t f : Int) (w : World) :
    Calls Try.prog 18 #[.int .i64 t, .int .i64 f] w fun e w' => e = .returned (intOr (few2 t f) (t * f)) ∧ w = w' := by
  have no : few2 t f = false → Hid (intOr (few2 t f) (t * f) = .tuple #[.int .i64 0, .bool false]) := by
    intro h; show _ = _; rw [h]; rfl
  have no2 : ¬ ((0 ≤ t ∧ t ≤ 8) ∧ (0 ≤ f ∧ f ≤ 8) ∧ t + f ≤ 8) → few2 t f = false := by
    intro h; rw [Bool.eq_false_iff]; intro h2; exact h ((few2_iff t f).1 h2)
  rcases Int.lt_or_le t 0 with h1 | h1
  · have h3 := no (no2 (by omega))
    clear no no2
    go_enter Try.func18, Try.ntmps18
    go_wp2
    go_ret2
    exact ⟨congrArg Ending.returned h3.out.symm, rfl⟩
  · rcases Int.lt_or_le 8 t with h2 | h2
    · have h3 := no (no2 (by omega))
      clear no no2
      go_enter Try.func18, Try.ntmps18
      go_wp2
      go_ret2
      exact ⟨congrArg Ending.returned h3.out.symm, rfl⟩
    · rcases Int.lt_or_le f 0 with h4 | h4
      · have h3 := no (no2 (by omega))
        clear no no2
        go_enter Try.func18, Try.ntmps18
        go_wp2
        go_ret2
        exact ⟨congrArg Ending.returned h3.out.symm, rfl⟩
      · rcases Int.lt_or_le (8 - t) f with h5 | h5
        · have h3 := no (no2 (by omega))
          clear no no2
          go_enter Try.func18, Try.ntmps18
          go_wp2
          go_ret2
          exact ⟨congrArg Ending.returned h3.out.symm, rfl⟩
        · have hc := (few2_iff t f).2 ⟨⟨h1, h2⟩, ⟨h4, by omega⟩, by omega⟩
          have h3 := Lib.hid (intOr_yes (few2 t f) (t * f) hc)
          obtain ⟨_, _⟩ := mul_in (a := t) (b := f) 8 8 h1 h2 h4 (by omega)
          clear no no2 hc
          go_enter Try.func18, Try.ntmps18
          go_wp2
          go_ret2
          exact ⟨congrArg Ending.returned h3.out.symm, rfl⟩

set_option maxHeartbeats 400000 in
theorem walk_FnExactJumpsOfExchange (t : Int) (_ : (Lit.int .i64 t).wf = true) (f : Int) (_ : (Lit.int .i64 f).wf = true) (w : World) :
    Calls Try.prog 5 #[.int .i64 t, .int .i64 f] w fun e w' => e = .returned (.bool true) ∧ Below w.heap.size w w' := by
  cases hc : few2 t f
  all_goals
    first
      | have hR := Lib.hid (intOr_no (few2 t f) (t * f) hc)
      | have hR := Lib.hid (intOr_yes (few2 t f) (t * f) hc)
    clear hc
    go_enter Try.func5, Try.ntmps5
    go_wp2_with fail
    refine (sJumps_any _ _ _).mono ?_
    rintro e w1 ⟨rfl, hb1⟩
    rw [hR.out]
    go_wp2_with fail
    refine (jumps_any _ _ _).mono ?_
    rintro e w2 ⟨rfl, rfl⟩
    rw [hR.out]
    go_wp2
    go_ret
    exact ⟨rfl, hb1⟩
end Go.Proofs.Ytikhopheggiknaa

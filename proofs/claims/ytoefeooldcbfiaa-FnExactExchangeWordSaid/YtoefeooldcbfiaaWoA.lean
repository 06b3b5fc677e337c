/- Words: what a word is, numbers of an exchange; contracts of both sides. -/
import Derived.Test.YtoefeooldcbfiaaImp
import Derived.Test.YtoefeooldcbfiaaMove
import Derived.Test.YtoefeooldcbfiaaMoves
namespace Go.Proofs.Ytoefeooldcbfiaa
open Go.RowKit
/-- A sign of a word. -/
def isTF (c : UInt8) : Bool := c == 84 || c == 70
/-- A word: at most forty signs, each T or F. -/
def wordB (s : ByteArray) : Bool := decide (s.size ≤ 40) && (byt s).all isTF
theorem tf_cases (c : UInt8) : c = 84 ∨ c = 70 ∨ isTF c = false := by
  unfold isTF
  by_cases h1 : c = 84
  · exact .inl h1
  · by_cases h2 : c = 70
    · exact .inr (.inl h2)
    · exact .inr (.inr (by simp [h1, h2]))
theorem no_tf {c : UInt8} (h : isTF c = false) : ((c.toNat : Int) == 84) = false ∧ ((c.toNat : Int) == 70) = false ∧ ((c.toNat : Int) != 84) = true ∧ ((c.toNat : Int) != 70) = true := by
  unfold isTF at h
  simp [← UInt8.toNat_inj] at h
  simp
  omega
theorem wordB_iff (s : ByteArray) : wordB s = true ↔ s.size ≤ 40 ∧ (byt s).all isTF = true := by
  unfold wordB
  rw [Bool.and_eq_true, decide_eq_true_iff]

/-- Toads and frogs that are exchanged. -/
def twoB (t f : Int) : Bool := decide (1 ≤ t) && decide (1 ≤ f) && decide (t + f ≤ 9)
theorem twoB_iff (t f : Int) : twoB t f = true ↔ 1 ≤ t ∧ 1 ≤ f ∧ t + f ≤ 9 := by simp [twoB, and_assoc]
set_option maxHeartbeats 400000 in
theorem woTwo_any (t f : Int) (w : World) :
    Calls Try.prog 49 #[.int .i64 t, .int .i64 f] w fun e w' => e = .returned (.bool (twoB t f)) ∧ w = w' := by
  have no : ¬ (1 ≤ t ∧ 1 ≤ f ∧ t + f ≤ 9) → Hid (twoB t f = false) := fun h => Lib.hid (by rw [Bool.eq_false_iff]; exact fun h' => h ((twoB_iff t f).1 h'))
  cases h1 : inR t 1 8
  · have hR := no (by simp [inR] at h1; omega)
    have H1 := Lib.hid h1
    clear no h1
    go_enter Try.func49, Try.ntmps49
    go_wp2_with (go_at_call 38; refine (l1In_any _ _ _ _).mono ?_; rintro e w' ⟨rfl, rfl⟩; rw [H1.out])
    go_ret
    exact ⟨congrArg (fun b => Ending.returned (.bool b)) hR.out.symm, rfl⟩
  · have H1 := Lib.hid h1
    cases h2 : inR f 1 8
    · have hR := no (by simp [inR] at h2; omega)
      have H2 := Lib.hid h2
      clear no h1 h2
      go_enter Try.func49, Try.ntmps49
      go_wp2_with fail
      refine (l1In_any _ _ _ _).mono ?_; rintro e w' ⟨rfl, rfl⟩; rw [H1.out]
      go_wp2_with fail
      refine (l1In_any _ _ _ _).mono ?_; rintro e w' ⟨rfl, rfl⟩; rw [H2.out]
      go_wp2
      go_ret
      exact ⟨congrArg (fun b => Ending.returned (.bool b)) hR.out.symm, rfl⟩
    · have H2 := Lib.hid h2
      have b1 : 1 ≤ t ∧ t ≤ 8 := by simpa [inR] using h1
      have b2 : 1 ≤ f ∧ f ≤ 8 := by simpa [inR] using h2
      obtain ⟨_, _⟩ := b1
      obtain ⟨_, _⟩ := b2
      have hR : Hid (twoB t f = decide (t + f ≤ 9)) := Lib.hid (by rw [Bool.eq_iff_iff, twoB_iff, decide_eq_true_iff]; omega)
      clear no h1 h2
      go_enter Try.func49, Try.ntmps49
      go_wp2_with fail
      refine (l1In_any _ _ _ _).mono ?_; rintro e w' ⟨rfl, rfl⟩; rw [H1.out]
      go_wp2_with fail
      refine (l1In_any _ _ _ _).mono ?_; rintro e w' ⟨rfl, rfl⟩; rw [H2.out]
      go_wp2
      go_ret
      exact ⟨congrArg (fun b => Ending.returned (.bool b)) hR.out.symm, rfl⟩

set_option maxHeartbeats 400000 in
theorem areExchanged_any (t f : Int) (w : World) (hf : f ≤ 9223372036854775807) :
    Calls Try.prog 52 #[.int .i64 t, .int .i64 f] w fun e w' => e = .returned (.bool (twoB t f)) ∧ w = w' := by
  have no : ¬ (1 ≤ t ∧ 1 ≤ f ∧ t + f ≤ 9) → Hid (twoB t f = false) := fun h => Lib.hid (by rw [Bool.eq_false_iff]; exact fun h' => h ((twoB_iff t f).1 h'))
  by_cases h1 : 1 ≤ t
  · by_cases h2 : 1 ≤ f
    · have hR : Hid (twoB t f = decide (t ≤ 9 - f)) := Lib.hid (by rw [Bool.eq_iff_iff, twoB_iff, decide_eq_true_iff]; omega)
      clear no
      go_enter Try.func52, Try.ntmps52
      go_wp2
      go_ret
      exact ⟨congrArg (fun b => Ending.returned (.bool b)) hR.out.symm, rfl⟩
    · have hR := no (by omega)
      clear no
      go_enter Try.func52, Try.ntmps52
      go_wp2
      go_ret
      exact ⟨congrArg (fun b => Ending.returned (.bool b)) hR.out.symm, rfl⟩
  · have hR := no (by omega)
    clear no
    go_enter Try.func52, Try.ntmps52
    go_wp2
    go_ret
    exact ⟨congrArg (fun b => Ending.returned (.bool b)) hR.out.symm, rfl⟩

/-- How many moves an exchange with one gap has. -/
def exMv (t f : Int) : Int := t * f + t + f
theorem ex_bounds {t f : Int} (h : twoB t f = true) : 0 ≤ t * f ∧ t * f ≤ 64 := by
  obtain ⟨h1, h2, h3⟩ := (twoB_iff t f).1 h
  have a1 : 0 ≤ t * f := Int.mul_nonneg (by omega) (by omega)
  have a2 : t * f ≤ 8 * 8 := Int.mul_le_mul (by omega) (by omega) (by omega) (by omega)
  omega

set_option maxHeartbeats 400000 in
theorem sExMoves_any (t f : Int) (w : World) :
    Calls Try.prog 26 #[.int .i64 t, .int .i64 f] w fun e w' => e = .returned (intOr (twoB t f) (exMv t f)) ∧ w = w' := by
  cases hc : twoB t f
  · have hC := Lib.hid hc
    clear hc
    go_enter Try.func26, Try.ntmps26
    go_wp2_with (go_at_call 49; refine (woTwo_any _ _ _).mono ?_; rintro e w' ⟨rfl, rfl⟩; rw [hC.out])
    go_ret2
    exact ⟨rfl, rfl⟩
  · have hC := Lib.hid hc
    obtain ⟨_, _⟩ := ex_bounds hc
    obtain ⟨_, _, _⟩ := (twoB_iff t f).1 hc
    clear hc
    go_enter Try.func26, Try.ntmps26
    go_wp2_with (go_at_call 49; refine (woTwo_any _ _ _).mono ?_; rintro e w' ⟨rfl, rfl⟩; rw [hC.out])
    go_ret2
    exact ⟨rfl, rfl⟩
set_option maxHeartbeats 400000 in
theorem exMoves_any (t f : Int) (w : World) (hf : f ≤ 9223372036854775807) :
    Calls Try.prog 27 #[.int .i64 t, .int .i64 f] w fun e w' => e = .returned (intOr (twoB t f) (exMv t f)) ∧ w = w' := by
  cases hc : twoB t f
  · have hC := Lib.hid hc
    clear hc
    go_enter Try.func27, Try.ntmps27
    go_wp2_with (go_at_call 52; refine (areExchanged_any _ _ _ hf).mono ?_; rintro e w' ⟨rfl, rfl⟩; rw [hC.out])
    go_ret2
    exact ⟨rfl, rfl⟩
  · have hC := Lib.hid hc
    obtain ⟨_, _⟩ := ex_bounds hc
    obtain ⟨_, _, _⟩ := (twoB_iff t f).1 hc
    clear hc
    go_enter Try.func27, Try.ntmps27
    go_wp2_with (go_at_call 52; refine (areExchanged_any _ _ _ hf).mono ?_; rintro e w' ⟨rfl, rfl⟩; rw [hC.out])
    go_ret2
    exact ⟨rfl, rfl⟩
end Go.Proofs.Ytoefeooldcbfiaa

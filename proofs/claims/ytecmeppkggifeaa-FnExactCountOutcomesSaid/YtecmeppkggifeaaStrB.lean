/- Contracts: the model's functions on lines. -/
import Derived.Test.YtecmeppkggifeaaStr
import Derived.Deep.QuietTactic
import Derived.BigQuiet
namespace Go.Proofs.Ytecmeppkggifeaa
open Go.RowKit

theorem three_cells (t g f : Int) (w : World) : ∀ (j : Nat),
  j < [t, g, f].length →
    (w.alloc (Obj.cells #[Value.int IntKind.i64 t, Value.int IntKind.i64 g, Value.int IntKind.i64 f] 3)).cell? { block := w.heap.size, off := j } =
      some (Value.int IntKind.i64 ([t, g, f].getD j 0)) := by
  intro j hj
  rw [World.cell?_alloc_new]
  match j, hj with
  | 0, _ => rfl
  | 1, _ => rfl
  | 2, _ => rfl

set_option maxHeartbeats 400000 in
theorem liThree_any (t g f : Int) (w : World) :
    Calls Try.prog 79 #[.int .i64 t, .int .i64 g, .int .i64 f] w fun e w' => e = .returned (.bool (three t g f)) ∧ Below w.heap.size w w' := by
  have hcell := Lib.hid (three_cells t g f w)
  cases ha : [t, g, f].all (inR · 0 12)
  · have hA := Lib.hid ha
    have h3 : Hid (three t g f = false) := by show _ = _; unfold three; rw [ha]; rfl
    clear ha
    go_enter Try.func79, Try.ntmps79
    go_wp2_with (go_at_call 105; refine (l1All_any _ 3 [t, g, f] _ _ _ (by simp) hcell.out).mono ?_; rintro e w' ⟨rfl, rfl⟩; rw [hA.out])
    go_ret
    exact ⟨congrArg (fun b => Ending.returned (.bool b)) h3.out.symm, (Below.refl _ _).alloc (Nat.le_refl _) _⟩
  · have hA := Lib.hid ha
    have h3 : Hid (three t g f = inR (t + g + f) 1 12) := by show _ = _; unfold three; rw [ha]; rfl
    have hb : (0 ≤ t ∧ t ≤ 12) ∧ (0 ≤ g ∧ g ≤ 12) ∧ (0 ≤ f ∧ f ≤ 12) := by simpa [inR] using ha
    clear ha
    obtain ⟨⟨_, _⟩, ⟨_, _⟩, ⟨_, _⟩⟩ := hb
    go_enter Try.func79, Try.ntmps79
    go_wp2_with (first | (go_at_call 105; refine (l1All_any _ 3 [t, g, f] _ _ _ (by simp) hcell.out).mono ?_; rintro e w' ⟨rfl, rfl⟩; rw [hA.out]) | (go_at_call 99; refine (l1In_any _ _ _ _).mono ?_; rintro e w' ⟨rfl, rfl⟩))
    go_ret
    exact ⟨congrArg (fun b => Ending.returned (.bool b)) h3.out.symm, (Below.refl _ _).alloc (Nat.le_refl _) _⟩

end Go.Proofs.Ytecmeppkggifeaa

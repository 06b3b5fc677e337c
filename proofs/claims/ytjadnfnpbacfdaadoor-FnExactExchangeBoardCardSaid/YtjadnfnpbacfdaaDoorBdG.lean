/- First and last boards: both sides' contracts, the laws' walks. -/
import Derived.Test.YtjadnfnpbacfdaaDoorBdF
import Derived.Test.YtjadnfnpbacfdaaDoorBdW
import Derived.Test.YtjadnfnpbacfdaaDoorSwX
namespace Go.Proofs.YtjadnfnpbacfdaaDoor
open Go.RowKit

/-- Halves of a board. -/
def halves (a b : Int) : Bool := inR a 0 2 && inR b 0 2
theorem halves_iff (a b : Int) : halves a b = true ↔ (0 ≤ a ∧ a ≤ 2) ∧ (0 ≤ b ∧ b ≤ 2) := by simp [halves, inR]
theorem halves_nat {a b : Int} (h : halves a b = true) : ∃ m n : Nat, a = m ∧ b = n ∧ m ≤ 2 ∧ n ≤ 2 := by
  obtain ⟨⟨h1, h2⟩, h3, h4⟩ := (halves_iff a b).1 h
  exact ⟨a.toNat, b.toNat, by omega, by omega, by omega, by omega⟩
def fstB (a b : Int) (x y : UInt8) : List UInt8 := Lib.join (bdF a.toNat b.toNat x y) [47]

set_option maxHeartbeats 1000000 in
theorem boHalves_any (a b : Int) (w : World) :
    Calls Tryd.prog 72 #[.int .i64 a, .int .i64 b] w fun e w' => e = .returned (.bool (halves a b)) ∧ w = w' := by
  unfold halves
  have H1 := Lib.hid (fun wx => l1In_any a 0 2 wx)
  have H2 := Lib.hid (fun wx => l1In_any b 0 2 wx)
  generalize inR a 0 2 = p at H1
  generalize inR b 0 2 = q at H2
  cases p
  all_goals
    go_enter Tryd.func72, Tryd.ntmps72
    go_wp2_with (go_at_call 54; first | (with_reducible refine (H1.out _).mono ?_; rintro e w' ⟨rfl, rfl⟩) | (with_reducible refine (H2.out _).mono ?_; rintro e w' ⟨rfl, rfl⟩))
    go_ret
    exact ⟨rfl, rfl⟩
set_option maxHeartbeats 1000000 in
theorem areHalves_any (a b : Int) (w : World) :
    Calls Tryd.prog 74 #[.int .i64 a, .int .i64 b] w fun e w' => e = .returned (.bool (halves a b)) ∧ w = w' := by
  by_cases h1 : 0 ≤ a
  · by_cases h2 : a ≤ 2
    · by_cases h3 : 0 ≤ b
      · by_cases h4 : b ≤ 2
        · have e : halves a b = true := (halves_iff a b).2 ⟨⟨h1, h2⟩, h3, h4⟩
          rw [e]
          go_enter Tryd.func74, Tryd.ntmps74
          go_wp2
          go_ret
          exact ⟨rfl, rfl⟩
        · have e : halves a b = false := by simp [halves, inR, h4]
          rw [e]
          go_enter Tryd.func74, Tryd.ntmps74
          go_wp2
          go_ret
          exact ⟨rfl, rfl⟩
      · have e : halves a b = false := by simp [halves, inR, h3]
        rw [e]
        go_enter Tryd.func74, Tryd.ntmps74
        go_wp2
        go_ret
        exact ⟨rfl, rfl⟩
    · have e : halves a b = false := by simp [halves, inR, h2]
      rw [e]
      go_enter Tryd.func74, Tryd.ntmps74
      go_wp2
      go_ret
      exact ⟨rfl, rfl⟩
  · have e : halves a b = false := by simp [halves, inR, h1]
    rw [e]
    go_enter Tryd.func74, Tryd.ntmps74
    go_wp2
    go_ret
    exact ⟨rfl, rfl⟩
end Go.Proofs.YtjadnfnpbacfdaaDoor

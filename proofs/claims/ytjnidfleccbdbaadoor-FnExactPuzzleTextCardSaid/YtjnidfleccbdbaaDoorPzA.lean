/- Contracts: what a clue is, the model's and the program's. -/
import Derived.Test.YtjnidfleccbdbaaDoorImp
import Derived.Test.YtjnidfleccbdbaaDoorMoves
import Derived.Deep.SlicePairs
import Derived.ProofKit
import Derived.OpenShut
import Derived.Lib.SmallJoins
namespace Go.Proofs.YtjnidfleccbdbaaDoor
open Go.RowKit

/-- A clue of a line of so many cells. -/
def clueOk (n k a b : Int) : Bool :=
  if k = 0 then inR a 0 (n - 1) && inR b 0 2
  else decide (b = 0) && (if k = 1 ∨ k = 2 then inR a 0 n else if k = 3 then inR a 0 (2 * n) else if k = 4 then inR a 0 10 else if k = 5 then inR a 0 3 else false)
def clueC (n k a b : Int) : Bool := inR n 1 5 && clueOk n k a b
/-- The greatest A and B of a kind. -/
def mostA (n k : Int) : Int := if k = 0 then n - 1 else if k = 1 ∨ k = 2 then n else if k = 3 then 2 * n else if k = 4 then 10 else 3
theorem clueOk_mostly (n k a b : Int) (hk : 0 ≤ k ∧ k ≤ 5) : clueOk n k a b = (decide (0 ≤ a) && decide (a ≤ mostA n k) && decide (0 ≤ b) && decide (b ≤ if k = 0 then 2 else 0)) := by
  have h : k = 0 ∨ k = 1 ∨ k = 2 ∨ k = 3 ∨ k = 4 ∨ k = 5 := by omega
  have hb : decide (b = 0) = (decide (0 ≤ b) && decide (b ≤ 0)) := by
    rw [Bool.eq_iff_iff]; simp only [Bool.and_eq_true, decide_eq_true_eq]; omega
  rcases h with rfl | rfl | rfl | rfl | rfl | rfl <;> simp [clueOk, mostA, inR, hb, Bool.and_assoc, Bool.and_comm, Bool.and_left_comm]
theorem clueOk_none (n k a b : Int) (hk : ¬ (0 ≤ k ∧ k ≤ 5)) : clueOk n k a b = false := by
  unfold clueOk
  rw [if_neg (by omega), if_neg (by omega), if_neg (by omega), if_neg (by omega), if_neg (by omega), Bool.and_false]

set_option maxRecDepth 100000 in
set_option maxHeartbeats 1000000 in
theorem pzClue_any (n k a b : Int) (w : World) (hn : 1 ≤ n ∧ n ≤ 5) :
    Calls Tryd.prog 60 #[.int .i64 n, .agg #[.int .i64 k, .int .i64 a, .int .i64 b]] w fun e w' => e = .returned (.bool (clueOk n k a b)) ∧ Below w.heap.size w w' := by
  have hB : Below w.heap.size w (w.alloc (Obj.cells #[.int .i64 k, .int .i64 a, .int .i64 b] 61)) := (Below.refl _ _).alloc (Nat.le_refl _) _
  obtain ⟨n1, n2⟩ := hn
  by_cases h0 : k = 0
  · subst h0
    have HR : Hid (clueOk n 0 a b = (inR a 0 (n - 1) && inR b 0 2)) := rfl
    have e1 : IntKind.i64.wrap (n - 1) = n - 1 := by rw [IntKind.wrap_i64]; omega
    cases ha : inR a 0 (n - 1)
    · have HA := Lib.hid ha
      clear ha
      go_enter Tryd.func60, Tryd.ntmps60
      go_wp2_with fail
      refine (l1In_any _ _ _ _).mono ?_; rintro e w' ⟨rfl, rfl⟩; rw [HA.out]
      go_wp2_with fail
      go_ret
      exact ⟨by rw [HR.out, HA.out]; rfl, hB⟩
    · have HA := Lib.hid ha
      clear ha
      go_enter Tryd.func60, Tryd.ntmps60
      go_wp2_with fail
      refine (l1In_any _ _ _ _).mono ?_; rintro e w' ⟨rfl, rfl⟩; rw [HA.out]
      go_wp2_with fail
      refine (l1In_any _ _ _ _).mono ?_; rintro e w' ⟨rfl, rfl⟩
      go_wp2_with fail
      go_ret
      exact ⟨by rw [HR.out, HA.out]; rfl, hB⟩
  · have k0 : (k == 0) = false := by simpa using h0
    by_cases hb : b = 0
    · subst hb
      have HR : Hid (clueOk n k a 0 = (if k = 1 ∨ k = 2 then inR a 0 n else if k = 3 then inR a 0 (2 * n) else if k = 4 then inR a 0 10 else if k = 5 then inR a 0 3 else false)) := Lib.hid (by unfold clueOk; rw [if_neg h0]; simp)
      by_cases h1 : k = 1
      · subst h1
        go_enter Tryd.func60, Tryd.ntmps60
        go_wp2_with fail
        refine (l1In_any _ _ _ _).mono ?_; rintro e w' ⟨rfl, rfl⟩
        go_wp2_with fail
        go_ret
        exact ⟨congrArg (fun b => Ending.returned (.bool b)) HR.out.symm, hB⟩
      · have k1 : (k == 1) = false := by simpa using h1
        by_cases h2 : k = 2
        · subst h2
          go_enter Tryd.func60, Tryd.ntmps60
          go_wp2_with fail
          refine (l1In_any _ _ _ _).mono ?_; rintro e w' ⟨rfl, rfl⟩
          go_wp2_with fail
          go_ret
          exact ⟨congrArg (fun b => Ending.returned (.bool b)) HR.out.symm, hB⟩
        · have k2 : (k == 2) = false := by simpa using h2
          have e2 : IntKind.i64.wrap (2 * n) = 2 * n := by rw [IntKind.wrap_i64]; omega
          by_cases h3 : k = 3
          · subst h3
            go_enter Tryd.func60, Tryd.ntmps60
            go_wp2_with fail
            refine (l1In_any _ _ _ _).mono ?_; rintro e w' ⟨rfl, rfl⟩
            go_wp2_with fail
            go_ret
            exact ⟨congrArg (fun b => Ending.returned (.bool b)) HR.out.symm, hB⟩
          · have k3 : (k == 3) = false := by simpa using h3
            by_cases h4 : k = 4
            · subst h4
              go_enter Tryd.func60, Tryd.ntmps60
              go_wp2_with fail
              refine (l1In_any _ _ _ _).mono ?_; rintro e w' ⟨rfl, rfl⟩
              go_wp2_with fail
              go_ret
              exact ⟨congrArg (fun b => Ending.returned (.bool b)) HR.out.symm, hB⟩
            · have k4 : (k == 4) = false := by simpa using h4
              by_cases h5 : k = 5
              · subst h5
                go_enter Tryd.func60, Tryd.ntmps60
                go_wp2_with fail
                refine (l1In_any _ _ _ _).mono ?_; rintro e w' ⟨rfl, rfl⟩
                go_wp2_with fail
                go_ret
                exact ⟨congrArg (fun b => Ending.returned (.bool b)) HR.out.symm, hB⟩
              · have k5 : (k == 5) = false := by simpa using h5
                have HF : Hid (clueOk n k a 0 = false) := Lib.hid (by rw [HR.out, if_neg (by omega), if_neg (by omega), if_neg (by omega), if_neg (by omega)])
                go_enter Tryd.func60, Tryd.ntmps60
                go_wp2_with fail
                go_ret
                exact ⟨congrArg (fun b => Ending.returned (.bool b)) HF.out.symm, hB⟩
    · have hb' : (b != 0) = true := by simpa using hb
      have HF : Hid (clueOk n k a b = false) := Lib.hid (by unfold clueOk; rw [if_neg h0]; simp [hb])
      go_enter Tryd.func60, Tryd.ntmps60
      go_wp2_with fail
      go_ret
      exact ⟨congrArg (fun b => Ending.returned (.bool b)) HF.out.symm, hB⟩

set_option maxHeartbeats 400000 in
theorem pzCells_any (n : Int) (w : World) :
    Calls Tryd.prog 59 #[.int .i64 n] w fun e w' => e = .returned (.bool (inR n 1 5)) ∧ w = w' := by
  go_enter Tryd.func59, Tryd.ntmps59
  go_wp2_with fail
  refine (l1In_any _ _ _ _).mono ?_; rintro e w' ⟨rfl, rfl⟩
  go_wp2_with fail
  go_ret
  exact ⟨rfl, rfl⟩

set_option maxRecDepth 100000 in
set_option maxHeartbeats 1000000 in
theorem IsClue_any (n k a b : Int) (w : World) :
    Calls Tryd.prog 136 #[.int .i64 n, .agg #[.int .i64 k, .int .i64 a, .int .i64 b]] w fun e w' => e = .returned (.bool (clueC n k a b)) ∧ Below w.heap.size w w' := by
  have hB : Below w.heap.size w (w.alloc (Obj.cells #[.int .i64 k, .int .i64 a, .int .i64 b] 61)) := (Below.refl _ _).alloc (Nat.le_refl _) _
  by_cases n1 : n < 1
  · have HR : Hid (clueC n k a b = false) := Lib.hid (by unfold clueC inR; rw [decide_eq_false (by omega)]; rfl)
    go_enter Tryd.func136, Tryd.ntmps136
    go_wp2_with fail
    go_ret
    exact ⟨congrArg (fun b => Ending.returned (.bool b)) HR.out.symm, hB⟩
  by_cases n5 : 5 < n
  · have HR : Hid (clueC n k a b = false) := Lib.hid (by unfold clueC inR; rw [decide_eq_false (p := n ≤ 5) (by omega), Bool.and_false]; rfl)
    go_enter Tryd.func136, Tryd.ntmps136
    go_wp2_with fail
    go_ret
    exact ⟨congrArg (fun b => Ending.returned (.bool b)) HR.out.symm, hB⟩
  have HC : Hid (clueC n k a b = clueOk n k a b) := Lib.hid (by unfold clueC inR; rw [decide_eq_true (by omega : 1 ≤ n), decide_eq_true (by omega : n ≤ 5)]; rfl)
  have e1 : IntKind.i64.wrap (n - 1) = n - 1 := by rw [IntKind.wrap_i64]; omega
  have e2 : IntKind.i64.wrap (2 * n) = 2 * n := by rw [IntKind.wrap_i64]; omega
  by_cases hk : 0 ≤ k ∧ k ≤ 5
  · have HR : Hid (clueC n k a b = (decide (0 ≤ a) && decide (a ≤ mostA n k) && decide (0 ≤ b) && decide (b ≤ if k = 0 then 2 else 0))) := Lib.hid (HC.out.trans (clueOk_mostly n k a b hk))
    have h : k = 0 ∨ k = 1 ∨ k = 2 ∨ k = 3 ∨ k = 4 ∨ k = 5 := by omega
    rcases h with rfl | rfl | rfl | rfl | rfl | rfl
    · by_cases a0 : a < 0
      · have HF : Hid (clueC n 0 a b = false) := Lib.hid (HR.out.trans (by show (decide (0 ≤ a) && decide (a ≤ n - 1) && decide (0 ≤ b) && decide (b ≤ 2)) = _; rw [decide_eq_false (p := 0 ≤ a) (by omega)]; rfl))
        clear HR HC
        go_enter Tryd.func136, Tryd.ntmps136
        go_wp2_with fail
        go_ret
        exact ⟨congrArg (fun b => Ending.returned (.bool b)) HF.out.symm, hB⟩
      by_cases a1 : n - 1 < a
      · have HF : Hid (clueC n 0 a b = false) := Lib.hid (HR.out.trans (by show (decide (0 ≤ a) && decide (a ≤ n - 1) && decide (0 ≤ b) && decide (b ≤ 2)) = _; rw [decide_eq_false (p := a ≤ n - 1) (by omega), Bool.and_false]; rfl))
        clear HR HC
        go_enter Tryd.func136, Tryd.ntmps136
        go_wp2_with fail
        go_ret
        exact ⟨congrArg (fun b => Ending.returned (.bool b)) HF.out.symm, hB⟩
      by_cases b0 : b < 0
      · have HF : Hid (clueC n 0 a b = false) := Lib.hid (HR.out.trans (by show (decide (0 ≤ a) && decide (a ≤ n - 1) && decide (0 ≤ b) && decide (b ≤ 2)) = _; rw [decide_eq_false (p := 0 ≤ b) (by omega), Bool.and_false]; rfl))
        clear HR HC
        go_enter Tryd.func136, Tryd.ntmps136
        go_wp2_with fail
        go_ret
        exact ⟨congrArg (fun b => Ending.returned (.bool b)) HF.out.symm, hB⟩
      · have HF : Hid (clueC n 0 a b = decide (b ≤ 2)) := Lib.hid (HR.out.trans (by show (decide (0 ≤ a) && decide (a ≤ n - 1) && decide (0 ≤ b) && decide (b ≤ 2)) = _; rw [decide_eq_true (p := 0 ≤ a) (by omega), decide_eq_true (p := a ≤ n - 1) (by omega), decide_eq_true (p := 0 ≤ b) (by omega)]; rfl))
        clear HR HC
        go_enter Tryd.func136, Tryd.ntmps136
        go_wp2_with fail
        go_ret
        exact ⟨congrArg (fun b => Ending.returned (.bool b)) HF.out.symm, hB⟩
    · by_cases a0 : a < 0
      · have HF : Hid (clueC n 1 a b = false) := Lib.hid (HR.out.trans (by show (decide (0 ≤ a) && decide (a ≤ n) && decide (0 ≤ b) && decide (b ≤ 0)) = _; rw [decide_eq_false (p := 0 ≤ a) (by omega)]; rfl))
        clear HR HC
        go_enter Tryd.func136, Tryd.ntmps136
        go_wp2_with fail
        go_ret
        exact ⟨congrArg (fun b => Ending.returned (.bool b)) HF.out.symm, hB⟩
      by_cases a1 : n < a
      · have HF : Hid (clueC n 1 a b = false) := Lib.hid (HR.out.trans (by show (decide (0 ≤ a) && decide (a ≤ n) && decide (0 ≤ b) && decide (b ≤ 0)) = _; rw [decide_eq_false (p := a ≤ n) (by omega), Bool.and_false]; rfl))
        clear HR HC
        go_enter Tryd.func136, Tryd.ntmps136
        go_wp2_with fail
        go_ret
        exact ⟨congrArg (fun b => Ending.returned (.bool b)) HF.out.symm, hB⟩
      by_cases b0 : b < 0
      · have HF : Hid (clueC n 1 a b = false) := Lib.hid (HR.out.trans (by show (decide (0 ≤ a) && decide (a ≤ n) && decide (0 ≤ b) && decide (b ≤ 0)) = _; rw [decide_eq_false (p := 0 ≤ b) (by omega), Bool.and_false]; rfl))
        clear HR HC
        go_enter Tryd.func136, Tryd.ntmps136
        go_wp2_with fail
        go_ret
        exact ⟨congrArg (fun b => Ending.returned (.bool b)) HF.out.symm, hB⟩
      · have HF : Hid (clueC n 1 a b = decide (b ≤ 0)) := Lib.hid (HR.out.trans (by show (decide (0 ≤ a) && decide (a ≤ n) && decide (0 ≤ b) && decide (b ≤ 0)) = _; rw [decide_eq_true (p := 0 ≤ a) (by omega), decide_eq_true (p := a ≤ n) (by omega), decide_eq_true (p := 0 ≤ b) (by omega)]; rfl))
        clear HR HC
        go_enter Tryd.func136, Tryd.ntmps136
        go_wp2_with fail
        go_ret
        exact ⟨congrArg (fun b => Ending.returned (.bool b)) HF.out.symm, hB⟩
    · by_cases a0 : a < 0
      · have HF : Hid (clueC n 2 a b = false) := Lib.hid (HR.out.trans (by show (decide (0 ≤ a) && decide (a ≤ n) && decide (0 ≤ b) && decide (b ≤ 0)) = _; rw [decide_eq_false (p := 0 ≤ a) (by omega)]; rfl))
        clear HR HC
        go_enter Tryd.func136, Tryd.ntmps136
        go_wp2_with fail
        go_ret
        exact ⟨congrArg (fun b => Ending.returned (.bool b)) HF.out.symm, hB⟩
      by_cases a1 : n < a
      · have HF : Hid (clueC n 2 a b = false) := Lib.hid (HR.out.trans (by show (decide (0 ≤ a) && decide (a ≤ n) && decide (0 ≤ b) && decide (b ≤ 0)) = _; rw [decide_eq_false (p := a ≤ n) (by omega), Bool.and_false]; rfl))
        clear HR HC
        go_enter Tryd.func136, Tryd.ntmps136
        go_wp2_with fail
        go_ret
        exact ⟨congrArg (fun b => Ending.returned (.bool b)) HF.out.symm, hB⟩
      by_cases b0 : b < 0
      · have HF : Hid (clueC n 2 a b = false) := Lib.hid (HR.out.trans (by show (decide (0 ≤ a) && decide (a ≤ n) && decide (0 ≤ b) && decide (b ≤ 0)) = _; rw [decide_eq_false (p := 0 ≤ b) (by omega), Bool.and_false]; rfl))
        clear HR HC
        go_enter Tryd.func136, Tryd.ntmps136
        go_wp2_with fail
        go_ret
        exact ⟨congrArg (fun b => Ending.returned (.bool b)) HF.out.symm, hB⟩
      · have HF : Hid (clueC n 2 a b = decide (b ≤ 0)) := Lib.hid (HR.out.trans (by show (decide (0 ≤ a) && decide (a ≤ n) && decide (0 ≤ b) && decide (b ≤ 0)) = _; rw [decide_eq_true (p := 0 ≤ a) (by omega), decide_eq_true (p := a ≤ n) (by omega), decide_eq_true (p := 0 ≤ b) (by omega)]; rfl))
        clear HR HC
        go_enter Tryd.func136, Tryd.ntmps136
        go_wp2_with fail
        go_ret
        exact ⟨congrArg (fun b => Ending.returned (.bool b)) HF.out.symm, hB⟩
    · by_cases a0 : a < 0
      · have HF : Hid (clueC n 3 a b = false) := Lib.hid (HR.out.trans (by show (decide (0 ≤ a) && decide (a ≤ 2 * n) && decide (0 ≤ b) && decide (b ≤ 0)) = _; rw [decide_eq_false (p := 0 ≤ a) (by omega)]; rfl))
        clear HR HC
        go_enter Tryd.func136, Tryd.ntmps136
        go_wp2_with fail
        go_ret
        exact ⟨congrArg (fun b => Ending.returned (.bool b)) HF.out.symm, hB⟩
      by_cases a1 : 2 * n < a
      · have HF : Hid (clueC n 3 a b = false) := Lib.hid (HR.out.trans (by show (decide (0 ≤ a) && decide (a ≤ 2 * n) && decide (0 ≤ b) && decide (b ≤ 0)) = _; rw [decide_eq_false (p := a ≤ 2 * n) (by omega), Bool.and_false]; rfl))
        clear HR HC
        go_enter Tryd.func136, Tryd.ntmps136
        go_wp2_with fail
        go_ret
        exact ⟨congrArg (fun b => Ending.returned (.bool b)) HF.out.symm, hB⟩
      by_cases b0 : b < 0
      · have HF : Hid (clueC n 3 a b = false) := Lib.hid (HR.out.trans (by show (decide (0 ≤ a) && decide (a ≤ 2 * n) && decide (0 ≤ b) && decide (b ≤ 0)) = _; rw [decide_eq_false (p := 0 ≤ b) (by omega), Bool.and_false]; rfl))
        clear HR HC
        go_enter Tryd.func136, Tryd.ntmps136
        go_wp2_with fail
        go_ret
        exact ⟨congrArg (fun b => Ending.returned (.bool b)) HF.out.symm, hB⟩
      · have HF : Hid (clueC n 3 a b = decide (b ≤ 0)) := Lib.hid (HR.out.trans (by show (decide (0 ≤ a) && decide (a ≤ 2 * n) && decide (0 ≤ b) && decide (b ≤ 0)) = _; rw [decide_eq_true (p := 0 ≤ a) (by omega), decide_eq_true (p := a ≤ 2 * n) (by omega), decide_eq_true (p := 0 ≤ b) (by omega)]; rfl))
        clear HR HC
        go_enter Tryd.func136, Tryd.ntmps136
        go_wp2_with fail
        go_ret
        exact ⟨congrArg (fun b => Ending.returned (.bool b)) HF.out.symm, hB⟩
    · by_cases a0 : a < 0
      · have HF : Hid (clueC n 4 a b = false) := Lib.hid (HR.out.trans (by show (decide (0 ≤ a) && decide (a ≤ 10) && decide (0 ≤ b) && decide (b ≤ 0)) = _; rw [decide_eq_false (p := 0 ≤ a) (by omega)]; rfl))
        clear HR HC
        go_enter Tryd.func136, Tryd.ntmps136
        go_wp2_with fail
        go_ret
        exact ⟨congrArg (fun b => Ending.returned (.bool b)) HF.out.symm, hB⟩
      by_cases a1 : 10 < a
      · have HF : Hid (clueC n 4 a b = false) := Lib.hid (HR.out.trans (by show (decide (0 ≤ a) && decide (a ≤ 10) && decide (0 ≤ b) && decide (b ≤ 0)) = _; rw [decide_eq_false (p := a ≤ 10) (by omega), Bool.and_false]; rfl))
        clear HR HC
        go_enter Tryd.func136, Tryd.ntmps136
        go_wp2_with fail
        go_ret
        exact ⟨congrArg (fun b => Ending.returned (.bool b)) HF.out.symm, hB⟩
      by_cases b0 : b < 0
      · have HF : Hid (clueC n 4 a b = false) := Lib.hid (HR.out.trans (by show (decide (0 ≤ a) && decide (a ≤ 10) && decide (0 ≤ b) && decide (b ≤ 0)) = _; rw [decide_eq_false (p := 0 ≤ b) (by omega), Bool.and_false]; rfl))
        clear HR HC
        go_enter Tryd.func136, Tryd.ntmps136
        go_wp2_with fail
        go_ret
        exact ⟨congrArg (fun b => Ending.returned (.bool b)) HF.out.symm, hB⟩
      · have HF : Hid (clueC n 4 a b = decide (b ≤ 0)) := Lib.hid (HR.out.trans (by show (decide (0 ≤ a) && decide (a ≤ 10) && decide (0 ≤ b) && decide (b ≤ 0)) = _; rw [decide_eq_true (p := 0 ≤ a) (by omega), decide_eq_true (p := a ≤ 10) (by omega), decide_eq_true (p := 0 ≤ b) (by omega)]; rfl))
        clear HR HC
        go_enter Tryd.func136, Tryd.ntmps136
        go_wp2_with fail
        go_ret
        exact ⟨congrArg (fun b => Ending.returned (.bool b)) HF.out.symm, hB⟩
    · by_cases a0 : a < 0
      · have HF : Hid (clueC n 5 a b = false) := Lib.hid (HR.out.trans (by show (decide (0 ≤ a) && decide (a ≤ 3) && decide (0 ≤ b) && decide (b ≤ 0)) = _; rw [decide_eq_false (p := 0 ≤ a) (by omega)]; rfl))
        clear HR HC
        go_enter Tryd.func136, Tryd.ntmps136
        go_wp2_with fail
        go_ret
        exact ⟨congrArg (fun b => Ending.returned (.bool b)) HF.out.symm, hB⟩
      by_cases a1 : 3 < a
      · have HF : Hid (clueC n 5 a b = false) := Lib.hid (HR.out.trans (by show (decide (0 ≤ a) && decide (a ≤ 3) && decide (0 ≤ b) && decide (b ≤ 0)) = _; rw [decide_eq_false (p := a ≤ 3) (by omega), Bool.and_false]; rfl))
        clear HR HC
        go_enter Tryd.func136, Tryd.ntmps136
        go_wp2_with fail
        go_ret
        exact ⟨congrArg (fun b => Ending.returned (.bool b)) HF.out.symm, hB⟩
      by_cases b0 : b < 0
      · have HF : Hid (clueC n 5 a b = false) := Lib.hid (HR.out.trans (by show (decide (0 ≤ a) && decide (a ≤ 3) && decide (0 ≤ b) && decide (b ≤ 0)) = _; rw [decide_eq_false (p := 0 ≤ b) (by omega), Bool.and_false]; rfl))
        clear HR HC
        go_enter Tryd.func136, Tryd.ntmps136
        go_wp2_with fail
        go_ret
        exact ⟨congrArg (fun b => Ending.returned (.bool b)) HF.out.symm, hB⟩
      · have HF : Hid (clueC n 5 a b = decide (b ≤ 0)) := Lib.hid (HR.out.trans (by show (decide (0 ≤ a) && decide (a ≤ 3) && decide (0 ≤ b) && decide (b ≤ 0)) = _; rw [decide_eq_true (p := 0 ≤ a) (by omega), decide_eq_true (p := a ≤ 3) (by omega), decide_eq_true (p := 0 ≤ b) (by omega)]; rfl))
        clear HR HC
        go_enter Tryd.func136, Tryd.ntmps136
        go_wp2_with fail
        go_ret
        exact ⟨congrArg (fun b => Ending.returned (.bool b)) HF.out.symm, hB⟩
  · have HF : Hid (clueC n k a b = false) := Lib.hid (HC.out.trans (clueOk_none n k a b hk))
    have k0 : (k == 0) = false := beq_eq_false_iff_ne.2 (by omega)
    have k1 : (k == 1) = false := beq_eq_false_iff_ne.2 (by omega)
    have k2 : (k == 2) = false := beq_eq_false_iff_ne.2 (by omega)
    have k3 : (k == 3) = false := beq_eq_false_iff_ne.2 (by omega)
    have k4 : (k == 4) = false := beq_eq_false_iff_ne.2 (by omega)
    have k5 : (k == 5) = false := beq_eq_false_iff_ne.2 (by omega)
    go_enter Tryd.func136, Tryd.ntmps136
    go_wp2_with fail
    go_ret
    exact ⟨congrArg (fun b => Ending.returned (.bool b)) HF.out.symm, hB⟩
end Go.Proofs.YtjnidfleccbdbaaDoor
namespace Go.Proofs.YtjnidfleccbdbaaDoor
open Go.ChangeShapes Go.WideShapes Go.ChangeAt Go.RowKit Go.Deep Go.Joins

abbrev Cl := Int × Int × Int
theorem Tryd.infoC : (Tryd.prog.info? 61).map (fun i => (i.zero, i.size, i.bytes)) = some (some (.agg #[.int .i64 0, .int .i64 0, .int .i64 0]), 3, 24) := by kernel_rfl
/-- Clues, cell by cell. -/
def flat3 (l : List Cl) : List Value := l.flatMap fun p => [.int .i64 p.1, .int .i64 p.2.1, .int .i64 p.2.2]
theorem flat3_cons (p : Cl) (l : List Cl) : flat3 (p :: l) = .int .i64 p.1 :: .int .i64 p.2.1 :: .int .i64 p.2.2 :: flat3 l := by simp [flat3]
theorem flat3_len (l : List Cl) : (flat3 l).length = l.length * 3 := by
  induction l with
  | nil => rfl
  | cons p l ih => rw [flat3_cons]; simp only [List.length_cons, ih]; omega
theorem flat3_app (a b : List Cl) : flat3 (a ++ b) = flat3 a ++ flat3 b := by simp [flat3]
theorem flat3_at : ∀ (l : List Cl) (k : Nat) (h : k < l.length), (flat3 l)[k * 3]? = some (.int .i64 l[k].1) ∧ (flat3 l)[k * 3 + 1]? = some (.int .i64 l[k].2.1) ∧ (flat3 l)[k * 3 + 2]? = some (.int .i64 l[k].2.2)
  | p :: l, 0, _ => by simp [flat3]
  | p :: l, k + 1, h => by
    have ih := flat3_at l k (by simpa using h)
    rw [flat3_cons]
    have e1 : (k + 1) * 3 = k * 3 + 1 + 1 + 1 := by omega
    rw [e1]
    simpa using ih
theorem flat3_set (l : List Cl) (j : Nat) (h : j < l.length) (a b c : Int) :
    (((flat3 l).set (j * 3) (.int .i64 a)).set (j * 3 + 1) (.int .i64 b)).set (j * 3 + 2) (.int .i64 c) = flat3 (l.set j (a, b, c)) := by
  induction l generalizing j with
  | nil => simp at h
  | cons q l ih =>
    rw [flat3_cons]
    cases j with
    | zero => simp [flat3_cons]
    | succ j =>
      have e1 : (j + 1) * 3 = j * 3 + 1 + 1 + 1 := by omega
      have ih := ih j (by simpa using h)
      rw [e1]
      simp only [List.set_cons_succ, flat3_cons, ih]
theorem set_mid3 (A B : List Cl) (q p : Cl) (j : Nat) (h : A.length = j) : (A ++ q :: B).set j p = (A ++ [p]) ++ B := by
  subst h
  simp

theorem addr_o3 (g o j : Nat) : (⟨g, o, none⟩ : Addr).add j = ⟨g, o + j, none⟩ := by
  unfold Addr.add
  split
  · simp_all
  · rfl
/-- A slice's address leads to a list of clues, wherever it begins. -/
def ClIn (w : World) (A : Option Addr) (l : List Cl) : Prop :=
  ∀ k (h : k < l.length), ∃ g o, A = some ⟨g, o, none⟩ ∧ g < w.heap.size ∧ w.cell? ⟨g, o + k * 3, none⟩ = some (.int .i64 l[k].1) ∧ w.cell? ⟨g, o + k * 3 + 1, none⟩ = some (.int .i64 l[k].2.1) ∧ w.cell? ⟨g, o + k * 3 + 2, none⟩ = some (.int .i64 l[k].2.2)
theorem ClIn.below {w w' : World} {A : Option Addr} {l : List Cl} (h : ClIn w A l) (hb : Below w.heap.size w w') : ClIn w' A l := by
  intro k hk
  obtain ⟨g, o, a, b, c, d, e⟩ := h k hk
  exact ⟨g, o, a, Nat.lt_of_lt_of_le b hb.size, (hb.cell (p := ⟨g, o + k * 3, none⟩) b).trans c, (hb.cell (p := ⟨g, o + k * 3 + 1, none⟩) b).trans d, (hb.cell (p := ⟨g, o + k * 3 + 2, none⟩) b).trans e⟩
theorem cl_own {w : World} {base : Nat} {v : Value} {l : List Cl} (h : w.ownsRow base 61 3 v l.length (flat3 l)) : ∃ A cap, v = .slice A l.length cap ∧ ClIn w A l ∧ l.length ≤ cap ∧ (A = none → cap = 0) ∧ (∀ ad, A = some ad → ad.off = 0 ∧ ad.spot = none ∧ base ≤ ad.block) := by
  rcases h.2 with ⟨hv, h0⟩ | ⟨g, cap, cur, rfl, hg, hh, hn, hr⟩
  · have h2 : l.length = 0 := by have h3 := flat3_len l; have h4 := h.1; omega
    exact ⟨none, 0, by rw [hv, h2], fun k hk => by omega, by omega, fun _ => rfl, (fun ad e => by cases e)⟩
  · refine ⟨_, cap, rfl, fun k hk => ⟨g, 0, rfl, ?_, ?_⟩, by have h3 := flat3_len l; have h4 := h.1; omega, (fun e => by cases e), (fun ad e => by injection e with e; subst e; exact ⟨rfl, rfl, hg⟩)⟩
    · by_cases hlt : g < w.heap.size
      · exact hlt
      · rw [Array.getElem?_eq_none (by omega)] at hh; cases hh
    · have f := flat3_at l k hk
      rw [Nat.zero_add]
      exact ⟨(h.cellAt (k * 3) (by omega)).trans f.1, (h.cellAt (k * 3 + 1) (by omega)).trans f.2.1, (h.cellAt (k * 3 + 2) (by omega)).trans f.2.2⟩

set_option maxRecDepth 100000 in
set_option maxHeartbeats 1000000 in
/-- A puzzle that came in, opened. -/
theorem row_puz {H : Type} (enc : TypeId × Value → H) (W : World) (base : Nat) (v : Value) (d : DataW H) (p : List MemPlace)
    (hv : Value.okWide Tryd.prog W .any base 24 v) (h : DataW.Trod enc Tryd.prog W 0 (fun _ => true) true 24 v d p) :
    ∃ (n : Int) (a : Option Addr) (len cap : Nat) (l : List Cl), v = .agg #[.int .i64 n, .slice a len cap] ∧ (len = l.length ∧ len ≤ maxLen ∧ ClIn W a l) := by
  obtain ⟨v0, v1, y0, y1, m, rfl, rfl, rfl, h0, h1⟩ := open_agg2 Tryd.underlying24 (by kernel_rfl) (by kernel_rfl) hv h
  obtain ⟨n, en, rfl, _⟩ := DataW.trod_int Tryd.underlying3 h0
  simp at en
  subst en
  rcases open_slice (e := 93) Tryd.underlying22 h1 with ⟨hcs, _⟩ | ⟨a, len, cap, m', n', D, Pl, hcs, _, hl, hmax, hmm, _, hx⟩
  · simp at hcs
    subst hcs
    exact ⟨n, none, 0, 0, [], rfl, rfl, Nat.zero_le _, fun k hk => by simp at hk⟩
  · simp at hcs
    subst hcs
    have hm : len ≤ m' := by rw [hmm]; simpa using hl
    have each : ∀ i, i < len → ∃ q : Cl, W.cell? (a.add (i * 3)) = some (.int .i64 q.1) ∧ W.cell? (a.add (i * 3 + 1)) = some (.int .i64 q.2.1) ∧ W.cell? (a.add (i * 3 + 2)) = some (.int .i64 q.2.2) := by
      intro i hlt
      obtain ⟨cs', h1, h2⟩ := hx i (by omega)
      have ce : Tryd.prog.cellsOf 93 = 3 := by kernel_rfl
      have ci : Tryd.prog.cellsOf 3 = 1 := by kernel_rfl
      rw [ce] at h1
      obtain ⟨_, hlen, hcell⟩ := World.cells?_some h1
      obtain ⟨xs, k, hk, hxy, _, hxl, hf⟩ := DataW.trod_struct Tryd.underlying93 h2
      match xs, hxl, cs', hlen with
      | [q0, q1, q2], _, [u0, u1, u2], _ =>
        have g0 := hf 0 _ rfl
        have g1 := hf 1 _ rfl
        have g2 := hf 2 _ rfl
        simp [ci] at g0 g1 g2
        obtain ⟨x, ex, _, _⟩ := DataW.trod_int Tryd.underlying3 g0
        obtain ⟨y, ey, _, _⟩ := DataW.trod_int Tryd.underlying3 g1
        obtain ⟨z, ez, _, _⟩ := DataW.trod_int Tryd.underlying3 g2
        simp at ex ey ez
        subst ex ey ez
        have e0 := hcell 0 (by omega)
        have e1 := hcell 1 (by omega)
        have e2 := hcell 2 (by omega)
        rw [add_add] at e0 e1 e2
        exact ⟨(x, y, z), by simpa using e0, by simpa using e1, by simpa using e2⟩
    obtain ⟨q, hq⟩ := choose_lt each
    clear each hx h1 h hv
    refine ⟨n, some a, len, cap, (List.range len).map q, rfl, by simp, Nat.le_trans hl hmax, fun k hk => ?_⟩
    have hk' : k < len := by simpa using hk
    have e := hq k hk'
    have h0 := (hq 0 (by omega)).1
    rw [show ((List.range len).map q)[k]'hk = q k by simp]
    obtain ⟨g, o, spot⟩ := a
    have hspot : spot = none := by simpa [Addr.add] using World.cell?_spot h0
    subst hspot
    have hg : g < W.heap.size := by
      by_cases hlt : g < W.heap.size
      · exact hlt
      · exfalso
        have := e.1
        rw [addr_o3] at this
        unfold World.cell? at this
        simp [Array.getElem?_eq_none (Nat.le_of_not_lt hlt)] at this
    rw [addr_o3, addr_o3, addr_o3, ← Nat.add_assoc, ← Nat.add_assoc] at e
    exact ⟨g, o, rfl, hg, e.1, e.2.1, e.2.2⟩

set_option maxHeartbeats 400000 in
theorem toClue_any (a b c : Int) (w : World) :
    Calls Tryd.prog 62 #[.agg #[.int .i64 a, .int .i64 b, .int .i64 c]] w fun e w' => e = .returned (.agg #[.int .i64 a, .int .i64 b, .int .i64 c]) ∧ Below w.heap.size w w' := by
  go_enter Tryd.func62, Tryd.ntmps62
  go_wp2
  refine bodyPost_ret (v := .agg #[.int .i64 a, .int .i64 b, .int .i64 c]) (by simp [results, Tryd.results62, go_sem]) rfl ⟨rfl, ?_⟩
  repeat first | exact Below.refl _ _ | refine Below.setCell ?_ (by simp) _ | refine Below.alloc ?_ (by simp <;> omega) _

theorem made_three (n : Nat) : (madeCells (Value.agg #[.int .i64 0, .int .i64 0, .int .i64 0]).cells (n * 3)).toList = flat3 (List.replicate n ((0 : Int), (0 : Int), (0 : Int))) := by
  have hz : (Value.agg #[.int .i64 0, .int .i64 0, .int .i64 0]).cells = #[.int .i64 0, .int .i64 0, .int .i64 0] := rfl
  rw [hz]
  apply List.ext_getElem?
  intro i
  by_cases hi : i < n * 3
  · have f : (flat3 (List.replicate n ((0 : Int), (0 : Int), (0 : Int))))[i]? = some (.int .i64 0) := by
      have h := flat3_at (List.replicate n ((0 : Int), (0 : Int), (0 : Int))) (i / 3) (by simp; omega)
      rw [List.getElem_replicate] at h
      rcases (by omega : i % 3 = 0 ∨ i % 3 = 1 ∨ i % 3 = 2) with h0 | h0 | h0
      · rw [show i = i / 3 * 3 by omega]; exact h.1
      · rw [show i = i / 3 * 3 + 1 by omega]; exact h.2.1
      · rw [show i = i / 3 * 3 + 2 by omega]; exact h.2.2
    rw [f]
    simp [madeCells, hi]
    rcases (by omega : i % 3 = 0 ∨ i % 3 = 1 ∨ i % 3 = 2) with h0 | h0 | h0 <;> simp [h0]
  · have l1 : (madeCells #[Value.int .i64 0, .int .i64 0, .int .i64 0] (n * 3)).toList.length ≤ i := by simp [madeCells]; omega
    have l2 : (flat3 (List.replicate n ((0 : Int), (0 : Int), (0 : Int)))).length ≤ i := by rw [flat3_len]; simp; omega
    rw [List.getElem?_eq_none l1, List.getElem?_eq_none l2]

set_option maxRecDepth 100000 in
set_option maxHeartbeats 2000000 in
theorem toClueS_any (l : List Cl) (A : Option Addr) (c : Nat) (w : World) (hin : ClIn w A l) (hl : l.length ≤ 2000000) :
    Calls Tryd.prog 33 #[.slice A l.length c] w fun e w' => e = .returned (.slice (some ⟨w.heap.size, 0, none⟩) l.length l.length) ∧ (w'.ownsRow w.heap.size 61 3 (.slice (some ⟨w.heap.size, 0, none⟩) l.length l.length) l.length (flat3 l) ∧ Below w.heap.size w w') := by
  obtain ⟨i0, hi, hz0, hz1, hz2⟩ := info_parts Tryd.infoC
  have hbytes : i0.bytes * l.length ≤ 281474976710656 := by rw [hz2]; omega
  have hmx : l.length ≤ maxLen := by unfold maxLen; omega
  have HI := Lib.hid hi
  have HZ0 := Lib.hid hz0
  have HZ1 := Lib.hid hz1
  have HN := Lib.hid hin
  clear hi hz0 hz1 hz2 hin
  go_enter Tryd.func33, Tryd.ntmps33
  go_wp2_with (at_make; refine wpList_make_full _ rfl (.tmp 6) (.tmp 6) 28 rfl w.heap.size 61 i0 (.agg #[.int .i64 0, .int .i64 0, .int .i64 0]) 3 Tryd.underlying28 HI.out HZ0.out HZ1.out .i64 .i64 l.length l.length l.length rfl rfl rfl rfl hbytes hmx (Nat.le_refl _) ?_; intro w1 hown hgrow)
  have hB0 : Below w.heap.size w w1 := (Below.refl _ _).grown hgrow (Nat.le_refl _) (by simp)
  rw [made_three] at hown
  have hz : w.heap.size < w1.heap.size := (hown.lt w.heap.size rfl).2
  have HO := Lib.hid hown
  clear hown hgrow HI HZ0 HZ1 hbytes
  go_loopw [4] (fun i wr => ∃ j : Nat, j ≤ l.length ∧ i = .int .i64 j ∧ wr.ownsRow w.heap.size 61 3 (.slice (some ⟨w.heap.size, 0, none⟩) l.length l.length) l.length (flat3 (l.take j ++ List.replicate (l.length - j) ((0 : Int), (0 : Int), (0 : Int)))) ∧ Below w.heap.size w wr) (fun i _ => l.length - (intOf i).toNat)
  case atStart => exact ⟨0, Nat.zero_le _, rfl, by simpa using HO.out, hB0⟩
  case round =>
    obtain ⟨j, hj, rfl, hown, hB⟩ := hrel
    clear hB0 HO
    by_cases hlt : j < l.length
    · obtain ⟨g, o, rfl, hg, c0, c1, c2⟩ := (HN.out.below hB) j hlt
      have hT : Hid (l.take (j + 1) ++ List.replicate (l.length - (j + 1)) ((0 : Int), (0 : Int), (0 : Int)) = (l.take j ++ List.replicate (l.length - j) ((0 : Int), (0 : Int), (0 : Int))).set j (l[j].1, l[j].2.1, l[j].2.2)) := by
        show _ = _
        obtain ⟨m, hm⟩ : ∃ m, l.length - j = m + 1 := ⟨l.length - j - 1, by omega⟩
        rw [hm, show l.length - (j + 1) = m by omega, List.replicate_succ, set_mid3 _ _ _ _ j (by rw [List.length_take]; omega), List.take_succ_eq_append_getElem hlt]
      generalize l[j].1 = a at c0 hT
      generalize l[j].2.1 = b at c1 hT
      generalize l[j].2.2 = d at c2 hT
      have hlen : (l.take j ++ List.replicate (l.length - j) ((0 : Int), (0 : Int), (0 : Int))).length = l.length := by simp; omega
      have i1 : (0 : Int) ≤ (j : Int) := by omega
      have i2 : (j : Int) < (l.length : Int) := by omega
      go_wp2_with fail
      refine (toClue_any a b d _).mono ?_
      rintro e w2 ⟨rfl, hb2⟩
      have hown2 := own_below hown hb2
      have hB2 := hB.trans (hb2.mono hB.size)
      clear hown hB hb2 c0 c1 c2
      have f0 := hown2.frozenAt (j * 3)
      have f1 := hown2.frozenAt (j * 3 + 1)
      have f2 := hown2.frozenAt (j * 3 + 2)
      have e0 := (hown2.cellAt (j * 3) (by omega)).trans (flat3_at _ j (by omega)).1
      have e1 := (hown2.cellAt (j * 3 + 1) (by omega)).trans (flat3_at _ j (by omega)).2.1
      have e2 := (hown2.cellAt (j * 3 + 2) (by omega)).trans (flat3_at _ j (by omega)).2.2
      generalize (l.take j ++ List.replicate (l.length - j) ((0 : Int), (0 : Int), (0 : Int)))[j].1 = x0 at e0
      generalize (l.take j ++ List.replicate (l.length - j) ((0 : Int), (0 : Int), (0 : Int)))[j].2.1 = x1 at e1
      generalize (l.take j ++ List.replicate (l.length - j) ((0 : Int), (0 : Int), (0 : Int)))[j].2.2 = x2 at e2
      have hs1 := (hown2.stored (j * 3) (.int .i64 a)).1
      have hs2 := (hs1.stored (j * 3 + 1) (.int .i64 b)).1
      have hs3 := (hs2.stored (j * 3 + 2) (.int .i64 d)).1
      rw [flat3_set _ j (by omega), ← hT.out] at hs3
      have HS := Lib.hid hs3
      clear hown2 hs1 hs2 hs3
      go_wp2
      go_roundw
      case rel => exact ⟨j + 1, by omega, by go_num, HS.out, ((hB2.setCell (Nat.le_refl _) _).setCell (Nat.le_refl _) _).setCell (Nat.le_refl _) _⟩
      case measure => simp [intOf]; omega
    · obtain rfl : j = l.length := by omega
      rw [List.take_length, Nat.sub_self, List.replicate_zero, List.append_nil] at hown
      have HS := Lib.hid hown
      clear hown
      go_wp2
      go_ret
      exact ⟨rfl, HS.out, hB⟩

theorem cell_new' (w : World) (xs : Array Value) (T : TypeId) (b i : Nat) (hb : b = w.heap.size) : (w.alloc (.cells xs T)).cell? ⟨b, i, none⟩ = xs[i]? := by subst hb; exact World.cell?_alloc_new _ _ _ _
theorem heap_new' (w : World) (o : Obj) (b : Nat) (hb : b = w.heap.size) : (w.alloc o).heap[b]? = some o := by subst hb; exact heap_alloc_new w o
theorem heap_past' (w : World) (o : Obj) (b : Nat) (hb : b < w.heap.size) : (w.alloc o).heap[b]? = w.heap[b]? := ((Below.refl w.heap.size w).alloc (Nat.le_refl _) o).block b hb
theorem frozen_new' (w : World) (xs : Array Value) (T : TypeId) (b i : Nat) (hb : b = w.heap.size) : (w.alloc (.cells xs T)).frozen? ⟨b, i, none⟩ = false := by
  unfold World.frozen?
  simp only [heap_new' w _ b hb]
  simp
theorem frozen_past' (w : World) (o : Obj) (b i : Nat) (hb : b < w.heap.size) : (w.alloc o).frozen? ⟨b, i, none⟩ = w.frozen? ⟨b, i, none⟩ := by
  unfold World.frozen?
  simp only [heap_past' w o b hb]
theorem own_setC {w : World} {base : Nat} {e : TypeId} {size n : Nat} {v : Value} {xs : List Value} (h : w.ownsRow base e size v n xs) (b o : Nat) (u : Value) (hne : v.ownBlock ≠ some b) : (w.setCell ⟨b, o, none⟩ u).ownsRow base e size v n xs :=
  own_farB h ((FarB.refl (some b) w).set o u) fun g hg e => hne (by rw [hg, e])
theorem results_pz (tmps : Array Value) (w : World) (g : Nat) (x y : Value) (hp : tmps.getD 2 undef = .pointer (some ⟨g, 0, none⟩)) (c0 : w.cell? ⟨g, 0, none⟩ = some x) (c1 : w.cell? ⟨g, 1, none⟩ = some y) :
    (results Tryd.f11 tmps).run Tryd.prog w = .ok (.agg #[x, y]) w := by
  have hr : Tryd.f11.results = #[.cell 2 30] := rfl
  unfold results
  rw [hr]
  simp at hp
  simp [hp, asAddr, c0, c1, go_sem]
/-- A puzzle of one's own. -/
def PzPost (w : World) (n : Int) (l : List Cl) (e : Ending) (w' : World) : Prop :=
  ∃ g, e = .returned (.agg #[.int .i64 n, .slice (some ⟨g, 0, none⟩) l.length l.length]) ∧ w'.ownsRow w.heap.size 61 3 (.slice (some ⟨g, 0, none⟩) l.length l.length) l.length (flat3 l) ∧ Below w.heap.size w w'
theorem own_lowerC {w : World} {b b' : Nat} {e : TypeId} {size n : Nat} {v : Value} {xs : List Value} (h : w.ownsRow b e size v n xs) (hle : b' ≤ b) : w.ownsRow b' e size v n xs := by
  refine ⟨h.1, ?_⟩
  rcases h.2 with h2 | ⟨g, cap, cur, rfl, hb, r⟩
  · exact .inl h2
  · exact .inr ⟨g, cap, cur, rfl, Nat.le_trans hle hb, r⟩

set_option maxRecDepth 100000 in
set_option maxHeartbeats 1000000 in
theorem toPuzzle_any (n : Int) (l : List Cl) (A : Option Addr) (c : Nat) (w : World) (hin : ClIn w A l) (hl : l.length ≤ 2000000) :
    Calls Tryd.prog 11 #[.agg #[.int .i64 n, .slice A l.length c]] w (PzPost w n l) := by
  have HT := Lib.hid (fun wx (h : ClIn wx A l) => toClueS_any l A c wx h hl)
  have HN := Lib.hid hin
  clear hin
  go_enter Tryd.func11, Tryd.ntmps11
  go_wp2_with fail
  refine (HT.out _ (HN.out.below ?_)).mono ?_
  · repeat first | exact Below.refl _ _ | refine Below.setCell ?_ (by simp) _ | refine Below.alloc ?_ (by simp <;> omega) _
  rintro e w1 ⟨rfl, own1, hb1⟩
  obtain ⟨hcell, hfr⟩ := bcell hb1
  have hz := hb1.size
  simp at hz
  have c0 : w1.cell? ⟨w.heap.size + 1 + 1, 0, none⟩ = some (.int .i64 n) := by rw [hcell _ _ (by simp), cell_new' _ _ _ _ _ (by simp)]; rfl
  have c1 : w1.cell? ⟨w.heap.size + 1 + 1, 1, none⟩ = some (.slice none 0 0) := by rw [hcell _ _ (by simp), cell_new' _ _ _ _ _ (by simp)]; rfl
  have c2 : w1.cell? ⟨w.heap.size + 1, 0, none⟩ = some (.int .i64 0) := by rw [hcell _ _ (by simp), World.cell?_alloc_past _ _ _ (by simp), cell_new' _ _ _ _ _ (by simp)]; rfl
  have c3 : w1.cell? ⟨w.heap.size + 1, 1, none⟩ = some (.slice none 0 0) := by rw [hcell _ _ (by simp), World.cell?_alloc_past _ _ _ (by simp), cell_new' _ _ _ _ _ (by simp)]; rfl
  have f1 : ∀ o, w1.frozen? ⟨w.heap.size + 1 + 1, o, none⟩ = false := fun o => by rw [hfr _ _ (by simp)]; exact frozen_new' _ _ _ _ _ (by simp)
  have f2 : ∀ o, w1.frozen? ⟨w.heap.size + 1, o, none⟩ = false := fun o => by rw [hfr _ _ (by simp), frozen_past' _ _ _ _ (by simp)]; exact frozen_new' _ _ _ _ _ (by simp)
  have hB1 : Below w.heap.size w w1 := by
    refine Below.trans ?_ (hb1.mono (by simp <;> omega))
    repeat first | exact Below.refl _ _ | refine Below.setCell ?_ (by simp) _ | refine Below.alloc ?_ (by simp <;> omega) _
  have e3 : ∀ a b c, (((w.alloc a).alloc b).alloc c).heap.size = w.heap.size + 1 + 1 + 1 := fun _ _ _ => by simp
  rw [e3] at own1
  have HO := Lib.hid (own_lowerC own1 (b' := w.heap.size) (by omega))
  have hne : w.heap.size + 1 + 1 + 1 ≠ w.heap.size + 1 ∧ w.heap.size + 1 + 1 + 1 ≠ w.heap.size + 1 + 1 := by omega
  clear own1 hb1 hcell hfr e3
  go_wp2_with fail
  refine bodyPost_ret (results_pz _ _ (w.heap.size + 1) (.int .i64 n) (.slice (some ⟨w.heap.size + 1 + 1 + 1, 0, none⟩) l.length l.length) rfl ?_ ?_) rfl ⟨_, rfl, ?_, ?_⟩
  · rw [World.cell?_setCell_other _ _ _ _ (by intro e; injection e with _ e; omega)]
    exact World.cell?_setCell_same _ _ _ (by rw [World.cell?_setCell_other _ _ _ _ (by intro e; injection e with e; omega)]; exact c2)
  · exact World.cell?_setCell_same _ _ _ (by rw [World.cell?_setCell_other _ _ _ _ (by intro e; injection e with _ e; omega), World.cell?_setCell_other _ _ _ _ (by intro e; injection e with e; omega)]; exact c3)
  · exact own_setC (own_setC (own_setC HO.out _ _ _ fun e => hne.2 (Option.some.inj e)) _ _ _ fun e => hne.1 (Option.some.inj e)) _ _ _ fun e => hne.1 (Option.some.inj e)
  · exact ((hB1.setCell (by simp <;> omega) _).setCell (by simp <;> omega) _).setCell (by simp <;> omega) _

/-- The laws' own functions on clues and puzzles. -/
theorem szClueS_any (A : Option Addr) (n c : Nat) (w : World) (hn : n ≤ maxLen) :
    Calls Tryd.prog 30 #[.slice A n c, .int .i64 1048576] w fun e w' => e = .returned (.int .i64 (if n ≤ 1048576 then 1048576 - (n : Int) else -1)) ∧ w = w' := by
  unfold maxLen at hn
  by_cases h : n ≤ 1048576
  · have HR : Hid ((if n ≤ 1048576 then 1048576 - (n : Int) else -1) = 1048576 - (n : Int)) := Lib.hid (if_pos h)
    go_enter Tryd.func30, Tryd.ntmps30
    go_wp2
    go_ret
    exact ⟨by first | rfl | exact congrArg (fun b => Ending.returned (.int .i64 b)) HR.out.symm, rfl⟩
  · have HR : Hid ((if n ≤ 1048576 then 1048576 - (n : Int) else -1) = -1) := Lib.hid (if_neg h)
    have h' : (1048576 : Int) < n := by omega
    go_enter Tryd.func30, Tryd.ntmps30
    go_wp2
    go_ret
    exact ⟨by first | rfl | exact congrArg (fun b => Ending.returned (.int .i64 b)) HR.out.symm, rfl⟩
theorem szPuzzle_any (k : Int) (A : Option Addr) (n c : Nat) (w : World) (hn : n ≤ maxLen) :
    Calls Tryd.prog 9 #[.agg #[.int .i64 k, .slice A n c], .int .i64 1048576] w fun e w' => e = .returned (.int .i64 (if n ≤ 1048576 then 1048576 - (n : Int) else -1)) ∧ Below w.heap.size w w' := by
  have HS := Lib.hid (fun wx => szClueS_any A n c wx hn)
  have hB : Below w.heap.size w (w.alloc (Obj.cells #[.int .i64 k, .slice A n c] 24)) := (Below.refl _ _).alloc (Nat.le_refl _) _
  by_cases h : n ≤ 1048576
  · rw [if_pos h] at HS ⊢
    go_enter Tryd.func9, Tryd.ntmps9
    go_wp2_with fail
    refine (HS.out _).mono ?_; rintro e w' ⟨rfl, rfl⟩
    go_wp2_with fail
    go_ret
    exact ⟨rfl, hB⟩
  · rw [if_neg h] at HS ⊢
    go_enter Tryd.func9, Tryd.ntmps9
    go_wp2_with fail
    refine (HS.out _).mono ?_; rintro e w' ⟨rfl, rfl⟩
    go_wp2_with fail
    go_ret
    exact ⟨rfl, hB⟩
set_option maxHeartbeats 400000 in
theorem eqClue_same (a b c : Int) (w : World) :
    Calls Tryd.prog 68 #[.agg #[.int .i64 a, .int .i64 b, .int .i64 c], .agg #[.int .i64 a, .int .i64 b, .int .i64 c]] w fun e w' => e = .returned (.bool true) ∧ Below w.heap.size w w' := by
  go_enter Tryd.func68, Tryd.ntmps68
  go_wp2
  go_ret
  exact ⟨rfl, ((Below.refl _ _).alloc (Nat.le_refl _) _).alloc (by simp) _⟩
set_option maxRecDepth 100000 in
set_option maxHeartbeats 2000000 in
theorem eqClueS_same (l : List Cl) (A1 A2 : Option Addr) (c1 c2 : Nat) (w : World) (h1 : ClIn w A1 l) (h2 : ClIn w A2 l) (hl : l.length ≤ 2000000) :
    Calls Tryd.prog 38 #[.slice A1 l.length c1, .slice A2 l.length c2] w fun e w' => e = .returned (.bool true) ∧ Below w.heap.size w w' := by
  have H1 := Lib.hid h1
  have H2 := Lib.hid h2
  clear h1 h2
  go_enter Tryd.func38, Tryd.ntmps38
  go_wp2
  go_loopw [5] (fun i wr => ∃ k : Nat, k ≤ l.length ∧ i = .int .i64 k ∧ Below w.heap.size w wr) (fun i _ => l.length - (intOf i).toNat)
  case atStart => exact ⟨0, Nat.zero_le _, rfl, Below.refl _ _⟩
  case round =>
    obtain ⟨k, hk, rfl, hB⟩ := hrel
    by_cases hlt : k < l.length
    · obtain ⟨g, o, rfl, z1, p1, q1, r1⟩ := (H1.out.below hB) k hlt
      obtain ⟨g', o', rfl, z2, p2, q2, r2⟩ := (H2.out.below hB) k hlt
      generalize l[k].1 = a at p1 p2
      generalize l[k].2.1 = b at q1 q2
      generalize l[k].2.2 = d at r1 r2
      have i1 : (0 : Int) ≤ (k : Int) := by omega
      have i2 : (k : Int) < (l.length : Int) := by omega
      go_wp2
      go_region_held3 (fun w' => w'.cell? ⟨g, o + k * 3, none⟩ = some (.int .i64 a) ∧ w'.cell? ⟨g, o + k * 3 + 1, none⟩ = some (.int .i64 b) ∧ w'.cell? ⟨g, o + k * 3 + 2, none⟩ = some (.int .i64 d) ∧ w'.cell? ⟨g', o' + k * 3, none⟩ = some (.int .i64 a) ∧ w'.cell? ⟨g', o' + k * 3 + 1, none⟩ = some (.int .i64 b) ∧ w'.cell? ⟨g', o' + k * 3 + 2, none⟩ = some (.int .i64 d)) (first | exact ⟨p1, q1, r1, p2, q2, r2⟩ | exact ⟨(hb.cell z1).trans p1, (hb.cell z1).trans q1, (hb.cell z1).trans r1, (hb.cell z2).trans p2, (hb.cell z2).trans q2, (hb.cell z2).trans r2⟩) (first | (go_at_call 68; refine (eqClue_same _ _ _ _).mono ?_; rintro e w' ⟨rfl, hb⟩))
      go_wp2
      go_roundw
      case rel => exact ⟨k + 1, by omega, by go_num, (Below.drew hB).trans (hb.mono hB.size)⟩
      case measure => simp [intOf]; omega
    · go_wp2
      go_ret
      exact ⟨rfl, hB⟩
set_option maxRecDepth 100000 in
set_option maxHeartbeats 1000000 in
theorem eqPuzzle_same (n : Int) (l : List Cl) (A1 A2 : Option Addr) (c1 c2 : Nat) (w : World) (h1 : ClIn w A1 l) (h2 : ClIn w A2 l) (hl : l.length ≤ 2000000) :
    Calls Tryd.prog 13 #[.agg #[.int .i64 n, .slice A1 l.length c1], .agg #[.int .i64 n, .slice A2 l.length c2]] w fun e w' => e = .returned (.bool true) ∧ Below w.heap.size w w' := by
  have HE := Lib.hid (fun wx (h1 : ClIn wx A1 l) (h2 : ClIn wx A2 l) => eqClueS_same l A1 A2 c1 c2 wx h1 h2 hl)
  have H1 := Lib.hid h1
  have H2 := Lib.hid h2
  clear h1 h2
  have hB : Below w.heap.size w ((w.alloc (Obj.cells #[.int .i64 n, .slice A1 l.length c1] 30)).alloc (Obj.cells #[.int .i64 n, .slice A2 l.length c2] 30)) := ((Below.refl _ _).alloc (Nat.le_refl _) _).alloc (by simp) _
  go_enter Tryd.func13, Tryd.ntmps13
  go_wp2_with fail
  refine (HE.out _ (H1.out.below hB) (H2.out.below hB)).mono ?_; rintro e w' ⟨rfl, hb⟩
  go_wp2_with fail
  go_ret
  exact ⟨rfl, hB.trans (hb.mono (by simp <;> omega))⟩

/-- The marks k, k + 1, ..: three for each of n clues. -/
def marks3 (k : Nat) (n : Nat) : List Cl := (List.range n).map fun (j : Nat) => (((k + 3 * j : Nat) : Int), ((k + 3 * j + 1 : Nat) : Int), ((k + 3 * j + 2 : Nat) : Int))
theorem marks3_len (k n : Nat) : (marks3 k n).length = n := by simp [marks3]
theorem marks3_next (k n : Nat) : marks3 k (n + 1) = marks3 k n ++ [(((k + 3 * n : Nat) : Int), ((k + 3 * n + 1 : Nat) : Int), ((k + 3 * n + 2 : Nat) : Int))] := by
  simp [marks3, List.range_succ]
theorem marks3_at (k n j : Nat) (h : j < (marks3 k n).length) : (marks3 k n)[j] = (((k + 3 * j : Nat) : Int), ((k + 3 * j + 1 : Nat) : Int), ((k + 3 * j + 2 : Nat) : Int)) := by simp [marks3]
set_option maxRecDepth 100000 in
set_option maxHeartbeats 2000000 in
theorem markClueS_far (n k0 base : Nat) (l : List Cl) (v : Value) (w : World) (hln : l.length = n) (hown : w.ownsRow base 61 3 v n (flat3 l)) (hn : n ≤ 2000000) (hk0 : k0 ≤ 1000) :
    Calls Tryd.prog 41 #[v, .int .i64 k0] w fun e w' => e = .returned (.int .i64 ((k0 : Int) + 3 * n)) ∧ (w'.ownsRow base 61 3 v n (flat3 (marks3 k0 n)) ∧ Below base w w' ∧ FarB v.ownBlock w w') := by
  rcases hown.2 with ⟨rfl, h0⟩ | ⟨g, cap, cur, rfl, hg, _, hcap, _⟩
  · have hz : n = 0 := by have h3 := flat3_len l; have h4 := hown.1; omega
    subst hz
    have HO : Hid (w.ownsRow base 61 3 (.slice none 0 0) 0 (flat3 (marks3 k0 0))) := by
      have e : flat3 l = flat3 (marks3 k0 0) := by rw [List.eq_nil_of_length_eq_zero hln]; rfl
      rw [← e]; exact hown
    clear hown h0
    go_enter Tryd.func41, Tryd.ntmps41
    go_wp2
    go_loop [1, 5] (fun x i => i = .int .i64 0 ∧ x = .int .i64 k0) (fun _ _ => 0)
    case atStart => exact ⟨rfl, rfl⟩
    case round =>
      obtain ⟨rfl, rfl⟩ := hrel
      go_wp2
      go_ret
      exact ⟨by simp, HO.out, Below.refl _ _, FarB.refl _ _⟩
  · have HO := Lib.hid hown
    clear hown
    go_enter Tryd.func41, Tryd.ntmps41
    go_wp2
    go_loopw [1, 5] (fun x i wr => ∃ (j : Nat) (K : Int), j ≤ n ∧ i = .int .i64 j ∧ x = .int .i64 K ∧ Hid (K = (k0 : Int) + 3 * j) ∧ 0 ≤ K ∧ K ≤ 10000000 ∧ wr.ownsRow base 61 3 (.slice (some ⟨g, 0, none⟩) n cap) n (flat3 (marks3 k0 j ++ l.drop j)) ∧ Below base w wr ∧ Hid (FarB (some g) w wr)) (fun _ i _ => n - (intOf i).toNat)
    case atStart => exact ⟨0, _, Nat.zero_le _, rfl, rfl, by show _ = _; simp, by omega, by omega, by simpa [marks3] using HO.out, Below.refl _ _, Lib.hid (FarB.refl _ _)⟩
    case round =>
      obtain ⟨j, K, hj, rfl, rfl, hK, _, _, hown, hB, hG⟩ := hrel
      by_cases hlt : j < n
      · obtain ⟨q, r, hd⟩ : ∃ q r, l.drop j = q :: r := by
          cases h : l.drop j with
          | nil => have := congrArg List.length h; simp at this; omega
          | cons q r => exact ⟨q, r, rfl⟩
        have hlen : (marks3 k0 j ++ l.drop j).length = n := by simp [marks3_len]; omega
        have f0 := hown.frozenAt (j * 3)
        have f1 := hown.frozenAt (j * 3 + 1)
        have f2 := hown.frozenAt (j * 3 + 2)
        have e0 := (hown.cellAt (j * 3) (by omega)).trans (flat3_at (marks3 k0 j ++ l.drop j) j (by omega)).1
        have e1 := (hown.cellAt (j * 3 + 1) (by omega)).trans (flat3_at (marks3 k0 j ++ l.drop j) j (by omega)).2.1
        have e2 := (hown.cellAt (j * 3 + 2) (by omega)).trans (flat3_at (marks3 k0 j ++ l.drop j) j (by omega)).2.2
        generalize (marks3 k0 j ++ l.drop j)[j].1 = a0 at e0
        generalize (marks3 k0 j ++ l.drop j)[j].2.1 = a1 at e1
        generalize (marks3 k0 j ++ l.drop j)[j].2.2 = a2 at e2
        have hs1 := (hown.stored (j * 3) (.int .i64 K)).1
        have hs2 := (hs1.stored (j * 3 + 1) (.int .i64 (K + 1))).1
        have hs3 := (hs2.stored (j * 3 + 2) (.int .i64 (K + 1 + 1))).1
        rw [flat3_set _ j (by omega), hd, set_mid3 _ _ _ _ j (marks3_len k0 j)] at hs3
        have hr : l.drop (j + 1) = r := by
          have := congrArg List.tail hd
          simpa using this
        have hm : marks3 k0 (j + 1) ++ l.drop (j + 1) = marks3 k0 j ++ [(K, K + 1, K + 1 + 1)] ++ r := by
          rw [marks3_next, hr, hK.out]; push_cast; rfl
        rw [← hm] at hs3
        have HS := Lib.hid hs3
        have i1 : (0 : Int) ≤ (j : Int) := by omega
        have i2 : (j : Int) < (n : Int) := by omega
        have hKn : Hid (K + 1 + 1 + 1 = (k0 : Int) + 3 * ((j + 1 : Nat) : Int)) := Lib.hid (by rw [hK.out]; push_cast; omega)
        have hKb : K + 1 + 1 + 1 ≤ 10000000 := by have := hK.out; omega
        clear hown hs1 hs2 hs3 hm hr hd hlen
        go_wp2
        go_roundw
        case rel => exact ⟨j + 1, K + 1 + 1 + 1, by omega, by go_num, rfl, hKn, by omega, hKb, HS.out, ((hB.setCell hg _).setCell hg _).setCell hg _, Lib.hid (((hG.out.set _ _).set _ _).set _ _)⟩
        case measure => simp [intOf]; omega
      · obtain rfl : j = n := by omega
        have hz : marks3 k0 j ++ l.drop j = marks3 k0 j := by rw [List.drop_of_length_le (by omega), List.append_nil]
        rw [hz] at hown
        have HS := Lib.hid hown
        clear hown hz
        go_wp2
        go_ret
        exact ⟨by show Ending.returned (.int .i64 K) = _; rw [hK.out], HS.out, hB, hG.out⟩
set_option maxRecDepth 100000 in
set_option maxHeartbeats 2000000 in
theorem heldClueS_any (n k0 base : Nat) (v : Value) (w : World) (hown : w.ownsRow base 61 3 v n (flat3 (marks3 k0 n))) (hn : n ≤ 1000) (hk0 : k0 ≤ 1000) :
    Calls Tryd.prog 42 #[v, .int .i64 k0] w fun e w' => e = .returned (.int .i64 ((k0 : Int) + 3 * n)) ∧ w = w' := by
  obtain ⟨A, cap, rfl, hat, _⟩ : ∃ A cap, v = .slice A n cap ∧ ClIn w A (marks3 k0 n) ∧ True := by
    obtain ⟨A, cap, e1, e2, _⟩ := cl_own (l := marks3 k0 n) (by rw [marks3_len]; exact hown)
    rw [marks3_len] at e1
    exact ⟨A, cap, e1, e2, trivial⟩
  have HA := Lib.hid hat
  clear hat hown
  go_enter Tryd.func42, Tryd.ntmps42
  go_wp2
  go_loop [1, 5] (fun x i => ∃ (j : Nat) (K : Int), j ≤ n ∧ i = .int .i64 j ∧ x = .int .i64 K ∧ Hid (K = (k0 : Int) + 3 * j) ∧ 0 ≤ K ∧ K ≤ 100000) (fun _ i => n - (intOf i).toNat)
  case atStart => exact ⟨0, _, Nat.zero_le _, rfl, rfl, by show _ = _; simp, by omega, by omega⟩
  case round =>
    obtain ⟨j, K, hj, rfl, rfl, hK, _, _⟩ := hrel
    by_cases hlt : j < n
    · obtain ⟨g, o, rfl, z, c0, c1, c2⟩ := HA.out j (by rw [marks3_len]; exact hlt)
      rw [marks3_at] at c0 c1 c2
      have e0 : (((k0 + 3 * j : Nat) : Int)) = K := by rw [hK.out]; push_cast; rfl
      have e1 : (((k0 + 3 * j + 1 : Nat) : Int)) = K + 1 := by rw [hK.out]; push_cast; rfl
      have e2 : (((k0 + 3 * j + 2 : Nat) : Int)) = K + 1 + 1 := by rw [hK.out]; push_cast; omega
      simp only [e0, e1, e2] at c0 c1 c2
      clear e0 e1 e2
      have i1 : (0 : Int) ≤ (j : Int) := by omega
      have i2 : (j : Int) < (n : Int) := by omega
      go_wp2
      go_round
      case rel => exact ⟨j + 1, K + 1 + 1 + 1, by omega, by go_num, rfl, by show _ = _; rw [hK.out]; push_cast; omega, by omega, by have := hK.out; omega⟩
      case measure => simp [intOf]; omega
    · obtain rfl : j = n := by omega
      go_wp2
      go_ret
      exact ⟨by show Ending.returned (.int .i64 K) = _; rw [hK.out], rfl⟩
set_option maxRecDepth 100000 in
set_option maxHeartbeats 1000000 in
theorem markPuzzle_far (c : Int) (n k0 base : Nat) (l : List Cl) (v : Value) (w : World) (hln : l.length = n) (hown : w.ownsRow base 61 3 v n (flat3 l)) (hn : n ≤ 2000000) (hk0 : k0 ≤ 1000) (hb : base ≤ w.heap.size) :
    Calls Tryd.prog 16 #[.agg #[.int .i64 c, v], .int .i64 k0] w fun e w' => e = .returned (.int .i64 ((k0 : Int) + 3 * n)) ∧ (w'.ownsRow base 61 3 v n (flat3 (marks3 k0 n)) ∧ Below base w w' ∧ FarB v.ownBlock w w') := by
  have HM := Lib.hid (fun wx (h : wx.ownsRow base 61 3 v n (flat3 l)) => markClueS_far n k0 base l v wx hln h hn hk0)
  obtain ⟨p, a, b, rfl⟩ : ∃ p a b, v = .slice p a b := by
    rcases hown.2 with ⟨rfl, _⟩ | ⟨g, cap, cur, rfl, _⟩
    · exact ⟨_, _, _, rfl⟩
    · exact ⟨_, _, _, rfl⟩
  have HO := Lib.hid (hown.alloc (Obj.cells #[.int .i64 c, .slice p a b] 30))
  have hB : Below base w (w.alloc (Obj.cells #[.int .i64 c, .slice p a b] 30)) := (Below.refl _ _).alloc hb _
  have hF : FarB (Value.slice p a b).ownBlock w (w.alloc (Obj.cells #[.int .i64 c, .slice p a b] 30)) := ⟨by simp, fun k _ hk => heap_past' _ _ _ hk⟩
  have HH := Lib.hid (And.intro hB hF)
  clear hown hB hF
  go_enter Tryd.func16, Tryd.ntmps16
  go_wp2_with fail
  refine (HM.out _ HO.out).mono ?_; rintro e w' ⟨rfl, o1, hb1, hf1⟩
  have HO1 := Lib.hid o1
  clear o1
  go_wp2_with fail
  go_ret
  exact ⟨rfl, HO1.out, HH.out.1.trans hb1, ⟨Nat.le_trans HH.out.2.1 hf1.1, fun k h1 h2 => (hf1.2 k h1 (Nat.lt_of_lt_of_le h2 HH.out.2.1)).trans (HH.out.2.2 k h1 h2)⟩⟩
set_option maxRecDepth 100000 in
set_option maxHeartbeats 1000000 in
theorem heldPuzzle_any (c : Int) (n k0 base : Nat) (v : Value) (w : World) (hown : w.ownsRow base 61 3 v n (flat3 (marks3 k0 n))) (hn : n ≤ 1000) (hk0 : k0 ≤ 1000) :
    Calls Tryd.prog 17 #[.agg #[.int .i64 c, v], .int .i64 k0] w fun e w' => e = .returned (.int .i64 ((k0 : Int) + 3 * n)) ∧ Below w.heap.size w w' := by
  have HM := Lib.hid (fun wx (h : wx.ownsRow base 61 3 v n (flat3 (marks3 k0 n))) => heldClueS_any n k0 base v wx h hn hk0)
  obtain ⟨p, a, b, rfl⟩ : ∃ p a b, v = .slice p a b := by
    rcases hown.2 with ⟨rfl, _⟩ | ⟨g, cap, cur, rfl, _⟩
    · exact ⟨_, _, _, rfl⟩
    · exact ⟨_, _, _, rfl⟩
  have HO := Lib.hid (hown.alloc (Obj.cells #[.int .i64 c, .slice p a b] 30))
  have hB : Below w.heap.size w (w.alloc (Obj.cells #[.int .i64 c, .slice p a b] 30)) := (Below.refl _ _).alloc (Nat.le_refl _) _
  have hp : ¬ ((k0 : Int) + 3 * n < 0) := by omega
  clear hown
  go_enter Tryd.func17, Tryd.ntmps17
  go_wp2_with fail
  refine (HM.out _ HO.out).mono ?_; rintro e w' ⟨rfl, rfl⟩
  go_wp2_with fail
  go_ret
  exact ⟨rfl, hB⟩
end Go.Proofs.YtjnidfleccbdbaaDoor

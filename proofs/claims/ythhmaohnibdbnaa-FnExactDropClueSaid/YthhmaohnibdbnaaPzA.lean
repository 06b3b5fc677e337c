/- Contracts: what a clue is, the model's and the program's. -/
import Derived.Test.YthhmaohnibdbnaaSpecA
namespace Go.Proofs.Ythhmaohnibdbnaa
open Go.RowKit

/-- A clue of a line of so many cells. -/
def clueOk (n k a b : Int) : Bool :=
  if k = 0 then inR a 0 (n - 1) && inR b 0 2
  else decide (b = 0) && (if k = 1 ∨ k = 2 then inR a 0 n else if k = 3 then inR a 0 (2 * n) else if k = 4 then inR a 0 10 else if k = 5 then inR a 0 3 else false)
def clueC (n k a b : Int) : Bool := inR n 1 5 && clueOk n k a b
/-- The greatest A and B of a kind. -/
def mostA (n k : Int) : Int := if k = 0 then n - 1 else if k = 1 ∨ k = 2 then n else if k = 3 then 2 * n else if k = 4 then 10 else 3
theorem clueOk_mostly (n k a b : Int) (hk : 0 ≤ k ∧ k ≤ 5) : clueOk n k a b = (decide (0 ≤ a) && decide (a ≤ mostA n k) && decide (0 ≤ b) && decide (b ≤ if k = 0 then 2 else 0)) := by
  have h : k = 0 ∨ k = 1 ∨ k = 2 ∨ k = 3 ∨ k = 4 ∨ k = 5 := by omega
  have hb : decide (b = 0) = (decide (0 ≤ b) && decide (b ≤ 0)) := by
    rw [Bool.eq_iff_iff]; simp only [Bool.and_eq_true, decide_eq_true_eq]; omega
  rcases h with rfl | rfl | rfl | rfl | rfl | rfl <;> simp [clueOk, mostA, inR, hb, Bool.and_assoc, Bool.and_comm, Bool.and_left_comm]
theorem clueOk_none (n k a b : Int) (hk : ¬ (0 ≤ k ∧ k ≤ 5)) : clueOk n k a b = false := by
  unfold clueOk
  rw [if_neg (by omega), if_neg (by omega), if_neg (by omega), if_neg (by omega), if_neg (by omega), Bool.and_false]

set_option maxRecDepth 100000 in
set_option maxHeartbeats 1000000 in
theorem pzClue_any (n k a b : Int) (w : World) (hn : 1 ≤ n ∧ n ≤ 5) :
    Calls Try.prog 28 #[.int .i64 n, .agg #[.int .i64 k, .int .i64 a, .int .i64 b]] w fun e w' => e = .returned (.bool (clueOk n k a b)) ∧ Below w.heap.size w w' := by
  have hB : Below w.heap.size w (w.alloc (Obj.cells #[.int .i64 k, .int .i64 a, .int .i64 b] 25)) := (Below.refl _ _).alloc (Nat.le_refl _) _
  obtain ⟨n1, n2⟩ := hn
  by_cases h0 : k = 0
  · subst h0
    have HR : Hid (clueOk n 0 a b = (inR a 0 (n - 1) && inR b 0 2)) := rfl
    have e1 : IntKind.i64.wrap (n - 1) = n - 1 := by rw [IntKind.wrap_i64]; omega
    cases ha : inR a 0 (n - 1)
    · have HA := Lib.hid ha
      clear ha
      go_enter Try.func28, Try.ntmps28
      go_wp2_with fail
      refine (l1In_any _ _ _ _).mono ?_; rintro e w' ⟨rfl, rfl⟩; rw [HA.out]
      go_wp2_with fail
      go_ret
      exact ⟨by rw [HR.out, HA.out]; rfl, hB⟩
    · have HA := Lib.hid ha
      clear ha
      go_enter Try.func28, Try.ntmps28
      go_wp2_with fail
      refine (l1In_any _ _ _ _).mono ?_; rintro e w' ⟨rfl, rfl⟩; rw [HA.out]
      go_wp2_with fail
      refine (l1In_any _ _ _ _).mono ?_; rintro e w' ⟨rfl, rfl⟩
      go_wp2_with fail
      go_ret
      exact ⟨by rw [HR.out, HA.out]; rfl, hB⟩
  · have k0 : (k == 0) = false := by simpa using h0
    by_cases hb : b = 0
    · subst hb
      have HR : Hid (clueOk n k a 0 = (if k = 1 ∨ k = 2 then inR a 0 n else if k = 3 then inR a 0 (2 * n) else if k = 4 then inR a 0 10 else if k = 5 then inR a 0 3 else false)) := Lib.hid (by unfold clueOk; rw [if_neg h0]; simp)
      by_cases h1 : k = 1
      · subst h1
        go_enter Try.func28, Try.ntmps28
        go_wp2_with fail
        refine (l1In_any _ _ _ _).mono ?_; rintro e w' ⟨rfl, rfl⟩
        go_wp2_with fail
        go_ret
        exact ⟨congrArg (fun b => Ending.returned (.bool b)) HR.out.symm, hB⟩
      · have k1 : (k == 1) = false := by simpa using h1
        by_cases h2 : k = 2
        · subst h2
          go_enter Try.func28, Try.ntmps28
          go_wp2_with fail
          refine (l1In_any _ _ _ _).mono ?_; rintro e w' ⟨rfl, rfl⟩
          go_wp2_with fail
          go_ret
          exact ⟨congrArg (fun b => Ending.returned (.bool b)) HR.out.symm, hB⟩
        · have k2 : (k == 2) = false := by simpa using h2
          have e2 : IntKind.i64.wrap (2 * n) = 2 * n := by rw [IntKind.wrap_i64]; omega
          by_cases h3 : k = 3
          · subst h3
            go_enter Try.func28, Try.ntmps28
            go_wp2_with fail
            refine (l1In_any _ _ _ _).mono ?_; rintro e w' ⟨rfl, rfl⟩
            go_wp2_with fail
            go_ret
            exact ⟨congrArg (fun b => Ending.returned (.bool b)) HR.out.symm, hB⟩
          · have k3 : (k == 3) = false := by simpa using h3
            by_cases h4 : k = 4
            · subst h4
              go_enter Try.func28, Try.ntmps28
              go_wp2_with fail
              refine (l1In_any _ _ _ _).mono ?_; rintro e w' ⟨rfl, rfl⟩
              go_wp2_with fail
              go_ret
              exact ⟨congrArg (fun b => Ending.returned (.bool b)) HR.out.symm, hB⟩
            · have k4 : (k == 4) = false := by simpa using h4
              by_cases h5 : k = 5
              · subst h5
                go_enter Try.func28, Try.ntmps28
                go_wp2_with fail
                refine (l1In_any _ _ _ _).mono ?_; rintro e w' ⟨rfl, rfl⟩
                go_wp2_with fail
                go_ret
                exact ⟨congrArg (fun b => Ending.returned (.bool b)) HR.out.symm, hB⟩
              · have k5 : (k == 5) = false := by simpa using h5
                have HF : Hid (clueOk n k a 0 = false) := Lib.hid (by rw [HR.out, if_neg (by omega), if_neg (by omega), if_neg (by omega), if_neg (by omega)])
                go_enter Try.func28, Try.ntmps28
                go_wp2_with fail
                go_ret
                exact ⟨congrArg (fun b => Ending.returned (.bool b)) HF.out.symm, hB⟩
    · have hb' : (b != 0) = true := by simpa using hb
      have HF : Hid (clueOk n k a b = false) := Lib.hid (by unfold clueOk; rw [if_neg h0]; simp [hb])
      go_enter Try.func28, Try.ntmps28
      go_wp2_with fail
      go_ret
      exact ⟨congrArg (fun b => Ending.returned (.bool b)) HF.out.symm, hB⟩

set_option maxHeartbeats 400000 in
theorem pzCells_any (n : Int) (w : World) :
    Calls Try.prog 27 #[.int .i64 n] w fun e w' => e = .returned (.bool (inR n 1 5)) ∧ w = w' := by
  go_enter Try.func27, Try.ntmps27
  go_wp2_with fail
  refine (l1In_any _ _ _ _).mono ?_; rintro e w' ⟨rfl, rfl⟩
  go_wp2_with fail
  go_ret
  exact ⟨rfl, rfl⟩

set_option maxRecDepth 100000 in
set_option maxHeartbeats 1000000 in
theorem sIsClue_any (n k a b : Int) (w : World) :
    Calls Try.prog 9 #[.int .i64 n, .agg #[.int .i64 k, .int .i64 a, .int .i64 b]] w fun e w' => e = .returned (.bool (clueC n k a b)) ∧ Below w.heap.size w w' := by
  have hB : Below w.heap.size w (w.alloc (Obj.cells #[.int .i64 k, .int .i64 a, .int .i64 b] 25)) := (Below.refl _ _).alloc (Nat.le_refl _) _
  cases hn : inR n 1 5
  · have HN := Lib.hid hn
    have HR : Hid (clueC n k a b = false) := Lib.hid (by unfold clueC; rw [hn]; rfl)
    clear hn
    go_enter Try.func9, Try.ntmps9
    go_wp2_with fail
    refine (pzCells_any _ _).mono ?_; rintro e w' ⟨rfl, rfl⟩; rw [HN.out]
    go_wp2_with fail
    go_ret
    exact ⟨congrArg (fun b => Ending.returned (.bool b)) HR.out.symm, hB⟩
  · have HN := Lib.hid hn
    have h15 : 1 ≤ n ∧ n ≤ 5 := by simpa [inR] using hn
    have HR : Hid (clueC n k a b = clueOk n k a b) := Lib.hid (by unfold clueC; rw [hn]; rfl)
    clear hn
    go_enter Try.func9, Try.ntmps9
    go_wp2_with fail
    refine (pzCells_any _ _).mono ?_; rintro e w' ⟨rfl, rfl⟩; rw [HN.out]
    go_wp2_with fail
    refine (pzClue_any n k a b _ h15).mono ?_; rintro e w' ⟨rfl, hb⟩
    go_wp2_with fail
    go_ret
    exact ⟨congrArg (fun b => Ending.returned (.bool b)) HR.out.symm, hB.trans (hb.mono (by simp))⟩

set_option maxRecDepth 100000 in
set_option maxHeartbeats 1000000 in
theorem IsClue_any (n k a b : Int) (w : World) :
    Calls Try.prog 11 #[.int .i64 n, .agg #[.int .i64 k, .int .i64 a, .int .i64 b]] w fun e w' => e = .returned (.bool (clueC n k a b)) ∧ Below w.heap.size w w' := by
  have hB : Below w.heap.size w (w.alloc (Obj.cells #[.int .i64 k, .int .i64 a, .int .i64 b] 25)) := (Below.refl _ _).alloc (Nat.le_refl _) _
  by_cases n1 : n < 1
  · have HR : Hid (clueC n k a b = false) := Lib.hid (by unfold clueC inR; rw [decide_eq_false (by omega)]; rfl)
    go_enter Try.func11, Try.ntmps11
    go_wp2_with fail
    go_ret
    exact ⟨congrArg (fun b => Ending.returned (.bool b)) HR.out.symm, hB⟩
  by_cases n5 : 5 < n
  · have HR : Hid (clueC n k a b = false) := Lib.hid (by unfold clueC inR; rw [decide_eq_false (p := n ≤ 5) (by omega), Bool.and_false]; rfl)
    go_enter Try.func11, Try.ntmps11
    go_wp2_with fail
    go_ret
    exact ⟨congrArg (fun b => Ending.returned (.bool b)) HR.out.symm, hB⟩
  have HC : Hid (clueC n k a b = clueOk n k a b) := Lib.hid (by unfold clueC inR; rw [decide_eq_true (by omega : 1 ≤ n), decide_eq_true (by omega : n ≤ 5)]; rfl)
  have e1 : IntKind.i64.wrap (n - 1) = n - 1 := by rw [IntKind.wrap_i64]; omega
  have e2 : IntKind.i64.wrap (2 * n) = 2 * n := by rw [IntKind.wrap_i64]; omega
  by_cases hk : 0 ≤ k ∧ k ≤ 5
  · have HR : Hid (clueC n k a b = (decide (0 ≤ a) && decide (a ≤ mostA n k) && decide (0 ≤ b) && decide (b ≤ if k = 0 then 2 else 0))) := Lib.hid (HC.out.trans (clueOk_mostly n k a b hk))
    have h : k = 0 ∨ k = 1 ∨ k = 2 ∨ k = 3 ∨ k = 4 ∨ k = 5 := by omega
    rcases h with rfl | rfl | rfl | rfl | rfl | rfl
    · by_cases a0 : a < 0
      · have HF : Hid (clueC n 0 a b = false) := Lib.hid (HR.out.trans (by show (decide (0 ≤ a) && decide (a ≤ n - 1) && decide (0 ≤ b) && decide (b ≤ 2)) = _; rw [decide_eq_false (p := 0 ≤ a) (by omega)]; rfl))
        clear HR HC
        go_enter Try.func11, Try.ntmps11
        go_wp2_with fail
        go_ret
        exact ⟨congrArg (fun b => Ending.returned (.bool b)) HF.out.symm, hB⟩
      by_cases a1 : n - 1 < a
      · have HF : Hid (clueC n 0 a b = false) := Lib.hid (HR.out.trans (by show (decide (0 ≤ a) && decide (a ≤ n - 1) && decide (0 ≤ b) && decide (b ≤ 2)) = _; rw [decide_eq_false (p := a ≤ n - 1) (by omega), Bool.and_false]; rfl))
        clear HR HC
        go_enter Try.func11, Try.ntmps11
        go_wp2_with fail
        go_ret
        exact ⟨congrArg (fun b => Ending.returned (.bool b)) HF.out.symm, hB⟩
      by_cases b0 : b < 0
      · have HF : Hid (clueC n 0 a b = false) := Lib.hid (HR.out.trans (by show (decide (0 ≤ a) && decide (a ≤ n - 1) && decide (0 ≤ b) && decide (b ≤ 2)) = _; rw [decide_eq_false (p := 0 ≤ b) (by omega), Bool.and_false]; rfl))
        clear HR HC
        go_enter Try.func11, Try.ntmps11
        go_wp2_with fail
        go_ret
        exact ⟨congrArg (fun b => Ending.returned (.bool b)) HF.out.symm, hB⟩
      · have HF : Hid (clueC n 0 a b = decide (b ≤ 2)) := Lib.hid (HR.out.trans (by show (decide (0 ≤ a) && decide (a ≤ n - 1) && decide (0 ≤ b) && decide (b ≤ 2)) = _; rw [decide_eq_true (p := 0 ≤ a) (by omega), decide_eq_true (p := a ≤ n - 1) (by omega), decide_eq_true (p := 0 ≤ b) (by omega)]; rfl))
        clear HR HC
        go_enter Try.func11, Try.ntmps11
        go_wp2_with fail
        go_ret
        exact ⟨congrArg (fun b => Ending.returned (.bool b)) HF.out.symm, hB⟩
    · by_cases a0 : a < 0
      · have HF : Hid (clueC n 1 a b = false) := Lib.hid (HR.out.trans (by show (decide (0 ≤ a) && decide (a ≤ n) && decide (0 ≤ b) && decide (b ≤ 0)) = _; rw [decide_eq_false (p := 0 ≤ a) (by omega)]; rfl))
        clear HR HC
        go_enter Try.func11, Try.ntmps11
        go_wp2_with fail
        go_ret
        exact ⟨congrArg (fun b => Ending.returned (.bool b)) HF.out.symm, hB⟩
      by_cases a1 : n < a
      · have HF : Hid (clueC n 1 a b = false) := Lib.hid (HR.out.trans (by show (decide (0 ≤ a) && decide (a ≤ n) && decide (0 ≤ b) && decide (b ≤ 0)) = _; rw [decide_eq_false (p := a ≤ n) (by omega), Bool.and_false]; rfl))
        clear HR HC
        go_enter Try.func11, Try.ntmps11
        go_wp2_with fail
        go_ret
        exact ⟨congrArg (fun b => Ending.returned (.bool b)) HF.out.symm, hB⟩
      by_cases b0 : b < 0
      · have HF : Hid (clueC n 1 a b = false) := Lib.hid (HR.out.trans (by show (decide (0 ≤ a) && decide (a ≤ n) && decide (0 ≤ b) && decide (b ≤ 0)) = _; rw [decide_eq_false (p := 0 ≤ b) (by omega), Bool.and_false]; rfl))
        clear HR HC
        go_enter Try.func11, Try.ntmps11
        go_wp2_with fail
        go_ret
        exact ⟨congrArg (fun b => Ending.returned (.bool b)) HF.out.symm, hB⟩
      · have HF : Hid (clueC n 1 a b = decide (b ≤ 0)) := Lib.hid (HR.out.trans (by show (decide (0 ≤ a) && decide (a ≤ n) && decide (0 ≤ b) && decide (b ≤ 0)) = _; rw [decide_eq_true (p := 0 ≤ a) (by omega), decide_eq_true (p := a ≤ n) (by omega), decide_eq_true (p := 0 ≤ b) (by omega)]; rfl))
        clear HR HC
        go_enter Try.func11, Try.ntmps11
        go_wp2_with fail
        go_ret
        exact ⟨congrArg (fun b => Ending.returned (.bool b)) HF.out.symm, hB⟩
    · by_cases a0 : a < 0
      · have HF : Hid (clueC n 2 a b = false) := Lib.hid (HR.out.trans (by show (decide (0 ≤ a) && decide (a ≤ n) && decide (0 ≤ b) && decide (b ≤ 0)) = _; rw [decide_eq_false (p := 0 ≤ a) (by omega)]; rfl))
        clear HR HC
        go_enter Try.func11, Try.ntmps11
        go_wp2_with fail
        go_ret
        exact ⟨congrArg (fun b => Ending.returned (.bool b)) HF.out.symm, hB⟩
      by_cases a1 : n < a
      · have HF : Hid (clueC n 2 a b = false) := Lib.hid (HR.out.trans (by show (decide (0 ≤ a) && decide (a ≤ n) && decide (0 ≤ b) && decide (b ≤ 0)) = _; rw [decide_eq_false (p := a ≤ n) (by omega), Bool.and_false]; rfl))
        clear HR HC
        go_enter Try.func11, Try.ntmps11
        go_wp2_with fail
        go_ret
        exact ⟨congrArg (fun b => Ending.returned (.bool b)) HF.out.symm, hB⟩
      by_cases b0 : b < 0
      · have HF : Hid (clueC n 2 a b = false) := Lib.hid (HR.out.trans (by show (decide (0 ≤ a) && decide (a ≤ n) && decide (0 ≤ b) && decide (b ≤ 0)) = _; rw [decide_eq_false (p := 0 ≤ b) (by omega), Bool.and_false]; rfl))
        clear HR HC
        go_enter Try.func11, Try.ntmps11
        go_wp2_with fail
        go_ret
        exact ⟨congrArg (fun b => Ending.returned (.bool b)) HF.out.symm, hB⟩
      · have HF : Hid (clueC n 2 a b = decide (b ≤ 0)) := Lib.hid (HR.out.trans (by show (decide (0 ≤ a) && decide (a ≤ n) && decide (0 ≤ b) && decide (b ≤ 0)) = _; rw [decide_eq_true (p := 0 ≤ a) (by omega), decide_eq_true (p := a ≤ n) (by omega), decide_eq_true (p := 0 ≤ b) (by omega)]; rfl))
        clear HR HC
        go_enter Try.func11, Try.ntmps11
        go_wp2_with fail
        go_ret
        exact ⟨congrArg (fun b => Ending.returned (.bool b)) HF.out.symm, hB⟩
    · by_cases a0 : a < 0
      · have HF : Hid (clueC n 3 a b = false) := Lib.hid (HR.out.trans (by show (decide (0 ≤ a) && decide (a ≤ 2 * n) && decide (0 ≤ b) && decide (b ≤ 0)) = _; rw [decide_eq_false (p := 0 ≤ a) (by omega)]; rfl))
        clear HR HC
        go_enter Try.func11, Try.ntmps11
        go_wp2_with fail
        go_ret
        exact ⟨congrArg (fun b => Ending.returned (.bool b)) HF.out.symm, hB⟩
      by_cases a1 : 2 * n < a
      · have HF : Hid (clueC n 3 a b = false) := Lib.hid (HR.out.trans (by show (decide (0 ≤ a) && decide (a ≤ 2 * n) && decide (0 ≤ b) && decide (b ≤ 0)) = _; rw [decide_eq_false (p := a ≤ 2 * n) (by omega), Bool.and_false]; rfl))
        clear HR HC
        go_enter Try.func11, Try.ntmps11
        go_wp2_with fail
        go_ret
        exact ⟨congrArg (fun b => Ending.returned (.bool b)) HF.out.symm, hB⟩
      by_cases b0 : b < 0
      · have HF : Hid (clueC n 3 a b = false) := Lib.hid (HR.out.trans (by show (decide (0 ≤ a) && decide (a ≤ 2 * n) && decide (0 ≤ b) && decide (b ≤ 0)) = _; rw [decide_eq_false (p := 0 ≤ b) (by omega), Bool.and_false]; rfl))
        clear HR HC
        go_enter Try.func11, Try.ntmps11
        go_wp2_with fail
        go_ret
        exact ⟨congrArg (fun b => Ending.returned (.bool b)) HF.out.symm, hB⟩
      · have HF : Hid (clueC n 3 a b = decide (b ≤ 0)) := Lib.hid (HR.out.trans (by show (decide (0 ≤ a) && decide (a ≤ 2 * n) && decide (0 ≤ b) && decide (b ≤ 0)) = _; rw [decide_eq_true (p := 0 ≤ a) (by omega), decide_eq_true (p := a ≤ 2 * n) (by omega), decide_eq_true (p := 0 ≤ b) (by omega)]; rfl))
        clear HR HC
        go_enter Try.func11, Try.ntmps11
        go_wp2_with fail
        go_ret
        exact ⟨congrArg (fun b => Ending.returned (.bool b)) HF.out.symm, hB⟩
    · by_cases a0 : a < 0
      · have HF : Hid (clueC n 4 a b = false) := Lib.hid (HR.out.trans (by show (decide (0 ≤ a) && decide (a ≤ 10) && decide (0 ≤ b) && decide (b ≤ 0)) = _; rw [decide_eq_false (p := 0 ≤ a) (by omega)]; rfl))
        clear HR HC
        go_enter Try.func11, Try.ntmps11
        go_wp2_with fail
        go_ret
        exact ⟨congrArg (fun b => Ending.returned (.bool b)) HF.out.symm, hB⟩
      by_cases a1 : 10 < a
      · have HF : Hid (clueC n 4 a b = false) := Lib.hid (HR.out.trans (by show (decide (0 ≤ a) && decide (a ≤ 10) && decide (0 ≤ b) && decide (b ≤ 0)) = _; rw [decide_eq_false (p := a ≤ 10) (by omega), Bool.and_false]; rfl))
        clear HR HC
        go_enter Try.func11, Try.ntmps11
        go_wp2_with fail
        go_ret
        exact ⟨congrArg (fun b => Ending.returned (.bool b)) HF.out.symm, hB⟩
      by_cases b0 : b < 0
      · have HF : Hid (clueC n 4 a b = false) := Lib.hid (HR.out.trans (by show (decide (0 ≤ a) && decide (a ≤ 10) && decide (0 ≤ b) && decide (b ≤ 0)) = _; rw [decide_eq_false (p := 0 ≤ b) (by omega), Bool.and_false]; rfl))
        clear HR HC
        go_enter Try.func11, Try.ntmps11
        go_wp2_with fail
        go_ret
        exact ⟨congrArg (fun b => Ending.returned (.bool b)) HF.out.symm, hB⟩
      · have HF : Hid (clueC n 4 a b = decide (b ≤ 0)) := Lib.hid (HR.out.trans (by show (decide (0 ≤ a) && decide (a ≤ 10) && decide (0 ≤ b) && decide (b ≤ 0)) = _; rw [decide_eq_true (p := 0 ≤ a) (by omega), decide_eq_true (p := a ≤ 10) (by omega), decide_eq_true (p := 0 ≤ b) (by omega)]; rfl))
        clear HR HC
        go_enter Try.func11, Try.ntmps11
        go_wp2_with fail
        go_ret
        exact ⟨congrArg (fun b => Ending.returned (.bool b)) HF.out.symm, hB⟩
    · by_cases a0 : a < 0
      · have HF : Hid (clueC n 5 a b = false) := Lib.hid (HR.out.trans (by show (decide (0 ≤ a) && decide (a ≤ 3) && decide (0 ≤ b) && decide (b ≤ 0)) = _; rw [decide_eq_false (p := 0 ≤ a) (by omega)]; rfl))
        clear HR HC
        go_enter Try.func11, Try.ntmps11
        go_wp2_with fail
        go_ret
        exact ⟨congrArg (fun b => Ending.returned (.bool b)) HF.out.symm, hB⟩
      by_cases a1 : 3 < a
      · have HF : Hid (clueC n 5 a b = false) := Lib.hid (HR.out.trans (by show (decide (0 ≤ a) && decide (a ≤ 3) && decide (0 ≤ b) && decide (b ≤ 0)) = _; rw [decide_eq_false (p := a ≤ 3) (by omega), Bool.and_false]; rfl))
        clear HR HC
        go_enter Try.func11, Try.ntmps11
        go_wp2_with fail
        go_ret
        exact ⟨congrArg (fun b => Ending.returned (.bool b)) HF.out.symm, hB⟩
      by_cases b0 : b < 0
      · have HF : Hid (clueC n 5 a b = false) := Lib.hid (HR.out.trans (by show (decide (0 ≤ a) && decide (a ≤ 3) && decide (0 ≤ b) && decide (b ≤ 0)) = _; rw [decide_eq_false (p := 0 ≤ b) (by omega), Bool.and_false]; rfl))
        clear HR HC
        go_enter Try.func11, Try.ntmps11
        go_wp2_with fail
        go_ret
        exact ⟨congrArg (fun b => Ending.returned (.bool b)) HF.out.symm, hB⟩
      · have HF : Hid (clueC n 5 a b = decide (b ≤ 0)) := Lib.hid (HR.out.trans (by show (decide (0 ≤ a) && decide (a ≤ 3) && decide (0 ≤ b) && decide (b ≤ 0)) = _; rw [decide_eq_true (p := 0 ≤ a) (by omega), decide_eq_true (p := a ≤ 3) (by omega), decide_eq_true (p := 0 ≤ b) (by omega)]; rfl))
        clear HR HC
        go_enter Try.func11, Try.ntmps11
        go_wp2_with fail
        go_ret
        exact ⟨congrArg (fun b => Ending.returned (.bool b)) HF.out.symm, hB⟩
  · have HF : Hid (clueC n k a b = false) := Lib.hid (HC.out.trans (clueOk_none n k a b hk))
    have k0 : (k == 0) = false := beq_eq_false_iff_ne.2 (by omega)
    have k1 : (k == 1) = false := beq_eq_false_iff_ne.2 (by omega)
    have k2 : (k == 2) = false := beq_eq_false_iff_ne.2 (by omega)
    have k3 : (k == 3) = false := beq_eq_false_iff_ne.2 (by omega)
    have k4 : (k == 4) = false := beq_eq_false_iff_ne.2 (by omega)
    have k5 : (k == 5) = false := beq_eq_false_iff_ne.2 (by omega)
    go_enter Try.func11, Try.ntmps11
    go_wp2_with fail
    go_ret
    exact ⟨congrArg (fun b => Ending.returned (.bool b)) HF.out.symm, hB⟩
end Go.Proofs.Ythhmaohnibdbnaa

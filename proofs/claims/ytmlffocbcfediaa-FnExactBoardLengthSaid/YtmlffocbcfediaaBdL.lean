/- How many moves an exchange of a board has: both sides, the law's walk. -/
import Derived.Test.YtmlffocbcfediaaBdG
namespace Go.Proofs.Ytmlffocbcfediaa
open Go.RowKit

def bdLen (a b : Int) : Int := b * b + 2 * b + (2 * b + 1) * (a * a + 2 * a)
/-- The library's whole ExchangeLength at like kinds and one gap. -/
theorem exLen_half (n : Nat) (w : World) (hn : n ≤ 2) :
    Calls Try.prog 20 #[.int .i64 n, .int .i64 1, .int .i64 n] w fun e w' => e = .returned (.tuple #[.int .i64 (n * n + 2 * n), .bool true]) ∧ w = w' := by
  have h := exLen_any (n : Int) 1 n w
  have h1 : few (n : Int) 1 n = true := (few_iff _ _ _).2 (by omega)
  have h2 : hasEx (n : Int) 1 n = true := by simp [hasEx]
  have h3 : exLen (n : Int) 1 n = n * n + 2 * n := by unfold exLen; omega
  rw [h1, h2, h3] at h
  exact h

set_option maxRecDepth 100000 in
set_option maxHeartbeats 1000000 in
theorem sBdLen_any (a b : Int) (w : World) :
    Calls Try.prog 10 #[.int .i64 a, .int .i64 b] w fun e w' => e = .returned (intOr (halves a b) (bdLen a b)) ∧ Below w.heap.size w w' := by
  have HH := Lib.hid (fun wx => boHalves_any a b wx)
  cases hc : halves a b
  · rw [hc] at HH
    clear hc
    rw [intOr_no _ _ rfl]
    go_enter Try.func10, Try.ntmps10
    go_wp2_with fail
    refine (HH.out _).mono ?_
    rintro e w0 ⟨rfl, rfl⟩
    go_wp2
    go_ret2
    exact ⟨rfl, Below.refl _ _⟩
  · obtain ⟨m, n, rfl, rfl, hm, hn⟩ := halves_nat hc
    rw [hc] at HH
    clear hc
    rw [intOr_yes _ _ rfl]
    unfold bdLen
    have h1 : (m = 0 ∨ m = 1 ∨ m = 2) := by omega
    have h2 : (n = 0 ∨ n = 1 ∨ n = 2) := by omega
    rcases h1 with rfl | rfl | rfl <;> rcases h2 with rfl | rfl | rfl
    all_goals
      go_enter Try.func10, Try.ntmps10
      go_wp2_with fail
      refine (HH.out _).mono ?_
      rintro e w0 ⟨rfl, rfl⟩
      go_wp2
      go_ret2
      exact ⟨rfl, Below.refl _ _⟩
set_option maxRecDepth 100000 in
set_option maxHeartbeats 1000000 in
theorem bdLen_any (a b : Int) (w : World) :
    Calls Try.prog 11 #[.int .i64 a, .int .i64 b] w fun e w' => e = .returned (intOr (halves a b) (bdLen a b)) ∧ Below w.heap.size w w' := by
  have HH := Lib.hid (fun wx => areHalves_any a b wx)
  cases hc : halves a b
  · rw [hc] at HH
    clear hc
    rw [intOr_no _ _ rfl]
    go_enter Try.func11, Try.ntmps11
    go_wp2_with fail
    refine (HH.out _).mono ?_
    rintro e w0 ⟨rfl, rfl⟩
    go_wp2
    go_ret2
    exact ⟨rfl, Below.refl _ _⟩
  · obtain ⟨m, n, rfl, rfl, hm, hn⟩ := halves_nat hc
    rw [hc] at HH
    clear hc
    rw [intOr_yes _ _ rfl]
    unfold bdLen
    have H1 := Lib.hid (fun wx => exLen_half n wx hn)
    have H2 := Lib.hid (fun wx => exLen_half m wx hm)
    have h1 : (m = 0 ∨ m = 1 ∨ m = 2) := by omega
    have h2 : (n = 0 ∨ n = 1 ∨ n = 2) := by omega
    rcases h1 with rfl | rfl | rfl <;> rcases h2 with rfl | rfl | rfl
    all_goals
      go_enter Try.func11, Try.ntmps11
      go_wp2_with fail
      refine (HH.out _).mono ?_
      rintro e w0 ⟨rfl, rfl⟩
      go_wp2_with fail
      refine (H1.out _).mono ?_
      rintro e w1 ⟨rfl, rfl⟩
      go_wp2_with fail
      refine (H2.out _).mono ?_
      rintro e w2 ⟨rfl, rfl⟩
      go_wp2
      go_ret2
      exact ⟨rfl, Below.refl _ _⟩
set_option maxRecDepth 100000 in
set_option maxHeartbeats 2000000 in
theorem walk_FnExactBoardLength (a : Int) (_ : (Lit.int .i64 a).wf = true) (b : Int) (_ : (Lit.int .i64 b).wf = true) (w : World) :
    Calls Try.prog 5 #[.int .i64 a, .int .i64 b] w fun e w' => e = .returned (.bool true) ∧ Below w.heap.size w w' := by
  have HS := Lib.hid (fun wx => sBdLen_any a b wx)
  have HM := Lib.hid (fun wx => bdLen_any a b wx)
  obtain ⟨x, y, hxy⟩ : ∃ x y, intOr (halves a b) (bdLen a b) = .tuple #[.int .i64 x, .bool y] := by cases halves a b <;> exact ⟨_, _, rfl⟩
  rw [hxy] at HS HM
  clear hxy
  go_enter Try.func5, Try.ntmps5
  go_wp2_with fail
  refine (HS.out _).mono ?_
  rintro e w1 ⟨rfl, hb1⟩
  go_wp2_with fail
  refine (HM.out _).mono ?_
  rintro e w2 ⟨rfl, hb2⟩
  go_wp2
  go_ret
  exact ⟨rfl, hb1.trans (hb2.mono hb1.size)⟩
end Go.Proofs.Ytmlffocbcfediaa

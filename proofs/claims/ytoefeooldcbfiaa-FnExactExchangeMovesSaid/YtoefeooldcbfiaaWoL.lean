/- The walk of ExchangeMoves' law. -/
import Derived.Test.YtoefeooldcbfiaaWoA
namespace Go.Proofs.Ytoefeooldcbfiaa
open Go.RowKit

theorem so_open (c : Bool) (l : List UInt8) : ∃ x y, strOr c l = .tuple #[.string x, .bool y] := by
  unfold strOr
  split
  · exact ⟨_, _, rfl⟩
  · exact ⟨_, _, rfl⟩
theorem io_open (c : Bool) (n : Int) : ∃ x y, intOr c n = .tuple #[.int .i64 x, .bool y] := by
  unfold intOr
  split
  · exact ⟨_, _, rfl⟩
  · exact ⟨_, _, rfl⟩
/-- A contract that leaves the world alone, in the longer form. -/
theorem still_of {f : FuncId} {args : Array Value} {w : World} {v : Value} (h : Calls Try.prog f args w fun e w' => e = .returned v ∧ w = w') : Calls Try.prog f args w fun e w' => e = .returned v ∧ Below w.heap.size w w' :=
  h.mono fun _ _ ⟨h1, h2⟩ => ⟨h1, h2 ▸ Below.refl _ _⟩
theorem wf_le {n : Int} (h : (Lit.int .i64 n).wf = true) : n ≤ 9223372036854775807 := by
  unfold Lit.wf at h
  rw [Bool.and_eq_true, decide_eq_true_iff, decide_eq_true_iff] at h
  exact h.2

set_option maxRecDepth 100000 in
set_option maxHeartbeats 2000000 in
theorem walk_FnExactExchangeMoves (t : Int) (_ : (Lit.int .i64 t).wf = true) (f : Int) (HF : (Lit.int .i64 f).wf = true) (w : World) :
    Calls Try.prog 8 #[.int .i64 t, .int .i64 f] w fun e w' => e = .returned (.bool true) ∧ Below w.heap.size w w' := by
  have HS := Lib.hid (fun wx => still_of (sExMoves_any t f wx))
  have HM := Lib.hid (fun wx => still_of (exMoves_any t f wx (wf_le HF)))
  obtain ⟨x, y, hxy⟩ := io_open (twoB t f) (exMv t f)
  rw [hxy] at HS HM
  clear hxy
  go_enter Try.func8, Try.ntmps8
  go_wp2_with fail
  refine (HS.out _).mono ?_
  rintro e w1 ⟨rfl, hb1⟩
  go_wp2_with fail
  refine (HM.out _).mono ?_
  rintro e w2 ⟨rfl, hb2⟩
  go_wp2
  go_ret
  exact ⟨rfl, hb1.trans (hb2.mono hb1.size)⟩
end Go.Proofs.Ytoefeooldcbfiaa

/- The walks of the laws on one move. -/
import Derived.Test.YtfjeabepggldiaaMoveE
namespace Go.Proofs.Ytfjeabepggldiaa
open Go.RowKit

set_option maxHeartbeats 1000000 in
theorem walk_FnExactCanMove (s : ByteArray) (hs : s.size ≤ maxLen) (f t : Int) (_ : (Lit.int .i64 f).wf = true) (_ : (Lit.int .i64 t).wf = true) (w : World) :
    Calls Try.prog 10 #[.string s, .agg #[.int .i64 f, .int .i64 t]] w fun e w' => e = .returned (.bool true) ∧ Below w.heap.size w w' := by
  by_cases hbig : (1048576 : Int) < (s.size : Int)
  · go_enter Try.func10, Try.ntmps10
    go_wp2
    go_ret
    exact ⟨rfl, (Below.refl _ _).alloc (Nat.le_refl _) _⟩
  · cases hc : (goodL s)
    all_goals
      first
        | have hR := Lib.hid (boolOr_no (goodL s) (canM s f t) hc)
        | have hR := Lib.hid (boolOr_yes (goodL s) (canM s f t) hc)
      clear hc
      go_enter Try.func10, Try.ntmps10
      go_wp2_with fail
      refine (toMove_any _ _ _).mono ?_
      rintro e w1 ⟨rfl, hb1⟩
      go_wp2_with fail
      refine (sCanMove_any _ _ _ _ hs).mono ?_
      rintro e w2 ⟨rfl, hb2⟩
      rw [hR.out]
      have hB := hb1.trans (hb2.mono hb1.size)
      have hz := hb1.size
      clear hb1 hb2
      obtain ⟨hcell, _⟩ := bcell hB
      have hz2 := hB.size
      have hB0 := ((Below.refl w.heap.size w).alloc (Nat.le_refl _) (Obj.cells #[Value.int IntKind.i64 f, Value.int IntKind.i64 t] 35)).trans (hB.mono (by simp))
      have hz3 : w.heap.size + 1 ≤ w2.heap.size := by simpa using hz2
      clear hB hz hz2
      go_wp2_with fail
      refine (toMove_any _ _ _).mono ?_
      rintro e w3 ⟨rfl, hb3⟩
      clear hcell
      go_wp2_with fail
      refine (canMove_any _ _ _ _ hs).mono ?_
      rintro e w4 ⟨rfl, hb4⟩
      rw [hR.out]
      go_wp2
      go_ret
      exact ⟨rfl, hB0.trans ((hb3.trans (hb4.mono hb3.size)).mono (by omega))⟩

set_option maxHeartbeats 1000000 in
theorem walk_FnExactMakeMove (s : ByteArray) (hs : s.size ≤ maxLen) (f t : Int) (_ : (Lit.int .i64 f).wf = true) (_ : (Lit.int .i64 t).wf = true) (w : World) :
    Calls Try.prog 11 #[.string s, .agg #[.int .i64 f, .int .i64 t]] w fun e w' => e = .returned (.bool true) ∧ Below w.heap.size w w' := by
  by_cases hbig : (1048576 : Int) < (s.size : Int)
  · go_enter Try.func11, Try.ntmps11
    go_wp2
    go_ret
    exact ⟨rfl, (Below.refl _ _).alloc (Nat.le_refl _) _⟩
  · cases hc : (goodL s && canM s f t)
    all_goals
      first
        | have hR := Lib.hid (strOr_no (goodL s && canM s f t) (behind s f t) hc)
        | have hR := Lib.hid (strOr_yes (goodL s && canM s f t) (behind s f t) hc)
      clear hc
      go_enter Try.func11, Try.ntmps11
      go_wp2_with fail
      refine (toMove_any _ _ _).mono ?_
      rintro e w1 ⟨rfl, hb1⟩
      go_wp2_with fail
      refine (sMakeMove_any _ _ _ _ hs).mono ?_
      rintro e w2 ⟨rfl, hb2⟩
      rw [hR.out]
      have hB := hb1.trans (hb2.mono hb1.size)
      have hz := hb1.size
      clear hb1 hb2
      obtain ⟨hcell, _⟩ := bcell hB
      have hz2 := hB.size
      have hB0 := ((Below.refl w.heap.size w).alloc (Nat.le_refl _) (Obj.cells #[Value.int IntKind.i64 f, Value.int IntKind.i64 t] 35)).trans (hB.mono (by simp))
      have hz3 : w.heap.size + 1 ≤ w2.heap.size := by simpa using hz2
      clear hB hz hz2
      go_wp2_with fail
      refine (toMove_any _ _ _).mono ?_
      rintro e w3 ⟨rfl, hb3⟩
      clear hcell
      go_wp2_with fail
      refine (makeMove_any _ _ _ _ hs).mono ?_
      rintro e w4 ⟨rfl, hb4⟩
      rw [hR.out]
      go_wp2
      go_ret
      exact ⟨rfl, hB0.trans ((hb3.trans (hb4.mono hb3.size)).mono (by omega))⟩

set_option maxHeartbeats 1000000 in
theorem walk_FnExactIsJump (s : ByteArray) (hs : s.size ≤ maxLen) (f t : Int) (_ : (Lit.int .i64 f).wf = true) (_ : (Lit.int .i64 t).wf = true) (w : World) :
    Calls Try.prog 12 #[.string s, .agg #[.int .i64 f, .int .i64 t]] w fun e w' => e = .returned (.bool true) ∧ Below w.heap.size w w' := by
  by_cases hbig : (1048576 : Int) < (s.size : Int)
  · go_enter Try.func12, Try.ntmps12
    go_wp2
    go_ret
    exact ⟨rfl, (Below.refl _ _).alloc (Nat.le_refl _) _⟩
  · cases hc : (goodL s && canM s f t)
    all_goals
      first
        | have hR := Lib.hid (boolOr_no (goodL s && canM s f t) (jumpM f t) hc)
        | have hR := Lib.hid (boolOr_yes (goodL s && canM s f t) (jumpM f t) hc)
      clear hc
      go_enter Try.func12, Try.ntmps12
      go_wp2_with fail
      refine (toMove_any _ _ _).mono ?_
      rintro e w1 ⟨rfl, hb1⟩
      go_wp2_with fail
      refine (sIsJump_any _ _ _ _ hs).mono ?_
      rintro e w2 ⟨rfl, hb2⟩
      rw [hR.out]
      have hB := hb1.trans (hb2.mono hb1.size)
      have hz := hb1.size
      clear hb1 hb2
      obtain ⟨hcell, _⟩ := bcell hB
      have hz2 := hB.size
      have hB0 := ((Below.refl w.heap.size w).alloc (Nat.le_refl _) (Obj.cells #[Value.int IntKind.i64 f, Value.int IntKind.i64 t] 35)).trans (hB.mono (by simp))
      have hz3 : w.heap.size + 1 ≤ w2.heap.size := by simpa using hz2
      clear hB hz hz2
      go_wp2_with fail
      refine (toMove_any _ _ _).mono ?_
      rintro e w3 ⟨rfl, hb3⟩
      clear hcell
      go_wp2_with fail
      refine (iIsJump_any _ _ _ _ hs).mono ?_
      rintro e w4 ⟨rfl, hb4⟩
      rw [hR.out]
      go_wp2
      go_ret
      exact ⟨rfl, hB0.trans ((hb3.trans (hb4.mono hb3.size)).mono (by omega))⟩
end Go.Proofs.Ytfjeabepggldiaa

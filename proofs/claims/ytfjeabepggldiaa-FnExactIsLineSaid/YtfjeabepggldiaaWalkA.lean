/- The walks of the laws on lines as texts and numbers. -/
import Derived.Test.YtfjeabepggldiaaSpecA
namespace Go.Proofs.Ytfjeabepggldiaa
open Go.RowKit

set_option maxHeartbeats 400000 in
theorem walk_FnExactIsLine (s : ByteArray) (hs : s.size ≤ maxLen) (w : World) :
    Calls Try.prog 3 #[.string s] w fun e w' => e = .returned (.bool true) ∧ Below w.heap.size w w' := by
  by_cases hbig : (1048576 : Int) < (s.size : Int)
  · go_enter Try.func3, Try.ntmps3
    go_wp2
    go_ret
    exact ⟨rfl, Below.refl _ _⟩
  · go_enter Try.func3, Try.ntmps3
    go_wp2_with (first | (go_at_call 26; refine (sIsLine_any _ _ hs).mono ?_; rintro e w' ⟨rfl, rfl⟩) | (go_at_call 27; refine (isLine_any _ _ hs).mono ?_; rintro e w' ⟨rfl, rfl⟩))
    go_ret
    exact ⟨rfl, Below.refl _ _⟩

set_option maxHeartbeats 400000 in
theorem walk_FnExactLastLine (s : ByteArray) (hs : s.size ≤ maxLen) (w : World) :
    Calls Try.prog 5 #[.string s] w fun e w' => e = .returned (.bool true) ∧ Below w.heap.size w w' := by
  by_cases hbig : (1048576 : Int) < (s.size : Int)
  · go_enter Try.func5, Try.ntmps5
    go_wp2
    go_ret
    exact ⟨rfl, Below.refl _ _⟩
  · cases hc : goodL s
    all_goals
      first
        | have hR := Lib.hid (strOr_no (goodL s) (lastL (byt s)) hc)
        | have hR := Lib.hid (strOr_yes (goodL s) (lastL (byt s)) hc)
      clear hc
      go_enter Try.func5, Try.ntmps5
      go_wp2_with fail
      refine (sLastLine_any _ _ hs).mono ?_
      rintro e w1 ⟨rfl, rfl⟩
      rw [hR.out]
      go_wp2_with fail
      refine (lastLine_any _ _ hs).mono ?_
      rintro e w2 ⟨rfl, hb2⟩
      rw [hR.out]
      go_wp2
      go_ret
      exact ⟨rfl, hb2⟩

set_option maxHeartbeats 400000 in
theorem walk_FnExactOtherLine (s : ByteArray) (hs : s.size ≤ maxLen) (w : World) :
    Calls Try.prog 15 #[.string s] w fun e w' => e = .returned (.bool true) ∧ Below w.heap.size w w' := by
  by_cases hbig : (1048576 : Int) < (s.size : Int)
  · go_enter Try.func15, Try.ntmps15
    go_wp2
    go_ret
    exact ⟨rfl, Below.refl _ _⟩
  · cases hc : goodL s
    all_goals
      first
        | have hR := Lib.hid (strOr_no (goodL s) (otherL (byt s)) hc)
        | have hR := Lib.hid (strOr_yes (goodL s) (otherL (byt s)) hc)
      clear hc
      go_enter Try.func15, Try.ntmps15
      go_wp2_with fail
      refine (sOtherLine_any _ _ hs).mono ?_
      rintro e w1 ⟨rfl, rfl⟩
      rw [hR.out]
      go_wp2_with fail
      refine (otherLine_any _ _ hs).mono ?_
      rintro e w2 ⟨rfl, hb2⟩
      rw [hR.out]
      go_wp2
      go_ret
      exact ⟨rfl, hb2⟩

set_option maxHeartbeats 400000 in
theorem walk_FnExactPairsToPass (s : ByteArray) (hs : s.size ≤ maxLen) (w : World) :
    Calls Try.prog 17 #[.string s] w fun e w' => e = .returned (.bool true) ∧ Below w.heap.size w w' := by
  by_cases hbig : (1048576 : Int) < (s.size : Int)
  · go_enter Try.func17, Try.ntmps17
    go_wp2
    go_ret
    exact ⟨rfl, Below.refl _ _⟩
  · cases hc : goodL s
    all_goals
      first
        | have hR := Lib.hid (intOr_no (goodL s) (pairSt (byt s)).1 hc)
        | have hR := Lib.hid (intOr_yes (goodL s) (pairSt (byt s)).1 hc)
      clear hc
      go_enter Try.func17, Try.ntmps17
      go_wp2_with fail
      refine (sPairs_any _ _ hs).mono ?_
      rintro e w1 ⟨rfl, rfl⟩
      rw [hR.out]
      go_wp2_with fail
      refine (pairs_any _ _ hs).mono ?_
      rintro e w2 ⟨rfl, rfl⟩
      rw [hR.out]
      go_wp2
      go_ret
      exact ⟨rfl, Below.refl _ _⟩

set_option maxHeartbeats 400000 in
theorem walk_FnExactFirstLine (t : Int) (_ : (Lit.int .i64 t).wf = true) (g : Int) (_ : (Lit.int .i64 g).wf = true) (f : Int) (_ : (Lit.int .i64 f).wf = true) (w : World) :
    Calls Try.prog 4 #[.int .i64 t, .int .i64 g, .int .i64 f] w fun e w' => e = .returned (.bool true) ∧ Below w.heap.size w w' := by
  cases hc : three t g f
  all_goals
    first
      | have hR := Lib.hid (strOr_no (three t g f) (firstL t.toNat g.toNat f.toNat) hc)
      | have hR := Lib.hid (strOr_yes (three t g f) (firstL t.toNat g.toNat f.toNat) hc)
    clear hc
    go_enter Try.func4, Try.ntmps4
    go_wp2_with fail
    refine (sFirstLine_any _ _ _ _).mono ?_
    rintro e w1 ⟨rfl, hb1⟩
    rw [hR.out]
    go_wp2_with fail
    refine (firstLine_any _ _ _ _).mono ?_
    rintro e w2 ⟨rfl, hb2⟩
    rw [hR.out]
    go_wp2
    go_ret
    exact ⟨rfl, hb1.trans (hb2.mono hb1.size)⟩

set_option maxHeartbeats 400000 in
theorem walk_FnExactCountOf (s : ByteArray) (hs : s.size ≤ maxLen) (w : World) :
    Calls Try.prog 6 #[.string s] w fun e w' => e = .returned (.bool true) ∧ Below w.heap.size w w' := by
  by_cases hbig : (1048576 : Int) < (s.size : Int)
  · go_enter Try.func6, Try.ntmps6
    go_wp2
    go_ret
    exact ⟨rfl, Below.refl _ _⟩
  · obtain ⟨a, b, c, d, hR⟩ : ∃ (a b c : Int) (d : Bool), Hid (countsOr s = .tuple #[.int .i64 a, .int .i64 b, .int .i64 c, .bool d]) := by
      cases hc : goodL s
      · exact ⟨0, 0, 0, false, by show _ = _; unfold countsOr; rw [hc]; rfl⟩
      · exact ⟨_, _, _, true, by show _ = _; unfold countsOr; rw [hc]; rfl⟩
    go_enter Try.func6, Try.ntmps6
    go_wp2_with fail
    refine (sCountOf_any _ _ hs).mono ?_
    rintro e w1 ⟨rfl, rfl⟩
    rw [hR.out]
    go_wp2_with fail
    refine (countOf_any _ _ hs).mono ?_
    rintro e w1 ⟨rfl, rfl⟩
    rw [hR.out]
    go_wp2
    go_ret
    exact ⟨rfl, Below.refl _ _⟩
end Go.Proofs.Ytfjeabepggldiaa

/- Contracts: the model's exported functions on lines. -/
import Derived.Test.YticdhapbkfbhjabImpB
namespace Go.Proofs.Yticdhapbkfbhjab
open Go.RowKit

/-- 'strOr' and its like, opened. -/
theorem strOr_no (c : Bool) (l : List UInt8) (h : c = false) : strOr c l = .tuple #[.string (str []), .bool false] := by rw [h]; rfl
theorem strOr_yes (c : Bool) (l : List UInt8) (h : c = true) : strOr c l = .tuple #[.string (str l), .bool true] := by rw [h]; rfl
theorem intOr_no (c : Bool) (n : Int) (h : c = false) : intOr c n = .tuple #[.int .i64 0, .bool false] := by rw [h]; rfl
theorem intOr_yes (c : Bool) (n : Int) (h : c = true) : intOr c n = .tuple #[.int .i64 n, .bool true] := by rw [h]; rfl

set_option maxHeartbeats 400000 in
theorem sIsLine_any (s : ByteArray) (w : World) (hs : s.size ≤ maxLen) :
    Calls Try.prog 33 #[.string s] w fun e w' => e = .returned (.bool (goodL s)) ∧ w = w' := by
  go_enter Try.func33, Try.ntmps33
  go_wp2_with (go_at_call 64; refine (liGood_any _ _ hs).mono ?_; rintro e w' ⟨rfl, rfl⟩)
  go_ret
  exact ⟨rfl, rfl⟩

set_option maxHeartbeats 400000 in
theorem sLastLine_any (s : ByteArray) (w : World) (hs : s.size ≤ maxLen) :
    Calls Try.prog 47 #[.string s] w fun e w' => e = .returned (strOr (goodL s) (lastL (byt s))) ∧ w = w' := by
  cases hc : goodL s
  · have hC := Lib.hid hc
    clear hc
    go_enter Try.func47, Try.ntmps47
    go_wp2_with (go_at_call 64; refine (liGood_any _ _ hs).mono ?_; rintro e w' ⟨rfl, rfl⟩; rw [hC.out])
    go_ret2
    exact ⟨rfl, rfl⟩
  · have hC := Lib.hid hc
    obtain ⟨_, _, _⟩ := (goodL_iff s).1 hc
    clear hc
    go_enter Try.func47, Try.ntmps47
    go_wp2_with (first | (go_at_call 64; refine (liGood_any _ _ hs).mono ?_; rintro e w' ⟨rfl, rfl⟩; rw [hC.out]) | (go_at_call 84; refine (liLast_any _ _ (by omega)).mono ?_; rintro e w' ⟨rfl, rfl⟩))
    go_ret2
    exact ⟨rfl, rfl⟩

set_option maxHeartbeats 400000 in
theorem sOtherLine_any (s : ByteArray) (w : World) (hs : s.size ≤ maxLen) :
    Calls Try.prog 30 #[.string s] w fun e w' => e = .returned (strOr (goodL s) (otherL (byt s))) ∧ w = w' := by
  cases hc : goodL s
  · have hC := Lib.hid hc
    clear hc
    go_enter Try.func30, Try.ntmps30
    go_wp2_with (go_at_call 64; refine (liGood_any _ _ hs).mono ?_; rintro e w' ⟨rfl, rfl⟩; rw [hC.out])
    go_ret2
    exact ⟨rfl, rfl⟩
  · have hC := Lib.hid hc
    obtain ⟨_, _, _⟩ := (goodL_iff s).1 hc
    clear hc
    go_enter Try.func30, Try.ntmps30
    go_wp2_with (first | (go_at_call 64; refine (liGood_any _ _ hs).mono ?_; rintro e w' ⟨rfl, rfl⟩; rw [hC.out]) | (go_at_call 59; refine (liOther_any _ _ (by omega)).mono ?_; rintro e w' ⟨rfl, rfl⟩))
    go_ret2
    exact ⟨rfl, rfl⟩

set_option maxHeartbeats 400000 in
theorem sPairs_any (s : ByteArray) (w : World) (hs : s.size ≤ maxLen) :
    Calls Try.prog 26 #[.string s] w fun e w' => e = .returned (intOr (goodL s) (pairSt (byt s)).1) ∧ w = w' := by
  cases hc : goodL s
  · have hC := Lib.hid hc
    clear hc
    go_enter Try.func26, Try.ntmps26
    go_wp2_with (go_at_call 64; refine (liGood_any _ _ hs).mono ?_; rintro e w' ⟨rfl, rfl⟩; rw [hC.out])
    go_ret2
    exact ⟨rfl, rfl⟩
  · have hC := Lib.hid hc
    obtain ⟨_, _, _⟩ := (goodL_iff s).1 hc
    clear hc
    go_enter Try.func26, Try.ntmps26
    go_wp2_with (first | (go_at_call 64; refine (liGood_any _ _ hs).mono ?_; rintro e w' ⟨rfl, rfl⟩; rw [hC.out]) | (go_at_call 69; refine (liPairs_any _ _ (by omega)).mono ?_; rintro e w' ⟨rfl, rfl⟩))
    go_ret2
    exact ⟨rfl, rfl⟩

set_option maxHeartbeats 400000 in
theorem sWay_any (s : ByteArray) (w : World) (hs : s.size ≤ maxLen) :
    Calls Try.prog 24 #[.string s] w fun e w' => e = .returned (intOr (goodL s) (wayL (byt s))) ∧ w = w' := by
  cases hc : goodL s
  · have hC := Lib.hid hc
    clear hc
    go_enter Try.func24, Try.ntmps24
    go_wp2_with (go_at_call 64; refine (liGood_any _ _ hs).mono ?_; rintro e w' ⟨rfl, rfl⟩; rw [hC.out])
    go_ret2
    exact ⟨rfl, rfl⟩
  · have hC := Lib.hid hc
    obtain ⟨_, _, _⟩ := (goodL_iff s).1 hc
    clear hc
    go_enter Try.func24, Try.ntmps24
    go_wp2_with (first | (go_at_call 64; refine (liGood_any _ _ hs).mono ?_; rintro e w' ⟨rfl, rfl⟩; rw [hC.out]) | (go_at_call 68; refine (liWay_any _ _ (by omega)).mono ?_; rintro e w' ⟨rfl, rfl⟩))
    go_ret2
    exact ⟨rfl, rfl⟩

set_option maxHeartbeats 400000 in
theorem sFirstLine_any (t g f : Int) (w : World) :
    Calls Try.prog 52 #[.int .i64 t, .int .i64 g, .int .i64 f] w fun e w' => e = .returned (strOr (three t g f) (firstL t.toNat g.toNat f.toNat)) ∧ Below w.heap.size w w' := by
  cases hc : three t g f
  · have hC := Lib.hid hc
    clear hc
    go_enter Try.func52, Try.ntmps52
    go_wp2_with fail
    refine (liThree_any _ _ _ _).mono ?_
    rintro e w1 ⟨rfl, hb1⟩
    rw [hC.out]
    go_wp2
    go_ret2
    exact ⟨rfl, hb1⟩
  · have hC := Lib.hid hc
    obtain ⟨⟨_, _⟩, ⟨_, _⟩, ⟨_, _⟩, _, _⟩ := (three_iff t g f).1 hc
    clear hc
    go_enter Try.func52, Try.ntmps52
    go_wp2_with fail
    refine (liThree_any _ _ _ _).mono ?_
    rintro e w1 ⟨rfl, hb1⟩
    rw [hC.out]
    go_wp2_with fail
    refine (liFirst_any _ _ _ _ (by omega) (by omega) (by omega)).mono ?_
    rintro e w' ⟨rfl, rfl⟩
    go_wp2
    go_ret2
    exact ⟨rfl, hb1⟩

set_option maxHeartbeats 400000 in
theorem sCountOf_any (s : ByteArray) (w : World) (hs : s.size ≤ maxLen) :
    Calls Try.prog 45 #[.string s] w fun e w' => e = .returned (countsOr s) ∧ w = w' := by
  cases hc : goodL s
  · have hC := Lib.hid hc
    have hR : Hid (countsOr s = .tuple #[.int .i64 0, .int .i64 0, .int .i64 0, .bool false]) := by show _ = _; unfold countsOr; rw [hc]; rfl
    clear hc
    go_enter Try.func45, Try.ntmps45
    go_wp2_with (go_at_call 64; refine (liGood_any _ _ hs).mono ?_; rintro e w' ⟨rfl, rfl⟩; rw [hC.out])
    (try simp only [Exit.inBlock, Exit.then]); refine bodyPost_ret (results_tmp4 rfl _ _ _) rfl ?_
    exact ⟨congrArg Ending.returned hR.out.symm, rfl⟩
  · have hC := Lib.hid hc
    have hR : Hid (countsOr s = .tuple #[.int .i64 (cnt 84 (byt s)), .int .i64 (cnt 46 (byt s)), .int .i64 (cnt 70 (byt s)), .bool true]) := by show _ = _; unfold countsOr; rw [hc]; rfl
    clear hc
    go_enter Try.func45, Try.ntmps45
    go_wp2_with fail
    refine (liGood_any _ _ hs).mono ?_; rintro e w1 ⟨rfl, rfl⟩; rw [hC.out]
    go_wp2_with fail
    refine (liCount_any s 84 _ hs).mono ?_; rintro e w1 ⟨rfl, rfl⟩
    go_wp2_with fail
    refine (liCount_any s 46 _ hs).mono ?_; rintro e w1 ⟨rfl, rfl⟩
    go_wp2_with fail
    refine (liCount_any s 70 _ hs).mono ?_; rintro e w1 ⟨rfl, rfl⟩
    go_wp2
    (try simp only [Exit.inBlock, Exit.then]); refine bodyPost_ret (results_tmp4 rfl _ _ _) rfl ?_
    exact ⟨congrArg Ending.returned hR.out.symm, rfl⟩
end Go.Proofs.Yticdhapbkfbhjab

/- Contracts: the model's exported functions on lines. -/
import Derived.Test.YticdhapbkfbhjaaImpB
namespace Go.Proofs.Yticdhapbkfbhjaa
open Go.RowKit

/-- 'strOr' and its like, opened. -/
theorem strOr_no (c : Bool) (l : List UInt8) (h : c = false) : strOr c l = .tuple #[.string (str []), .bool false] := by rw [h]; rfl
theorem strOr_yes (c : Bool) (l : List UInt8) (h : c = true) : strOr c l = .tuple #[.string (str l), .bool true] := by rw [h]; rfl
theorem intOr_no (c : Bool) (n : Int) (h : c = false) : intOr c n = .tuple #[.int .i64 0, .bool false] := by rw [h]; rfl
theorem intOr_yes (c : Bool) (n : Int) (h : c = true) : intOr c n = .tuple #[.int .i64 n, .bool true] := by rw [h]; rfl

set_option maxHeartbeats 400000 in
theorem sOtherLine_any (s : ByteArray) (w : World) (hs : s.size ≤ maxLen) :
    Calls Try.prog 20 #[.string s] w fun e w' => e = .returned (strOr (goodL s) (otherL (byt s))) ∧ w = w' := by
  cases hc : goodL s
  · have hC := Lib.hid hc
    clear hc
    go_enter Try.func20, Try.ntmps20
    go_wp2_with (go_at_call 47; refine (liGood_any _ _ hs).mono ?_; rintro e w' ⟨rfl, rfl⟩; rw [hC.out])
    go_ret2
    exact ⟨rfl, rfl⟩
  · have hC := Lib.hid hc
    obtain ⟨_, _, _⟩ := (goodL_iff s).1 hc
    clear hc
    go_enter Try.func20, Try.ntmps20
    go_wp2_with (first | (go_at_call 47; refine (liGood_any _ _ hs).mono ?_; rintro e w' ⟨rfl, rfl⟩; rw [hC.out]) | (go_at_call 48; refine (liOther_any _ _ (by omega)).mono ?_; rintro e w' ⟨rfl, rfl⟩))
    go_ret2
    exact ⟨rfl, rfl⟩

end Go.Proofs.Yticdhapbkfbhjaa

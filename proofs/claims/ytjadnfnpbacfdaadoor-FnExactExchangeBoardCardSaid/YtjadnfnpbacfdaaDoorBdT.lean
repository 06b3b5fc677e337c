/- Contract: the model's text of rows; rows with their joined text. -/
import Derived.Test.YtjadnfnpbacfdaaDoorBdB
namespace Go.Proofs.YtjadnfnpbacfdaaDoor
open Go.RowKit

theorem addr_o (g o j : Nat) : (⟨g, o, none⟩ : Addr).add j = ⟨g, o + j, none⟩ := by
  unfold Addr.add
  split
  · simp_all
  · rfl
/-- The text of the first k rows. -/
def jn (R : List (List UInt8)) (k : Nat) : List UInt8 := Lib.join (R.take k) [47]
theorem join_snoc (o : List (List UInt8)) (x : List UInt8) (h : o ≠ []) : Lib.join (o ++ [x]) [47] = Lib.join o [47] ++ [47] ++ x := by
  cases o with
  | nil => exact absurd rfl h
  | cons a o => simp [Lib.join_cons, Lib.joinTail]
theorem jn_one (R : List (List UInt8)) (h : 0 < R.length) : jn R 1 = jn R 0 ++ R[0] := by
  unfold jn
  rw [List.take_succ_eq_append_getElem h]
  show Lib.join ([] ++ [R[0]]) [47] = Lib.join (List.take 0 R) [47] ++ R[0]
  rw [List.nil_append, Lib.join_one]
  rfl
theorem jn_next (R : List (List UInt8)) (k : Nat) (h : k < R.length) (h0 : 0 < k) : jn R (k + 1) = jn R k ++ [47] ++ R[k] := by
  unfold jn
  rw [List.take_succ_eq_append_getElem h, join_snoc _ _ (by intro e; have := congrArg List.length e; rw [List.length_take, List.length_nil] at this; omega)]
theorem jn_all (R : List (List UInt8)) : jn R R.length = Lib.join R [47] := by unfold jn; rw [List.take_length]
theorem jn_len (R : List (List UInt8)) (n k : Nat) (h : ∀ r ∈ R, r.length ≤ n) : (jn R k).length ≤ k * (n + 1) := by
  have h1 := join_len (R.take k) n fun r hr => h r (List.mem_of_mem_take hr)
  have h2 : (R.take k).length ≤ k := by rw [List.length_take]; omega
  exact Nat.le_trans h1 (Nat.mul_le_mul_right _ h2)

end Go.Proofs.YtjadnfnpbacfdaaDoor

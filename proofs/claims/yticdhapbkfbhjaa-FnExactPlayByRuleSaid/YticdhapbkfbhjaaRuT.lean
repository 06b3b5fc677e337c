/- The text of a rule, told. -/
import Derived.Test.YticdhapbkfbhjaaRuG
namespace Go.Proofs.Yticdhapbkfbhjaa
open Go.RowKit

def ruT (o b l : Bool) : List UInt8 := if o || b || l then (if o then [111] else []) ++ (if b then [98] else []) ++ (if l then [108] else []) else [45]
theorem app_str (a b : List UInt8) : (⟨a.toArray⟩ ++ ⟨b.toArray⟩ : ByteArray) = ⟨(a ++ b).toArray⟩ := str_app a b
theorem ne_empty (a : List UInt8) (h : a ≠ []) : (⟨a.toArray⟩ : ByteArray).toList.isEmpty = false := by
  rw [Lib.toList_data]
  cases a with
  | nil => exact absurd rfl h
  | cons x a => rfl
end Go.Proofs.Yticdhapbkfbhjaa

/- Contracts: ranks of lines: the counts. -/
import Derived.Test.YtjadnfnpbacfdaaDoorMany
import Derived.Test.YtjadnfnpbacfdaaDoorWay
import Derived.Test.YtjadnfnpbacfdaaDoorMoveE
namespace Go.Proofs.YtjadnfnpbacfdaaDoor
open Go.RowKit

abbrev ctB (a b c : Int) : Obj := Obj.cells #[Value.int IntKind.i64 a, Value.int IntKind.i64 b, Value.int IntKind.i64 c] 136
def ctV (a b c : Int) : Value := .agg #[.int .i64 a, .int .i64 b, .int .i64 c]

/-- What a sign adds to the rank, of so many toads, gaps and frogs from it on. -/
def addR (c : UInt8) (t g f : Int) : Int := if c = 46 then 0 else if c = 70 then manyI t (g - 1) f else manyI t (g - 1) f + manyI t g (f - 1)
def rkAt (s : ByteArray) : Nat → Int
  | 0 => 0
  | k + 1 => rkAt s k + addR (sgAt s k) (cnt 84 ((byt s).drop k)) (cnt 46 ((byt s).drop k)) (cnt 70 ((byt s).drop k))
theorem manyI_le (t g f : Int) (h : 0 ≤ t → 0 ≤ g → 0 ≤ f → t + g + f ≤ 12) : 0 ≤ manyI t g f ∧ manyI t g f ≤ 8916100448256 := by
  unfold manyI
  split
  · omega
  · rename_i hn
    have := manyN_part t.toNat g.toNat f.toNat f.toNat (by omega) (Nat.le_refl _)
    unfold manyN
    omega
theorem addR_le (c : UInt8) (t g f : Int) (h : t + g + f ≤ 12) : 0 ≤ addR c t g f ∧ addR c t g f ≤ 17832200896512 := by
  have h1 := manyI_le t (g - 1) f (by omega)
  have h2 := manyI_le t g (f - 1) (by omega)
  unfold addR
  split
  · omega
  · split <;> omega
theorem cnts_drop {s : ByteArray} (hg : (byt s).all isSign = true) (k : Nat) : cnt 84 ((byt s).drop k) + cnt 46 ((byt s).drop k) + cnt 70 ((byt s).drop k) = s.size - k := by
  have h := cnt_sum ((byt s).drop k) (by rw [List.all_eq_true] at hg ⊢; exact fun x hx => hg x (List.mem_of_mem_drop hx))
  rw [List.length_drop, byt_len] at h
  exact h
theorem cnt_drop (s : ByteArray) (c : UInt8) (k : Nat) (h : k < s.size) : cnt c ((byt s).drop k) = (if s[k] = c then 1 else 0) + cnt c ((byt s).drop (k + 1)) := by
  rw [drop_cons s k h, cnt_cons]
theorem rkAt_le {s : ByteArray} (hg : (byt s).all isSign = true) (hs : s.size ≤ 12) (k : Nat) (hk : k ≤ 12) : 0 ≤ rkAt s k ∧ rkAt s k ≤ 17832200896512 * k := by
  induction k with
  | zero => simp [rkAt]
  | succ k ih =>
    have ih := ih (by omega)
    have hc := cnts_drop hg k
    have := addR_le (sgAt s k) (cnt 84 ((byt s).drop k)) (cnt 46 ((byt s).drop k)) (cnt 70 ((byt s).drop k)) (by omega)
    simp only [rkAt]
    omega
/-- What is known of a sign, for the walk. -/
theorem sign_split {c : UInt8} (h : isSign c = true) : (c = 46 ∧ (c.toNat : Int) = 46) ∨ (c = 70 ∧ (c.toNat : Int) = 70) ∨ (c = 84 ∧ (c.toNat : Int) = 84) := by
  rcases sign_cases c with rfl | rfl | rfl | h2
  · exact .inr (.inr ⟨rfl, rfl⟩)
  · exact .inr (.inl ⟨rfl, rfl⟩)
  · exact .inl ⟨rfl, rfl⟩
  · rw [h] at h2; cases h2

end Go.Proofs.YtjadnfnpbacfdaaDoor

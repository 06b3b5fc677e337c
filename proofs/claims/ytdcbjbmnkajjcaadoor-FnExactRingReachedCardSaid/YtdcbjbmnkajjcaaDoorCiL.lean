/- Contracts: the least ring. -/
import Derived.Test.YtdcbjbmnkajjcaaDoorCiB
import Derived.Test.YtdcbjbmnkajjcaaDoorSl
import Derived.Lib.MinMaxS
namespace Go.Proofs.YtdcbjbmnkajjcaaDoor
open Go.RowKit

theorem iter_pos {w : World} {q p : Nat} {s : ByteArray} (h : w.heap[q]? = some (.stringIter s p)) : w.iterPos q = p := by
  unfold World.iterPos; rw [h]
theorem blk_lt {w : World} {q : Nat} {o : Obj} (h : w.heap[q]? = some o) : q < w.heap.size := (Array.getElem?_eq_some_iff.1 h).1
theorem good_as {s : ByteArray} (hg : goodL s = true) (k : Nat) (hk : k < s.size) : s[k].toNat < 128 := by
  rcases sign_cases s[k] with h | h | h | h
  · rw [h]; decide
  · rw [h]; decide
  · rw [h]; decide
  · rw [good_sign hg k hk] at h; cases h
theorem turnV_at {s : ByteArray} (hr : ringB s = true) (k : Nat) (hk : k < s.size) : turnV s k = .tuple #[.string (str (turnL (byt s) k)), .bool true] := by
  unfold turnV
  rw [hr, show inR (k : Int) 0 (s.size - 1) = true by simp [inR]; omega]
  rfl
theorem minS_str (a b : List UInt8) : Lib.minS (str a) (str b) = str (if b < a then b else a) := by
  unfold Lib.minS
  have ha : (str a).data.toList = a := rfl
  have hb : (str b).data.toList = b := rfl
  rw [ha, hb]
  by_cases h : b < a
  · rw [if_pos h, if_neg]
    rintro (h2 | h2)
    · exact absurd h2 (List.lt_asymm h)
    · rw [h2] at h; exact absurd h (List.lt_irrefl b)
  · rw [if_neg h, if_pos]
    rcases Decidable.em (a < b) with h2 | h2
    · exact .inl h2
    · exact .inr (List.le_antisymm h h2)
  
end Go.Proofs.YtdcbjbmnkajjcaaDoor
namespace Go.Proofs.YtdcbjbmnkajjcaaDoor
open Go.RowKit

theorem strOr_open (c : Bool) (l : List UInt8) : ∃ x y, strOr c l = .tuple #[.string x, .bool y] := by
  unfold strOr
  split
  · exact ⟨_, _, rfl⟩
  · exact ⟨_, _, rfl⟩
theorem intOr_open (c : Bool) (n : Int) : ∃ x y, intOr c n = .tuple #[.int .i64 x, .bool y] := by
  unfold intOr
  split
  · exact ⟨_, _, rfl⟩
  · exact ⟨_, _, rfl⟩
/-- A contract that leaves the world alone, in the longer form. -/
theorem calls_still {f : FuncId} {args : Array Value} {w : World} {v : Value} (h : Calls Tryd.prog f args w fun e w' => e = .returned v ∧ w = w') : Calls Tryd.prog f args w fun e w' => e = .returned v ∧ Below w.heap.size w w' :=
  h.mono fun _ _ ⟨h1, h2⟩ => ⟨h1, h2 ▸ Below.refl _ _⟩

end Go.Proofs.YtdcbjbmnkajjcaaDoor

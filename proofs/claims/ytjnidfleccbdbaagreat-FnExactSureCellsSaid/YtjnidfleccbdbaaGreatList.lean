/- Contracts: the laws' own functions on lists of texts. -/
import Derived.Test.YtjnidfleccbdbaaGreatSl
import Derived.Test.YtjnidfleccbdbaaGreatMoves
namespace Go.Proofs.YtjnidfleccbdbaaGreat
open Go.RowKit

/-- The digits of a number. -/
def digF : Nat → Nat → List UInt8
  | 0, _ => []
  | f + 1, k => if k = 0 then [] else digF f (k / 10) ++ [UInt8.ofNat (48 + k % 10)]
def mtx (k : Nat) : List UInt8 := 109 :: digF 7 k
theorem digF_more : ∀ (f k : Nat), k < 10 ^ f → digF (f + 1) k = digF f k
  | 0, k, h => by
    obtain rfl : k = 0 := by simpa using h
    rfl
  | f + 1, k, h => by
    show (if k = 0 then [] else digF (f + 1) (k / 10) ++ [UInt8.ofNat (48 + k % 10)]) = (if k = 0 then [] else digF f (k / 10) ++ [UInt8.ofNat (48 + k % 10)])
    rw [digF_more f (k / 10) (by rw [Nat.pow_succ] at h; omega)]
theorem digF_step (k : Nat) (h0 : k ≠ 0) (h : k < 1000000) : digF 7 k = digF 7 (k / 10) ++ [UInt8.ofNat (48 + k % 10)] := by
  show (if k = 0 then [] else digF 6 (k / 10) ++ [UInt8.ofNat (48 + k % 10)]) = _
  rw [if_neg h0, digF_more 6 (k / 10) (by omega)]
theorem digF_len : ∀ (f k : Nat), (digF f k).length ≤ f
  | 0, _ => by simp [digF]
  | f + 1, k => by
    have := digF_len f (k / 10)
    unfold digF
    split
    · simp
    · simp; omega
theorem digF_zero (f : Nat) : digF f 0 = [] := by cases f <;> rfl

/-- The marks: k, k + 1, .. as texts. -/
def mks (k n : Nat) : List (List UInt8) := (List.range n).map fun j => mtx (k + j)
theorem mks_len (k n : Nat) : (mks k n).length = n := by simp [mks]
theorem mks_next (k n : Nat) : mks k (n + 1) = mks k n ++ [mtx (k + n)] := by simp [mks, List.range_succ]
theorem mks_at (k n j : Nat) (h : j < (mks k n).length) : (mks k n)[j] = mtx (k + j) := by simp [mks]
theorem txs_set (l : List (List UInt8)) (j : Nat) (x : List UInt8) : (txs l).set j (.string (str x)) = txs (l.set j x) := by simp [txs, List.map_set]
theorem txs_get (l : List (List UInt8)) (k : Nat) (h : k < l.length) : (txs l)[k]? = some (.string (str l[k])) := by simp [txs, h]
theorem set_at (A B : List (List UInt8)) (q p : List UInt8) (j : Nat) (h : A.length = j) : (A ++ q :: B).set j p = (A ++ [p]) ++ B := by
  subst h
  simp

theorem row_form {w : World} {base n : Nat} {e : TypeId} {v : Value} {vs : List Value} (ho : w.ownsRow base e 1 v n vs) (hn : 0 < n) : ∃ g cap, v = .slice (some ⟨g, 0, none⟩) n cap ∧ base ≤ g ∧ g < w.heap.size := by
  obtain ⟨hlen, h2 | ⟨g, cap, cur, rfl, hb, hg, hle, hm, hs, ht⟩⟩ := ho
  · omega
  · exact ⟨g, cap, rfl, hb, (Array.getElem?_eq_some_iff.1 hg).1⟩
end Go.Proofs.YtjnidfleccbdbaaGreat

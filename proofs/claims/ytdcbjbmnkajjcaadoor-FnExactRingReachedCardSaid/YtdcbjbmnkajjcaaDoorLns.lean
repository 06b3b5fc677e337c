/- All lines with so many of each, in order, in a list: the program's. -/
import Derived.Test.YtdcbjbmnkajjcaaDoorMany
import Derived.Test.YtdcbjbmnkajjcaaDoorUnrI
import Derived.Test.YtdcbjbmnkajjcaaDoorImp
import Derived.Test.YtdcbjbmnkajjcaaDoorSl
import Derived.Test.YtdcbjbmnkajjcaaDoorMoves
namespace Go.Proofs.YtdcbjbmnkajjcaaDoor
open Go.RowKit

def lnk (t g f : Int) (k : Nat) : List UInt8 := unr (t + g + f).toNat t g f k
def lnsTo (t g f : Int) (k : Nat) : List (List UInt8) := (List.range k).map (lnk t g f)
theorem lns_len (t g f : Int) (k : Nat) : (lnsTo t g f k).length = k := by simp [lnsTo]
theorem lns_succ (t g f : Int) (k : Nat) : lnsTo t g f (k + 1) = lnsTo t g f k ++ [lnk t g f k] := by simp [lnsTo, List.range_succ]
theorem lns_txs (t g f : Int) (k : Nat) : txs (lnsTo t g f (k + 1)) = txs (lnsTo t g f k) ++ [.string (str (lnk t g f k))] := by rw [lns_succ]; simp [txs]
theorem lns_at (t g f : Int) {k n : Nat} (h : k < n) : (txs (lnsTo t g f n))[k]? = some (.string (str (lnk t g f k))) := by simp [txs, lnsTo, h]
def manyK (t g f : Int) : Nat := (manyI t g f).toNat
theorem manyK_eq {t g f : Int} (h : three t g f = true) : manyI t g f = (manyK t g f : Int) := by
  obtain ⟨_, _, _, _, h12⟩ := (three_iff t g f).1 h
  have h1 := (manyI_le t g f (by omega)).1
  unfold manyK
  omega
theorem lnk_inG {t g f : Int} (h : three t g f = true) {k : Nat} (hk : k < manyK t g f) : (three t g f && inR (k : Int) 0 (manyI t g f - 1)) = true := by
  have hm := manyK_eq h
  rw [h, Bool.true_and]; unfold inR
  rw [Bool.and_eq_true, decide_eq_true_iff, decide_eq_true_iff]; omega
/-- All lines, in order, in a list of the call's own. -/
def LnPost (w : World) (t g f : Int) (e : Ending) (w' : World) : Prop :=
  ∃ v, e = .returned v ∧ w'.ownsRow w.heap.size 9 1 v (manyK t g f) (txs (lnsTo t g f (manyK t g f))) ∧ Below w.heap.size w w'
theorem row_set (A : List Value) (m k : Nat) (z v : Value) (hA : A.length = k) (hm : 0 < m) : (A ++ List.replicate m z).set k v = A ++ [v] ++ List.replicate (m - 1) z := by
  obtain ⟨n, rfl⟩ : ∃ n, m = n + 1 := ⟨m - 1, by omega⟩
  subst hA
  rw [List.set_append_right _ _ (Nat.le_refl _), Nat.sub_self, List.replicate_succ]
  simp
theorem row_at (A : List Value) (m k : Nat) (z : Value) (hA : A.length = k) (hm : 0 < m) : (A ++ List.replicate m z)[k]? = some z := by
  subst hA
  rw [List.getElem?_append_right (Nat.le_refl _), Nat.sub_self]
  simp [hm]
end Go.Proofs.YtdcbjbmnkajjcaaDoor

/- Contracts: the model's pieces of a text between walls; the rows of a board. -/
import Derived.Test.YtjadnfnpbacfdaaDoorBdA
import Derived.Test.YtjadnfnpbacfdaaDoorSl
import Derived.Test.YtjadnfnpbacfdaaDoorMove
namespace Go.Proofs.YtjadnfnpbacfdaaDoor
open Go.RowKit

/-- Where the cutting stands behind k bytes. -/
def pcA (s : ByteArray) (k : Nat) : List (List UInt8) := (splSt ((byt s).take k)).1
def pcB (s : ByteArray) (k : Nat) : List UInt8 := (splSt ((byt s).take k)).2
theorem pc_zero (s : ByteArray) : pcA s 0 = [] ∧ pcB s 0 = [] := ⟨rfl, rfl⟩
theorem pc_wall (s : ByteArray) (k : Nat) (h : k < s.size) (h47 : s[k] = 47) : pcA s (k + 1) = pcA s k ++ [pcB s k] ∧ pcB s (k + 1) = [] := by
  unfold pcA pcB
  rw [take_snoc s k h, splSt_snoc, h47]
  simp [splStep]
theorem pc_sign (s : ByteArray) (k : Nat) (h : k < s.size) (h47 : s[k] ≠ 47) : pcA s (k + 1) = pcA s k ∧ pcB s (k + 1) = pcB s k ++ [s[k]] := by
  unfold pcA pcB
  rw [take_snoc s k h, splSt_snoc]
  simp [splStep, h47]
theorem pc_all (s : ByteArray) : spl (byt s) = pcA s s.size ++ [pcB s s.size] := by
  unfold pcA pcB spl
  rw [take_all]
/-- The piece at hand is the text from f to k. -/
def PcAt (s : ByteArray) (f k : Nat) : Prop := f ≤ k ∧ (pcA s k).length ≤ k ∧ str (pcB s k) = s.extract f k
theorem PcAt.zero (s : ByteArray) : PcAt s 0 0 := ⟨Nat.le_refl _, Nat.le_refl _, by rw [(pc_zero s).2, ext_str]; simp⟩
theorem PcAt.wall {s : ByteArray} {f k : Nat} (h : PcAt s f k) (hk : k < s.size) (h47 : s[k] = 47) : PcAt s (k + 1) (k + 1) := by
  obtain ⟨h1, h2, h3⟩ := h
  obtain ⟨e1, e2⟩ := pc_wall s k hk h47
  refine ⟨Nat.le_refl _, by rw [e1]; simp; omega, ?_⟩
  rw [e2, ext_str]
  congr 1
  rw [List.drop_of_length_le (by rw [List.length_take]; omega)]
theorem PcAt.sign {s : ByteArray} {f k : Nat} (h : PcAt s f k) (hk : k < s.size) (h47 : s[k] ≠ 47) : PcAt s f (k + 1) := by
  obtain ⟨h1, h2, h3⟩ := h
  obtain ⟨e1, e2⟩ := pc_sign s k hk h47
  refine ⟨by omega, by rw [e1]; omega, ?_⟩
  rw [ext_str] at h3
  have h4 := str_inj.1 h3
  rw [e2, ext_str, take_snoc s k hk, h4, List.drop_append_of_le_length (by rw [List.length_take, byt_len]; omega)]

/-- The answer: a list of texts in memory of the call's own. -/
def BtPost (w : World) (l : List (List UInt8)) (e : Ending) (w' : World) : Prop :=
  ∃ v, e = .returned v ∧ w'.ownsRow w.heap.size 9 1 v l.length (txs l) ∧ Below w.heap.size w w'

end Go.Proofs.YtjadnfnpbacfdaaDoor

/- Contracts: the model's one move on a line, made; the exported functions on one move. -/
import Derived.Test.YticdhapbkfbhjaaDoorMoveC
namespace Go.Proofs.YticdhapbkfbhjaaDoor
open Go.RowKit

theorem ext_str (s : ByteArray) (i j : Nat) : s.extract i j = str (((byt s).take j).drop i) := by
  apply ByteArray.ext
  simp only [str, byt, ByteArray.data_extract]
  apply Array.ext'
  simp [List.extract_eq_take_drop, List.drop_take]

theorem put_list (l : List UInt8) (k : Nat) (c : UInt8) (h : k < l.length) : l.take k ++ [c] ++ l.drop (k + 1) = l.set k c := by
  rw [List.set_eq_take_append_cons_drop, if_pos h]
  simp

theorem sign_at (s : ByteArray) (a : Nat) (ha : a < s.size) : s.extract a (a + 1) = str [s[a]] := by
  rw [ext_str]
  congr 1
  rw [take_snoc s a ha, List.drop_append, List.drop_of_length_le (by rw [List.length_take]; omega)]
  simp [byt_len, Nat.min_eq_left (Nat.le_of_lt ha)]

theorem putL_comm (s : ByteArray) (a b : Nat) (ha : a < s.size) (hne : a ≠ b) : ((byt s).set a 46).set b s[a] = putL s a b := by
  unfold putL
  have e : (byt s).getD a 0 = s[a] := by
    rw [List.getD_eq_getElem?_getD, List.getElem?_eq_getElem (by rw [byt_len]; exact ha)]; rfl
  rw [e, List.set_comm _ _ (by omega)]

end Go.Proofs.YticdhapbkfbhjaaDoor

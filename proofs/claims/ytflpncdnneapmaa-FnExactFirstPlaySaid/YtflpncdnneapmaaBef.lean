/- The lines from which one move leads to a line: the model's search. -/
import Derived.Test.YtflpncdnneapmaaLayS
import Derived.Test.YtflpncdnneapmaaArrC
namespace Go.Proofs.Ytflpncdnneapmaa
open Go.RowKit

/-- The sign of a cell, for the model: a blank beyond the ends. -/
def lat (s : ByteArray) (i : Int) : UInt8 := if h : 0 ≤ i ∧ i < s.size then s[i.toNat]'(by omega) else 32
theorem lat_dot {s : ByteArray} {i : Int} (h : lat s i = 46) : ∃ b : Nat, i = b ∧ b < s.size ∧ sgAt s b = 46 := by
  unfold lat at h
  split at h
  · rename_i hi
    obtain ⟨b, rfl⟩ := Int.eq_ofNat_of_zero_le hi.1
    refine ⟨b, rfl, by omega, ?_⟩
    rw [sgAt_in s b (by omega)]
    exact h
  · exact absurd h (by decide)
theorem lat_of {s : ByteArray} {b : Nat} (hb : b < s.size) : lat s b = sgAt s b := by
  unfold lat
  rw [dif_pos (by omega), sgAt_in s b hb]
  rfl
/-- What one pair of cells gives. -/
def bk (s : ByteArray) (a : Nat) (i : Int) : List (List UInt8) := if lat s i = 46 ∧ canM (str (putL s a i.toNat)) i a = true then [putL s a i.toNat] else []
def rowB (s : ByteArray) (a j : Nat) : List (List UInt8) := if sgAt s a = 46 then [] else (List.range j).flatMap fun i : Nat => bk s a ((a : Int) - 2 + (i : Int))
def scanB (s : ByteArray) (a j : Nat) : List (List UInt8) := (List.range a).flatMap (fun t => rowB s t 5) ++ rowB s a j
def upB (s : ByteArray) (a j : Nat) : List (List UInt8) := insAll (scanB s a j) []
theorem rowB_zero (s : ByteArray) (a : Nat) : rowB s a 0 = [] := by unfold rowB; split <;> rfl
theorem upB_zero (s : ByteArray) : upB s 0 0 = [] := by
  unfold upB scanB
  rw [rowB_zero]; rfl
theorem upB_row (s : ByteArray) (a : Nat) : upB s (a + 1) 0 = upB s a 5 := by
  unfold upB scanB
  rw [rowB_zero, List.range_succ, List.flatMap_append, List.append_nil]
  simp
theorem upB_skip (s : ByteArray) (a : Nat) (h : sgAt s a = 46) : upB s (a + 1) 0 = upB s a 0 := by
  rw [upB_row]
  unfold upB scanB rowB
  rw [if_pos h, if_pos h]
theorem upB_next (s : ByteArray) (a j : Nat) (h : sgAt s a ≠ 46) : upB s a (j + 1) = insAll (bk s a ((a : Int) - 2 + j)) (upB s a j) := by
  have e : rowB s a (j + 1) = rowB s a j ++ bk s a ((a : Int) - 2 + j) := by
    unfold rowB
    rw [if_neg h, if_neg h, List.range_succ, List.flatMap_append]
    simp
  unfold upB scanB
  rw [e, ← List.append_assoc, insAll_app]
theorem upB_rising (s : ByteArray) (a j : Nat) : Rising (upB s a j) := rising_insAll _ _ (by simp [Rising])
theorem insAll_len : ∀ (xs a : List (List UInt8)), (insAll xs a).length ≤ xs.length + a.length
  | [], a => by simp [insAll]
  | x :: xs, a => by
    have h1 := insAll_len xs (ins x a)
    have h2 := ins_len x a
    show (insAll xs (ins x a)).length ≤ _
    simp only [List.length_cons]
    omega
theorem bk_len (s : ByteArray) (a : Nat) (i : Int) : (bk s a i).length ≤ 1 := by unfold bk; split <;> simp
theorem flat_le {α : Type} (f : α → List (List UInt8)) (n : Nat) (l : List α) (h : ∀ x ∈ l, (f x).length ≤ n) : (l.flatMap f).length ≤ n * l.length := by
  induction l with
  | nil => simp
  | cons a l ih =>
    have h1 := h a (by simp)
    have h2 := ih fun x hx => h x (by simp [hx])
    simp only [List.flatMap_cons, List.length_append, List.length_cons, Nat.mul_add]
    omega
theorem rowB_len (s : ByteArray) (a j : Nat) : (rowB s a j).length ≤ j := by
  unfold rowB
  split
  · simp
  · have := flat_le (fun i : Nat => bk s a ((a : Int) - 2 + i)) 1 (List.range j) fun i _ => bk_len _ _ _
    simpa using this
theorem upB_len (s : ByteArray) (a j : Nat) : (upB s a j).length ≤ 5 * a + j := by
  have h1 := insAll_len (scanB s a j) []
  have h2 := flat_le (fun t => rowB s t 5) 5 (List.range a) fun t _ => rowB_len _ _ _
  have h3 := rowB_len s a j
  unfold upB
  unfold scanB at h1 ⊢
  rw [List.length_append] at h1
  simp at h1 h2
  omega
/-- A list of texts lies apart from an iterator. -/
theorem StOk.iter {w : World} {v : Value} {l : List (List UInt8)} {n : Nat} {s : ByteArray} {k : Nat} (h : StOk w v l) (hit : w.heap[n]? = some (.stringIter s k)) (p : Nat) : StOk (w.iterAt n s p) v l := by
  rcases h with h | ⟨h0, g, c, hv, h1, h2, h3, h4⟩
  · exact .inl h
  · have hne : g ≠ n := by
      rintro rfl
      have := h4 0 (List.length_pos_iff.2 h0)
      simp [World.cell?, hit] at this
    refine .inr ⟨h0, g, c, hv, h1, h2, by rw [Lib.iterAt_size]; exact h3, fun j hj => ?_⟩
    rw [← h4 j hj]
    exact World.cell?_of_block (a := ⟨g, j, none⟩) (Lib.iterAt_other w n g s p hne)

end Go.Proofs.Ytflpncdnneapmaa

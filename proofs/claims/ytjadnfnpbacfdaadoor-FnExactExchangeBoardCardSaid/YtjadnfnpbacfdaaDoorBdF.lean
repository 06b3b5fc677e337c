/- First and last boards: the model's rows. -/
import Derived.Test.YtjadnfnpbacfdaaDoorBdT
namespace Go.Proofs.YtjadnfnpbacfdaaDoor
open Go.RowKit

/-- The middle column, from above. -/
def midF (h : Nat) (a b : UInt8) : List UInt8 := List.replicate h a ++ [46] ++ List.replicate h b
theorem midF_len (h : Nat) (a b : UInt8) : (midF h a b).length = 2 * h + 1 := by simp [midF]; omega
theorem midF_at (h : Nat) (a b : UInt8) (k : Nat) (hk : k < (midF h a b).length) : (midF h a b)[k] = if k < h then a else if k = h then 46 else b := by
  have hk2 : k < 2 * h + 1 := by rw [midF_len] at hk; exact hk
  simp only [midF]
  by_cases h1 : k < h
  · rw [if_pos h1, List.getElem_append_left (by simp; omega), List.getElem_append_left (by simpa using h1)]
    simp
  · rw [if_neg h1]
    by_cases h2 : k = h
    · subst h2
      rw [if_pos rfl, List.getElem_append_left (by simp), List.getElem_append_right (by simp)]
      simp
    · rw [if_neg h2, List.getElem_append_right (by simp; omega)]
      simp
theorem midF_first (h : Nat) : midF h 84 70 = firstL h 1 h := rfl
/-- A row with a sign in the middle. -/
def rowF (w : Nat) (a b c : UInt8) : List UInt8 := List.replicate w a ++ [c] ++ List.replicate w b
def bdF (w h : Nat) (a b : UInt8) : List (List UInt8) := (midF h a b).map (rowF w a b)
theorem bdF_len (w h : Nat) (a b : UInt8) : (bdF w h a b).length = 2 * h + 1 := by unfold bdF; rw [List.length_map, midF_len]
theorem bdF_at (w h : Nat) (a b : UInt8) (k : Nat) (hk : k < (bdF w h a b).length) : (bdF w h a b)[k] = rowF w a b (if k < h then a else if k = h then 46 else b) := by
  simp only [bdF]
  rw [List.getElem_map, midF_at]
theorem bdF_row (w h : Nat) (a b : UInt8) (hw : w ≤ 2) : ∀ r ∈ bdF w h a b, r.length ≤ 12 := by
  intro r hr
  obtain ⟨c, _, rfl⟩ := List.mem_map.1 hr
  unfold rowF
  simp; omega
theorem rowF_str (w : Nat) (a b c : UInt8) : str (rowF w a b c) = str (List.replicate w a) ++ (⟨#[c]⟩ : ByteArray) ++ str (List.replicate w b) := by
  unfold rowF
  rw [← str_app, ← str_app]
  rfl
theorem txs_take1 (l : List (List UInt8)) (k : Nat) (h : k < l.length) : txs (l.take (k + 1)) = txs (l.take k) ++ [.string (str l[k])] := by
  rw [List.take_succ_eq_append_getElem h, txs_app]; rfl

end Go.Proofs.YtjadnfnpbacfdaaDoor

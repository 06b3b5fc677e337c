/- OtherBoard: both sides' contracts. -/
import Derived.Test.YtjadnfnpbacfdaaDoorBdP
import Derived.Test.YtjadnfnpbacfdaaDoorBdT
import Derived.Test.YtjadnfnpbacfdaaDoorBdW
namespace Go.Proofs.YtjadnfnpbacfdaaDoor
open Go.RowKit

theorem join_map (f : UInt8 → UInt8) (h : f 47 = 47) (R : List (List UInt8)) : (Lib.join R [47]).map f = Lib.join (R.map (·.map f)) [47] := by
  cases R with
  | nil => rfl
  | cons a R =>
    rw [List.map_cons, Lib.join_cons, Lib.join_cons, List.map_append]
    congr 1
    unfold Lib.joinTail
    rw [List.map_flatten, List.map_map, List.map_map]
    congr 1
    apply List.map_congr_left
    intro r _
    simp [h]
theorem join_rev (R : List (List UInt8)) : (Lib.join R [47]).reverse = Lib.join (R.reverse.map List.reverse) [47] := by
  induction R with
  | nil => rfl
  | cons a R ih =>
    by_cases hR : R = []
    · subst hR; simp [Lib.join_one]
    · rw [List.reverse_cons, List.map_append, List.map_cons, List.map_nil, join_snoc _ _ (by simpa using hR), ← ih]
      have e : Lib.join (a :: R) [47] = a ++ 47 :: Lib.join R [47] := by
        cases R with
        | nil => exact absurd rfl hR
        | cons b R => simp [Lib.join_cons, Lib.joinTail]
      rw [e]
      simp
theorem txs_tk (l : List (List UInt8)) (k : Nat) (h : k < l.length) : txs (l.take (k + 1)) = txs (l.take k) ++ [.string (str l[k])] := by
  rw [List.take_succ_eq_append_getElem h, txs_app]; rfl
/-- The rows of the other board. -/
def otR (R : List (List UInt8)) : List (List UInt8) := R.reverse.map otherL
theorem otR_len (R : List (List UInt8)) : (otR R).length = R.length := by simp [otR]
theorem otR_at (R : List (List UInt8)) (k : Nat) (h : k < (otR R).length) (h2 : R.length - 1 - k < R.length) : (otR R)[k] = otherL R[R.length - 1 - k] := by
  simp only [otR]
  rw [List.getElem_map, List.getElem_reverse]
theorem other_row {r : List UInt8} (h : goodL (str r) = true) : (r.map oSg).reverse = otherL r := by
  unfold otherL
  congr 1
  apply List.map_congr_left
  intro c hc
  have := ((goodL_iff _).1 h).2.2
  rw [byt_str, List.all_eq_true] at this
  exact oSg_sign (this c hc)
theorem other_text {l : List UInt8} (h : goodB l = true) : (l.map oSg).reverse = Lib.join (otR (spl l)) [47] := by
  obtain ⟨_, h2⟩ := (boOk_iff _).1 h
  rw [← spl_join l, join_map oSg rfl, join_rev]
  rw [spl_join]
  congr 1
  unfold otR
  rw [← List.map_reverse, List.map_map]
  apply List.map_congr_left
  intro r hr
  exact other_row (h2 r (by simpa using hr)).1
theorem otR_row {R : List (List UInt8)} (h : ∀ r ∈ R, r.length ≤ 12) : ∀ r ∈ otR R, r.length ≤ 12 := by
  intro r hr
  obtain ⟨x, hx, rfl⟩ := List.mem_map.1 hr
  rw [otherL_len]
  exact h x (by simpa using hx)
end Go.Proofs.YtjadnfnpbacfdaaDoor

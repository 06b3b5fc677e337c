/- Contracts: sums: which are ones, the program's turn of one. -/
import Derived.Test.YtflpncdnneapmaaGmT
namespace Go.Proofs.Ytflpncdnneapmaa
open Go.RowKit Go.Maps Go.Shelf

/-- A sum: one to three lines, at most ten cells together. -/
def sumOk (ls : List (List UInt8)) : Bool := decide (1 ≤ ls.length) && decide (ls.length ≤ 3) && ls.all (fun x => goodL (str x)) && decide ((ls.map List.length).sum ≤ 10)
def upLen (ls : List (List UInt8)) (k : Nat) : Nat := ((ls.take k).map List.length).sum
theorem upLen_step (ls : List (List UInt8)) (k : Nat) (h : k < ls.length) : upLen ls (k + 1) = upLen ls k + ls[k].length := by
  unfold upLen
  rw [List.take_succ_eq_append_getElem h, List.map_append, List.sum_append]
  simp
theorem upLen_all (ls : List (List UInt8)) : upLen ls ls.length = (ls.map List.length).sum := by simp [upLen]
theorem upLen_le (ls : List (List UInt8)) (n : Nat) : ∀ k, k ≤ ls.length → (∀ j (h : j < ls.length), j < k → ls[j].length ≤ n) → upLen ls k ≤ n * k
  | 0, _, _ => by simp [upLen]
  | k + 1, hk, h => by
    have := upLen_le ls n k (by omega) fun j hj hjk => h j hj (by omega)
    rw [upLen_step ls k (by omega), Nat.mul_succ]
    have := h k (by omega) (by omega)
    omega
theorem sumOk_iff (ls : List (List UInt8)) : sumOk ls = true ↔ 1 ≤ ls.length ∧ ls.length ≤ 3 ∧ (∀ x ∈ ls, goodL (str x) = true) ∧ (ls.map List.length).sum ≤ 10 := by
  simp [sumOk, and_assoc]
theorem sumOk_sum {ls : List (List UInt8)} (h : sumOk ls = true) : SumG (joinG ls).length ls := by
  obtain ⟨h1, h2, h3, h4⟩ := (sumOk_iff ls).1 h
  refine ⟨List.ne_nil_of_length_pos h1, h2, h3, rfl, ?_⟩
  have key : ∀ l : List (List UInt8), l ≠ [] → (joinG l).length + 1 = (l.map List.length).sum + l.length := by
    intro l
    induction l with
    | nil => intro h; exact absurd rfl h
    | cons w r ih =>
      intro _
      by_cases hr : r = []
      · subst hr; simp [joinG]
      · rw [joinG_cons w hr]
        have := ih hr
        simp only [List.length_append, List.length_cons, List.map_cons, List.sum_cons]
        omega
  have := key ls (List.ne_nil_of_length_pos h1)
  omega
theorem good_len {x : List UInt8} (h : goodL (str x) = true) : 1 ≤ x.length ∧ x.length ≤ 12 := by
  have := (goodL_iff _).1 h
  rw [str_size] at this
  omega

end Go.Proofs.Ytflpncdnneapmaa

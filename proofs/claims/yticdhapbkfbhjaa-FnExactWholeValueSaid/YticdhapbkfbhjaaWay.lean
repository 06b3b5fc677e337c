/- The way to go: the program's sum and the model's agree. -/
import Derived.Test.YticdhapbkfbhjaaSpecA
namespace Go.Proofs.Yticdhapbkfbhjaa
open Go.RowKit

/-- b, b + 1, .. : the sum of the first m. -/
def pl (b : Nat) : Nat → Nat
  | 0 => 0
  | m + 1 => pl b m + (b + m)
theorem pl_le (b m : Nat) (hb : b ≤ 100) (hm : m ≤ 100) : pl b m ≤ 200 * m := by
  induction m with
  | zero => simp [pl]
  | succ m ih => simp only [pl]; have := ih (by omega); omega
theorem sumSt_same (c : UInt8) (l : List UInt8) : ∀ m, (sumSt c (l ++ List.replicate m c)).1 = (sumSt c l).1 + pl l.length m
  | 0 => by simp [pl]
  | m + 1 => by
    have h2 := (sumSt_le c (l ++ List.replicate m c)).1
    rw [List.replicate_succ', ← List.append_assoc, sumSt_snoc, sumStep, if_pos rfl, sumSt_same c l m, h2]
    simp [pl]; omega
theorem sumSt_other (c d : UInt8) (h : d ≠ c) (l : List UInt8) : ∀ m, (sumSt c (l ++ List.replicate m d)).1 = (sumSt c l).1
  | 0 => by simp
  | m + 1 => by
    rw [List.replicate_succ', ← List.append_assoc, sumSt_snoc, sumStep, if_neg h, sumSt_other c d h l m]
theorem cnt_cons (c d : UInt8) (l : List UInt8) : cnt c (d :: l) = (if d = c then 1 else 0) + cnt c l := by
  unfold cnt
  by_cases h : d = c <;> simp [h] <;> omega
theorem cnt_sum : ∀ (l : List UInt8), l.all isSign = true → cnt 84 l + cnt 46 l + cnt 70 l = l.length
  | [], _ => rfl
  | c :: l, h => by
    rw [List.all_cons, Bool.and_eq_true] at h
    have ih := cnt_sum l h.2
    rw [cnt_cons, cnt_cons, cnt_cons, List.length_cons]
    rcases sign_cases c with rfl | rfl | rfl | h3
    · simp; omega
    · simp; omega
    · simp; omega
    · rw [h3] at h; simp at h
theorem last84 (l : List UInt8) (h : l.all isSign = true) : (sumSt 84 (lastL l)).1 = pl (l.length - cnt 84 l) (cnt 84 l) := by
  have hs := cnt_sum l h
  unfold lastL
  rw [sumSt_same, sumSt_other 84 46 (by decide)]
  have e : (sumSt 84 (List.replicate (cnt 70 l) 70)).1 = 0 := by
    have := sumSt_other 84 70 (by decide) [] (cnt 70 l)
    simpa [sumSt] using this
  rw [e]
  have e2 : (List.replicate (cnt 70 l) (70 : UInt8) ++ List.replicate (cnt 46 l) 46).length = l.length - cnt 84 l := by simp; omega
  rw [e2]; omega
theorem last70 (l : List UInt8) : (sumSt 70 (lastL l)).1 = pl 0 (cnt 70 l) := by
  unfold lastL
  rw [sumSt_other 70 84 (by decide), sumSt_other 70 46 (by decide)]
  have := sumSt_same 70 [] (cnt 70 l)
  simpa [sumSt] using this

/-- What the program has gathered behind k cells. -/
def wayAt (b : Nat) (l : List UInt8) : Int := (pl b (cnt 84 l) : Int) - (sumSt 84 l).1 + (sumSt 70 l).1 - (pl 0 (cnt 70 l) : Int)
theorem wayAt_all (l : List UInt8) (h : l.all isSign = true) : wayAt (l.length - cnt 84 l) l = wayL l := by
  unfold wayAt wayL
  rw [last84 l h, last70 l]
theorem wayAt_snoc (b : Nat) (l : List UInt8) (c : UInt8) : wayAt b (l ++ [c]) = wayAt b l + (if c = 84 then (b : Int) + cnt 84 l - l.length else if c = 70 then (l.length : Int) - cnt 70 l else 0) := by
  unfold wayAt
  have h1 := (sumSt_le 84 l).1
  have h2 := (sumSt_le 70 l).1
  rw [sumSt_snoc, sumSt_snoc, cnt_snoc, cnt_snoc]
  unfold sumStep
  by_cases e1 : c = 84
  · subst e1
    simp [pl, h1]; omega
  · by_cases e2 : c = 70
    · subst e2
      simp [pl, h2]; omega
    · simp [e1, e2]
theorem wayAt_small (b : Nat) (l : List UInt8) (hb : b ≤ 100) (hl : l.length ≤ 100) : -50000 ≤ wayAt b l ∧ wayAt b l ≤ 50000 := by
  have h1 := sumSt_small 84 l hl
  have h2 := sumSt_small 70 l hl
  have c1 := cnt_le 84 l
  have c2 := cnt_le 70 l
  have p1 := pl_le b (cnt 84 l) hb (by omega)
  have p2 := pl_le 0 (cnt 70 l) (by omega) (by omega)
  unfold wayAt
  omega

end Go.Proofs.Yticdhapbkfbhjaa

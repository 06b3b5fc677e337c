/- Plain facts: first lines and last lines. -/
import Derived.Test.YtjadnfnpbacfdaaDoorRankMath
namespace Go.Proofs.YtjadnfnpbacfdaaDoor
open Go.RowKit

theorem cnt_app (c : UInt8) (l m : List UInt8) : cnt c (l ++ m) = cnt c l + cnt c m := by simp [cnt]
theorem cnt_rep (c d : UInt8) (n : Nat) : cnt c (List.replicate n d) = if d = c then n else 0 := by
  induction n with
  | zero => simp [cnt]
  | succ n ih => rw [List.replicate_succ, cnt_cons, ih]; split <;> omega
theorem all_rep (c : UInt8) (h : isSign c = true) (n : Nat) : (List.replicate n c).all isSign = true := by
  induction n with
  | zero => rfl
  | succ n ih => rw [List.replicate_succ, List.all_cons, h, ih]; rfl

/-- A last line is a line of the same numbers, with no way to go. -/
theorem lastL_all (l : List UInt8) : (lastL l).all isSign = true := by
  unfold lastL
  rw [List.all_append, List.all_append, all_rep 70 (by decide), all_rep 46 (by decide), all_rep 84 (by decide)]; rfl
theorem lastL_cnt (l : List UInt8) : cnt 84 (lastL l) = cnt 84 l ∧ cnt 46 (lastL l) = cnt 46 l ∧ cnt 70 (lastL l) = cnt 70 l := by
  unfold lastL
  simp [cnt_app, cnt_rep]
theorem lastL_same (l : List UInt8) (h : l.all isSign = true) : (lastL l).length = l.length := by
  rw [← cnt_sum _ (lastL_all l), (lastL_cnt l).1, (lastL_cnt l).2.1, (lastL_cnt l).2.2, cnt_sum l h]
theorem lastL_twice (l : List UInt8) : lastL (lastL l) = lastL l := by
  show List.replicate (cnt 70 (lastL l)) 70 ++ List.replicate (cnt 46 (lastL l)) 46 ++ List.replicate (cnt 84 (lastL l)) 84 = lastL l
  rw [(lastL_cnt l).1, (lastL_cnt l).2.1, (lastL_cnt l).2.2]; rfl
theorem lastL_way (l : List UInt8) : wayL (lastL l) = 0 := by
  unfold wayL
  rw [lastL_twice]; omega

/-- A first line has as many pairs as the numbers say, and the longest way. -/
theorem pairSt_toads (l : List UInt8) : ∀ n, pairSt (l ++ List.replicate n 84) = ((pairSt l).1, (pairSt l).2 + n)
  | 0 => by simp
  | n + 1 => by rw [List.replicate_succ', ← List.append_assoc, pairSt_snoc, pairSt_toads l n]; simp [pairStep]; omega
theorem pairSt_gaps (l : List UInt8) : ∀ n, pairSt (l ++ List.replicate n 46) = pairSt l
  | 0 => by simp
  | n + 1 => by rw [List.replicate_succ', ← List.append_assoc, pairSt_snoc, pairSt_gaps l n]; simp [pairStep]
theorem pairSt_frogs (l : List UInt8) : ∀ n, pairSt (l ++ List.replicate n 70) = ((pairSt l).1 + n * (pairSt l).2, (pairSt l).2)
  | 0 => by simp
  | n + 1 => by
    rw [List.replicate_succ', ← List.append_assoc, pairSt_snoc, pairSt_frogs l n]
    simp only [pairStep, Nat.add_mul]
    simp; omega
theorem firstL_pairs (t g f : Nat) : (pairSt (firstL t g f)).1 = t * f := by
  unfold firstL
  have h := pairSt_toads [] t
  rw [List.nil_append] at h
  rw [pairSt_frogs, pairSt_gaps, h]
  simp [pairSt, Nat.mul_comm]
theorem firstL_all (t g f : Nat) : (firstL t g f).all isSign = true := by
  unfold firstL
  rw [List.all_append, List.all_append, all_rep 70 (by decide), all_rep 46 (by decide), all_rep 84 (by decide)]; rfl
theorem firstL_cnt (t g f : Nat) : cnt 84 (firstL t g f) = t ∧ cnt 46 (firstL t g f) = g ∧ cnt 70 (firstL t g f) = f := by
  unfold firstL
  simp [cnt_app, cnt_rep]
theorem firstL_len (t g f : Nat) : (firstL t g f).length = t + g + f := by simp [firstL]; omega
theorem pl_move (b m : Nat) : pl b m = pl 0 m + b * m := by
  induction m with
  | zero => simp [pl]
  | succ m ih => rw [pl, pl, ih, Nat.mul_succ]; omega
theorem firstL_way (t g f : Nat) : wayL (firstL t g f) = ((t * (g + f) + f * (t + g) : Nat) : Int) := by
  unfold wayL
  have h1 := last84 _ (firstL_all t g f)
  have h2 := last70 (firstL t g f)
  rw [h1, h2, (firstL_cnt t g f).1, (firstL_cnt t g f).2.2, firstL_len]
  have e1 : (sumSt 84 (firstL t g f)).1 = pl 0 t := by
    unfold firstL
    rw [sumSt_other 84 70 (by decide), sumSt_other 84 46 (by decide)]
    have := sumSt_same 84 [] t
    simpa [sumSt] using this
  have e2 : (sumSt 70 (firstL t g f)).1 = pl (t + g) f := by
    unfold firstL
    rw [sumSt_same, sumSt_other 70 46 (by decide)]
    have := sumSt_other 70 84 (by decide) [] t
    rw [List.nil_append] at this
    rw [this]
    simp [sumSt]
  rw [e1, e2, pl_move (t + g + f - t) t, pl_move (t + g) f]
  have e3 : t + g + f - t = g + f := by omega
  rw [e3, Nat.mul_comm (g + f) t, Nat.mul_comm (t + g) f]
  omega

theorem lexLt_ne {a b : List UInt8} (h : lexLt a b) : a ≠ b := by
  intro e; subst e
  induction a with
  | nil => exact h
  | cons c r ih =>
    rcases h with h | ⟨_, h⟩
    · exact absurd h (by simp [UInt8.lt_irrefl])
    · exact ih h
/-- A line is not at or before one that it follows. -/
theorem lexLt_not : ∀ (a b : List UInt8), lexLt a b → Op.bytesLess b a = false
  | [], [], h => by simp [lexLt] at h
  | [], _ :: _, _ => by simp [Op.bytesLess]
  | _ :: _, [], h => by simp [lexLt] at h
  | c :: r, d :: q, h => by
    rw [Op.bytesLess]
    rcases h with h | ⟨rfl, h⟩
    · have h1 : ¬ d < c := by
        intro h2
        exact absurd (UInt8.lt_trans h h2) (by simp [UInt8.lt_irrefl])
      have h3 : ¬ d = c := by
        intro e; subst e
        exact absurd h (by simp [UInt8.lt_irrefl])
      simp [h1, h3]
    · have h1 : ¬ c < c := by simp [UInt8.lt_irrefl]
      simp [h1, lexLt_not r q h]
theorem leq_no (t : TypeId) (P : Program) (w : World) {a b : List UInt8} (h : lexLt a b) : (binOp .leq t (.string (str b)) (.string (str a))).run P w = .ok (.bool false) w := by
  have h1 := lexLt_not a b h
  have h2 : ¬ b = a := fun e => lexLt_ne h e.symm
  have e : binOp .leq t (.string (str b)) (.string (str a)) = pure (.bool (Op.bytesLess (str b).toList (str a).toList || ((str b).toList == (str a).toList))) := by simp [binOp, Op.stringOp]
  rw [e, Lib.toList_data, Lib.toList_data]
  show (pure (.bool (Op.bytesLess b a || (b == a))) : Sem Value).run P w = _
  rw [h1]
  simp [h2]
end Go.Proofs.YtjadnfnpbacfdaaDoor

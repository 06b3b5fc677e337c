/- Plain facts: the moves on a line, in order; the way and the pairs behind a move. -/
import Derived.Test.YtjadnfnpbacfdaaDoorPlayM
import Derived.Test.YtjadnfnpbacfdaaDoorEnds
import Derived.Test.YtjadnfnpbacfdaaDoorWalkV
namespace Go.Proofs.YtjadnfnpbacfdaaDoor
open Go.RowKit

theorem mem_mvs (wd : Int → Int → Bool) (s : ByteArray) : ∀ (n : Nat) (p : Int × Int), p ∈ mvsTo wd s n ↔ ∃ k : Nat, k < n ∧ p = ((k : Int), mvTo s k) ∧ wd k (mvTo s k) = true
  | 0, p => by simp [mvsTo]
  | n + 1, p => by
    rw [mvsTo, List.mem_append, mem_mvs wd s n p]
    constructor
    · rintro (⟨k, h1, h2, h3⟩ | h)
      · exact ⟨k, by omega, h2, h3⟩
      · split at h
        · rename_i hw
          exact ⟨n, by omega, by simpa using h, hw⟩
        · simp at h
    · rintro ⟨k, h1, h2, h3⟩
      by_cases hk : k = n
      · subst hk
        right
        rw [if_pos h3, h2]; simp
      · exact .inl ⟨k, by omega, h2, h3⟩
theorem mem_moves (s : ByteArray) (f t : Int) : (f, t) ∈ mvsTo (canM s) s s.size ↔ canM s f t = true := by
  rw [mem_mvs]
  constructor
  · rintro ⟨k, _, h2, h3⟩
    injection h2 with e1 e2
    rw [e1, e2]; exact h3
  · intro h
    obtain ⟨a, b, rfl, rfl, ha, hb, _⟩ := canM_in h
    have ht : (b : Int) = mvTo s a := by
      have h2 := h
      unfold canM at h2
      rw [Bool.and_eq_true] at h2
      simpa using h2.2
    exact ⟨a, ha, by rw [← ht], by rw [← ht]; exact h⟩
theorem mem_kind (tt ff : Bool) (s : ByteArray) (f t : Int) : (f, t) ∈ mvsTo (kindM tt ff s) s s.size ↔ kindM tt ff s f t = true := by
  rw [mem_mvs]
  constructor
  · rintro ⟨k, _, h2, h3⟩
    injection h2 with e1 e2
    rw [e1, e2]; exact h3
  · intro h
    have hc : canM s f t = true := by
      unfold kindM at h
      rw [Bool.and_eq_true, Bool.and_eq_true] at h
      exact h.1.1
    obtain ⟨k, h1, h2, _⟩ := (mem_mvs _ s _ _).1 ((mem_moves s f t).2 hc)
    injection h2 with e1 e2
    subst e1; subst e2
    exact ⟨k, h1, rfl, h⟩
/-- Each cell has at most one move, and the cells come in order. -/
theorem mvs_below (wd : Int → Int → Bool) (s : ByteArray) (n : Nat) (p : Int × Int) (h : p ∈ mvsTo wd s n) : p.1 < n := by
  obtain ⟨k, h1, rfl, _⟩ := (mem_mvs wd s n p).1 h
  show (k : Int) < n
  omega
theorem mvs_up (wd : Int → Int → Bool) (s : ByteArray) : ∀ (n : Nat) (j : Nat) (h : j + 1 < (mvsTo wd s n).length), (mvsTo wd s n)[j].1 < (mvsTo wd s n)[j + 1].1
  | 0, j, h => by simp [mvsTo] at h
  | n + 1, j, h => by
    by_cases hw : wd n (mvTo s n) = true
    · have e : mvsTo wd s (n + 1) = mvsTo wd s n ++ [((n : Int), mvTo s n)] := by rw [mvsTo, if_pos hw]
      have hl : j + 1 < (mvsTo wd s n).length + 1 := by rw [e] at h; simpa using h
      have e0 : (mvsTo wd s (n + 1))[j] = (mvsTo wd s n)[j] := by simp only [e]; rw [List.getElem_append_left]
      rw [e0]
      by_cases hj : j + 1 < (mvsTo wd s n).length
      · have e1 : (mvsTo wd s (n + 1))[j + 1] = (mvsTo wd s n)[j + 1] := by simp only [e]; rw [List.getElem_append_left hj]
        rw [e1]
        exact mvs_up wd s n j hj
      · have e1 : (mvsTo wd s (n + 1))[j + 1] = ((n : Int), mvTo s n) := by
          simp only [e]
          rw [List.getElem_append_right (by omega)]
          simp
        rw [e1]
        exact mvs_below wd s n _ (List.getElem_mem (by omega))
    · have e : mvsTo wd s (n + 1) = mvsTo wd s n := by rw [mvsTo, if_neg hw, List.append_nil]
      simp only [e] at h ⊢
      exact mvs_up wd s n j h
/-- Moves are those of toads and of frogs. -/
theorem mvs_two (s : ByteArray) : ∀ n, (mvsTo (canM s) s n).length = (mvsTo (kindM true false s) s n).length + (mvsTo (kindM false true s) s n).length
  | 0 => rfl
  | n + 1 => by
    have ih := mvs_two s n
    rw [mvsTo, mvsTo, mvsTo, List.length_append, List.length_append, List.length_append, ih]
    have h : ∀ t, canM s n t = true → (kindM true false s n t = true ∧ kindM false true s n t = false) ∨ (kindM true false s n t = false ∧ kindM false true s n t = true) := by
      intro t hc
      obtain ⟨_, _, _, ⟨h, _⟩ | ⟨h, _⟩⟩ := (canM_iff s n t).1 hc
      · left; simp [kindM, hc, h]
      · right; simp [kindM, hc, h]
    by_cases hc : canM s n (mvTo s n) = true
    · rw [if_pos hc]
      rcases h _ hc with ⟨h1, h2⟩ | ⟨h1, h2⟩
      · rw [h1, h2]; simp; omega
      · rw [h1, h2]; simp; omega
    · have h0 : canM s n (mvTo s n) = false := Bool.eq_false_iff.2 hc
      simp [kindM, h0]
/-- A move is a toad's where it goes right, a frog's where it goes left. -/
theorem kind_side {s : ByteArray} {f t : Int} (hc : canM s f t = true) : kindM true false s f t = decide (f < t) ∧ kindM false true s f t = !decide (f < t) := by
  obtain ⟨_, _, _, ⟨h, h2⟩ | ⟨h, h2⟩⟩ := (canM_iff s f t).1 hc
  · have : f < t := by rcases h2 with h2 | ⟨h2, _⟩ <;> omega
    simp [kindM, hc, h, this]
  · have : ¬ f < t := by rcases h2 with h2 | ⟨h2, _⟩ <;> omega
    simp [kindM, hc, h, this]

/-- The way is never below zero. -/
theorem sum84_le : ∀ (n : Nat) (l : List UInt8), l.length = n → (sumSt 84 l).1 ≤ pl (l.length - cnt 84 l) (cnt 84 l) ∧ pl 0 (cnt 70 l) ≤ (sumSt 70 l).1
  | 0, l, h => by
    obtain rfl : l = [] := by simpa using h
    exact ⟨Nat.zero_le _, Nat.le_refl _⟩
  | n + 1, l, h => by
    have hne : l ≠ [] := by intro e; subst e; simp at h
    obtain ⟨r, c, rfl⟩ : ∃ r c, l = r ++ [c] := ⟨l.dropLast, l.getLast hne, (List.dropLast_concat_getLast hne).symm⟩
    have hr : r.length = n := by simpa using h
    obtain ⟨i1, i2⟩ := sum84_le n r hr
    have l1 := cnt_le 84 r
    have l2 := cnt_le 70 r
    have s1 := (sumSt_le 84 r).1
    have s2 := (sumSt_le 70 r).1
    rw [sumSt_snoc, sumSt_snoc, cnt_snoc, cnt_snoc, List.length_append, List.length_singleton]
    have q : ∀ b m, pl (b + 1) m = pl b m + m := by
      intro b m
      rw [pl_move (b + 1) m, pl_move b m, Nat.add_mul]; omega
    constructor
    · by_cases hc : c = 84
      · rw [sumStep, if_pos hc, if_pos hc, pl, s1]
        have : r.length + 1 - (cnt 84 r + 1) = r.length - cnt 84 r := by omega
        rw [this]
        show (sumSt 84 r).1 + r.length ≤ _
        omega
      · rw [sumStep, if_neg hc, if_neg hc]
        simp only [Nat.add_zero]
        rw [show r.length + 1 - cnt 84 r = r.length - cnt 84 r + 1 by omega, q]
        show (sumSt 84 r).1 ≤ _
        omega
    · by_cases hc : c = 70
      · rw [sumStep, if_pos hc, if_pos hc, pl, s2]
        show _ ≤ (sumSt 70 r).1 + r.length
        omega
      · rw [sumStep, if_neg hc, if_neg hc, Nat.add_zero]
        exact i2
theorem wayL_pos (l : List UInt8) (h : l.all isSign = true) : 0 ≤ wayL l := by
  obtain ⟨a, b⟩ := sum84_le _ l rfl
  unfold wayL
  rw [last84 l h, last70 l]
  omega

/-- Where the animals stand, gathered from any cell on. -/
def sumP (c : UInt8) (i : Nat) : List UInt8 → Nat
  | [] => 0
  | d :: l => (if d = c then i else 0) + sumP c (i + 1) l
theorem fold_sumP (c : UInt8) : ∀ (l : List UInt8) (a i : Nat), l.foldl (sumStep c) (a, i) = (a + sumP c i l, i + l.length)
  | [], a, i => by simp [sumP]
  | d :: l, a, i => by
    rw [List.foldl_cons, sumP]
    by_cases h : d = c
    · rw [sumStep, if_pos h, if_pos h, fold_sumP c l]; simp; omega
    · rw [sumStep, if_neg h, if_neg h, fold_sumP c l]; simp; omega
theorem sumSt_P (c : UInt8) (l : List UInt8) : (sumSt c l).1 = sumP c 0 l := by
  unfold sumSt
  rw [fold_sumP]; simp
theorem sumP_app (c : UInt8) : ∀ (l m : List UInt8) (i : Nat), sumP c i (l ++ m) = sumP c i l + sumP c (i + l.length) m
  | [], m, i => by simp [sumP]
  | d :: l, m, i => by
    rw [List.cons_append, sumP, sumP, sumP_app c l m, List.length_cons, show i + 1 + l.length = i + (l.length + 1) by omega]; omega
theorem sumP_set (c d : UInt8) : ∀ (l : List UInt8) (k i : Nat) (h : k < l.length), sumP c i (l.set k d) + (if l[k] = c then i + k else 0) = sumP c i l + (if d = c then i + k else 0)
  | [], k, i, h => by simp at h
  | e :: r, 0, i, h => by
    rw [List.set_cons_zero, sumP, sumP]
    simp only [List.getElem_cons_zero, Nat.add_zero]
    omega
  | e :: r, k + 1, i, h => by
    have := sumP_set c d r k (i + 1) (by simpa using h)
    rw [List.set_cons_succ, sumP, sumP]
    simp only [List.getElem_cons_succ]
    rw [show i + (k + 1) = i + 1 + k by omega]
    omega
end Go.Proofs.YtjadnfnpbacfdaaDoor

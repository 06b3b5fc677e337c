/- Plain facts: ranks and lines tell each other. -/
import Derived.Test.YtjadnfnpbacfdaaDoorUnr
namespace Go.Proofs.YtjadnfnpbacfdaaDoor
open Go.RowKit

/-- The rank of a list of signs, from its first sign on. -/
def rkL : List UInt8 → Int
  | [] => 0
  | c :: r => addR c (cnt 84 (c :: r)) (cnt 46 (c :: r)) (cnt 70 (c :: r)) + rkL r
theorem rkAt_rkL (s : ByteArray) : ∀ k, k ≤ s.size → rkAt s k + rkL ((byt s).drop k) = rkL (byt s)
  | 0, _ => by simp [rkAt]
  | k + 1, h => by
    have ih := rkAt_rkL s k (by omega)
    have hk : k < s.size := by omega
    rw [drop_cons s k hk, rkL, ← drop_cons s k hk] at ih
    rw [rkAt, sgAt_in s k hk]
    omega
theorem rkAt_all (s : ByteArray) : rkAt s s.size = rkL (byt s) := by
  have h := rkAt_rkL s s.size (Nat.le_refl _)
  rw [drop_all] at h
  simpa [rkL] using h

theorem many_zero : manyI 0 0 0 = 1 := by decide

/-- A line's rank is below the number of lines, and leads back to it. -/
theorem unr_rkL : ∀ (l : List UInt8), l.all isSign = true → l.length ≤ 12 →
    (0 ≤ rkL l ∧ rkL l < manyI (cnt 84 l) (cnt 46 l) (cnt 70 l)) ∧ unr l.length (cnt 84 l) (cnt 46 l) (cnt 70 l) (rkL l) = l
  | [], _, _ => ⟨by show 0 ≤ (0 : Int) ∧ 0 < manyI 0 0 0; rw [many_zero]; omega, rfl⟩
  | c :: r, h, h12 => by
    have hl := cnt_sum (c :: r) h
    rw [List.all_cons, Bool.and_eq_true] at h
    obtain ⟨⟨i0, i1⟩, i2⟩ := unr_rkL r h.2 (by simp at h12; omega)
    have hs := many_sum (cnt 84 (c :: r)) (cnt 46 (c :: r)) (cnt 70 (c :: r)) (by omega) (by omega) (by omega) (by simp at hl; omega) (by simp at hl h12; omega)
    have m1 := (manyI_le (cnt 84 (c :: r)) ((cnt 46 (c :: r) : Int) - 1) (cnt 70 (c :: r)) (by simp at hl h12; omega)).1
    have m2 := (manyI_le (cnt 84 (c :: r)) (cnt 46 (c :: r)) ((cnt 70 (c :: r) : Int) - 1) (by simp at hl h12; omega)).1
    have m3 := (manyI_le ((cnt 84 (c :: r) : Int) - 1) (cnt 46 (c :: r)) (cnt 70 (c :: r)) (by simp at hl h12; omega)).1
    have d1 := cnt_cons 84 c r
    have d2 := cnt_cons 46 c r
    have d3 := cnt_cons 70 c r
    rw [List.length_cons, unr]
    rcases sign_split h.1 with ⟨hc, _⟩ | ⟨hc, _⟩ | ⟨hc, _⟩
    · subst hc
      have e1 : cnt 84 (46 :: r) = cnt 84 r := by simpa using d1
      have e2 : ((cnt 46 (46 :: r) : Nat) : Int) - 1 = cnt 46 r := by simp at d2; omega
      have e3 : cnt 70 (46 :: r) = cnt 70 r := by simpa using d3
      have eR : rkL (46 :: r) = rkL r := by rw [rkL]; simp [addR]
      rw [eR]
      rw [e1, e2, e3] at m1 ⊢
      rw [e1, e2, e3] at hs
      rw [if_pos i1, i2]
      exact ⟨⟨i0, by rw [e1, e3] at m2 m3; omega⟩, rfl⟩
    · subst hc
      have e1 : cnt 84 (70 :: r) = cnt 84 r := by simpa using d1
      have e2 : cnt 46 (70 :: r) = cnt 46 r := by simpa using d2
      have e3 : ((cnt 70 (70 :: r) : Nat) : Int) - 1 = cnt 70 r := by simp at d3; omega
      have eR : rkL (70 :: r) = manyI (cnt 84 (70 :: r)) ((cnt 46 (70 :: r) : Int) - 1) (cnt 70 (70 :: r)) + rkL r := by rw [rkL]; simp [addR]
      rw [eR]
      generalize manyI (cnt 84 (70 :: r)) ((cnt 46 (70 :: r) : Int) - 1) (cnt 70 (70 :: r)) = a at *
      rw [e1, e2, e3] at m2 hs ⊢
      rw [if_neg (by omega), if_pos (by omega), show a + rkL r - a = rkL r by omega, i2]
      exact ⟨⟨by omega, by rw [e1, e2] at m3; omega⟩, rfl⟩
    · subst hc
      have e1 : ((cnt 84 (84 :: r) : Nat) : Int) - 1 = cnt 84 r := by simp at d1; omega
      have e2 : cnt 46 (84 :: r) = cnt 46 r := by simpa using d2
      have e3 : cnt 70 (84 :: r) = cnt 70 r := by simpa using d3
      have eR : rkL (84 :: r) = manyI (cnt 84 (84 :: r)) ((cnt 46 (84 :: r) : Int) - 1) (cnt 70 (84 :: r)) + manyI (cnt 84 (84 :: r)) (cnt 46 (84 :: r)) ((cnt 70 (84 :: r) : Int) - 1) + rkL r := by rw [rkL]; simp [addR]
      rw [eR]
      generalize manyI (cnt 84 (84 :: r)) ((cnt 46 (84 :: r) : Int) - 1) (cnt 70 (84 :: r)) = a at *
      generalize manyI (cnt 84 (84 :: r)) (cnt 46 (84 :: r)) ((cnt 70 (84 :: r) : Int) - 1) = b at *
      rw [e1, e2, e3] at hs m3 ⊢
      rw [if_neg (by omega), if_neg (by omega), show a + b + rkL r - (a + b) = rkL r by omega, i2]
      exact ⟨⟨by omega, by rw [hs]; omega⟩, rfl⟩

/-- The line of a rank has the numbers and the rank. -/
theorem rkL_unr : ∀ (n : Nat) (t g f r : Int), 0 ≤ t → 0 ≤ g → 0 ≤ f → t + g + f = n → n ≤ 12 → 0 ≤ r → r < manyI t g f →
    (unr n t g f r).all isSign = true ∧ (cnt 84 (unr n t g f r) : Int) = t ∧ (cnt 46 (unr n t g f r) : Int) = g ∧ (cnt 70 (unr n t g f r) : Int) = f ∧ rkL (unr n t g f r) = r
  | 0, t, g, f, r, ht, hg, hf, hn, _, h0, h1 => by
    obtain rfl : t = 0 := by omega
    obtain rfl : g = 0 := by omega
    obtain rfl : f = 0 := by omega
    rw [many_zero] at h1
    exact ⟨rfl, rfl, rfl, rfl, by show (0 : Int) = r; omega⟩
  | n + 1, t, g, f, r, ht, hg, hf, hn, h12, h0, h1 => by
    have hs := many_sum t g f ht hg hf (by omega) (by omega)
    have p1 : 0 < manyI t (g - 1) f → 0 ≤ t ∧ 0 ≤ g - 1 ∧ 0 ≤ f := many_pos
    have p2 : 0 < manyI t g (f - 1) → 0 ≤ t ∧ 0 ≤ g ∧ 0 ≤ f - 1 := many_pos
    have p3 : 0 < manyI (t - 1) g f → 0 ≤ t - 1 ∧ 0 ≤ g ∧ 0 ≤ f := many_pos
    rw [unr]
    split
    · rename_i c1
      obtain ⟨a, b, c, d, e⟩ := rkL_unr n t (g - 1) f r ht (by omega) hf (by omega) (by omega) h0 c1
      refine ⟨by rw [List.all_cons, a]; rfl, ?_, ?_, ?_, ?_⟩
      · rw [cnt_cons]; simp; omega
      · rw [cnt_cons]; simp; omega
      · rw [cnt_cons]; simp; omega
      · rw [rkL, e]; simp [addR]
    · rename_i c1
      split
      · rename_i c2
        obtain ⟨a, b, c, d, e⟩ := rkL_unr n t g (f - 1) (r - manyI t (g - 1) f) ht hg (by omega) (by omega) (by omega) (by omega) (by omega)
        have k1 : ((cnt 84 (70 :: unr n t g (f - 1) (r - manyI t (g - 1) f)) : Nat) : Int) = t := by rw [cnt_cons]; simp; omega
        have k2 : ((cnt 46 (70 :: unr n t g (f - 1) (r - manyI t (g - 1) f)) : Nat) : Int) = g := by rw [cnt_cons]; simp; omega
        have k3 : ((cnt 70 (70 :: unr n t g (f - 1) (r - manyI t (g - 1) f)) : Nat) : Int) = f := by rw [cnt_cons]; simp; omega
        refine ⟨by rw [List.all_cons, a]; rfl, k1, k2, k3, ?_⟩
        rw [rkL, e, k1, k2, k3]
        simp [addR]
        omega
      · rename_i c2
        obtain ⟨a, b, c, d, e⟩ := rkL_unr n (t - 1) g f (r - (manyI t (g - 1) f + manyI t g (f - 1))) (by omega) hg hf (by omega) (by omega) (by omega) (by omega)
        have k1 : ((cnt 84 (84 :: unr n (t - 1) g f (r - (manyI t (g - 1) f + manyI t g (f - 1)))) : Nat) : Int) = t := by rw [cnt_cons]; simp; omega
        have k2 : ((cnt 46 (84 :: unr n (t - 1) g f (r - (manyI t (g - 1) f + manyI t g (f - 1)))) : Nat) : Int) = g := by rw [cnt_cons]; simp; omega
        have k3 : ((cnt 70 (84 :: unr n (t - 1) g f (r - (manyI t (g - 1) f + manyI t g (f - 1)))) : Nat) : Int) = f := by rw [cnt_cons]; simp; omega
        refine ⟨by rw [List.all_cons, a]; rfl, k1, k2, k3, ?_⟩
        rw [rkL, e, k1, k2, k3]
        simp [addR]
        omega

/-- Bytes in order: the first that differs decides. -/
def lexLt : List UInt8 → List UInt8 → Prop
  | a :: l, b :: m => a < b ∨ (a = b ∧ lexLt l m)
  | [], _ :: _ => True
  | _, [] => False
theorem unr_lt : ∀ (n : Nat) (t g f r r' : Int), 0 ≤ t → 0 ≤ g → 0 ≤ f → t + g + f = n → n ≤ 12 → 0 ≤ r → r < r' → r' < manyI t g f → lexLt (unr n t g f r) (unr n t g f r')
  | 0, t, g, f, r, r', ht, hg, hf, hn, _, h0, h1, h2 => by
    obtain rfl : t = 0 := by omega
    obtain rfl : g = 0 := by omega
    obtain rfl : f = 0 := by omega
    rw [many_zero] at h2
    omega
  | n + 1, t, g, f, r, r', ht, hg, hf, hn, h12, h0, h1, h2 => by
    have hs := many_sum t g f ht hg hf (by omega) (by omega)
    have p1 : 0 < manyI t (g - 1) f → 0 ≤ t ∧ 0 ≤ g - 1 ∧ 0 ≤ f := many_pos
    have p2 : 0 < manyI t g (f - 1) → 0 ≤ t ∧ 0 ≤ g ∧ 0 ≤ f - 1 := many_pos
    have p3 : 0 < manyI (t - 1) g f → 0 ≤ t - 1 ∧ 0 ≤ g ∧ 0 ≤ f := many_pos
    rw [unr, unr]
    by_cases a1 : r' < manyI t (g - 1) f
    · rw [if_pos a1, if_pos (by omega)]
      exact .inr ⟨rfl, unr_lt n t (g - 1) f r r' ht (by omega) hf (by omega) (by omega) h0 h1 a1⟩
    · rw [if_neg a1]
      by_cases a2 : r' < manyI t (g - 1) f + manyI t g (f - 1)
      · rw [if_pos a2]
        by_cases b1 : r < manyI t (g - 1) f
        · rw [if_pos b1]; exact .inl (by decide)
        · rw [if_neg b1, if_pos (by omega)]
          exact .inr ⟨rfl, unr_lt n t g (f - 1) _ _ ht hg (by omega) (by omega) (by omega) (by omega) (by omega) (by omega)⟩
      · rw [if_neg a2]
        by_cases b1 : r < manyI t (g - 1) f
        · rw [if_pos b1]; exact .inl (by decide)
        · rw [if_neg b1]
          by_cases b2 : r < manyI t (g - 1) f + manyI t g (f - 1)
          · rw [if_pos b2]; exact .inl (by decide)
          · rw [if_neg b2]
            exact .inr ⟨rfl, unr_lt n (t - 1) g f _ _ (by omega) hg hf (by omega) (by omega) (by omega) (by omega) (by omega)⟩
end Go.Proofs.YtjadnfnpbacfdaaDoor

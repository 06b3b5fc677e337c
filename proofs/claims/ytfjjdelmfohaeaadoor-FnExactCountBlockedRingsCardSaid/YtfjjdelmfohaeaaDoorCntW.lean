/- Lines counted by rank and sign by sign: one; no walk. -/
import Derived.Test.YtfjjdelmfohaeaaDoorRankMath
namespace Go.Proofs.YtfjjdelmfohaeaaDoor
open Go.RowKit

def sumTo (φ : Nat → Nat) : Nat → Nat
  | 0 => 0
  | m + 1 => sumTo φ m + φ m
theorem sumTo_add (φ : Nat → Nat) (a : Nat) : ∀ b, sumTo φ (a + b) = sumTo φ a + sumTo (fun r => φ (a + r)) b
  | 0 => rfl
  | b + 1 => by
    show sumTo φ (a + b) + φ (a + b) = sumTo φ a + (sumTo (fun r => φ (a + r)) b + φ (a + b))
    rw [sumTo_add φ a b]; omega
theorem sumTo_congr {φ ψ : Nat → Nat} : ∀ m, (∀ r, r < m → φ r = ψ r) → sumTo φ m = sumTo ψ m
  | 0, _ => rfl
  | m + 1, h => by
    show sumTo φ m + φ m = sumTo ψ m + ψ m
    rw [sumTo_congr m fun r hr => h r (by omega), h m (by omega)]
theorem sumTo_le {φ : Nat → Nat} (h : ∀ r, φ r ≤ 1) : ∀ m, sumTo φ m ≤ m
  | 0 => Nat.le_refl _
  | m + 1 => by
    have h1 := sumTo_le h m
    have h2 := h m
    show sumTo φ m + φ m ≤ m + 1
    omega
/-- How many lines that begin with p and have so many more signs are counted at o. -/
def cntW (out : List UInt8 → Nat) : Nat → Int → Int → Int → List UInt8 → Nat → Nat
  | 0, _, _, _, p, o => if out p = o then 1 else 0
  | n + 1, t, g, f, p, o => (if 0 < t then cntW out n (t - 1) g f (p ++ [84]) o else 0) + (if 0 < g then cntW out n t (g - 1) f (p ++ [46]) o else 0) + (if 0 < f then cntW out n t g (f - 1) (p ++ [70]) o else 0)
def hitR (out : List UInt8 → Nat) (n : Nat) (t g f : Int) (p : List UInt8) (o r : Nat) : Nat := if out (p ++ unr n t g f r) = o then 1 else 0
theorem manyI_neg {t g f : Int} (h : t < 0 ∨ g < 0 ∨ f < 0) : manyI t g f = 0 := by unfold manyI; rw [if_pos h]
theorem unr_gap {n : Nat} {t g f r : Int} (h : r < manyI t (g - 1) f) : unr (n + 1) t g f r = 46 :: unr n t (g - 1) f r := by rw [unr, if_pos h]
theorem unr_frog {n : Nat} {t g f r : Int} (h1 : ¬ r < manyI t (g - 1) f) (h : r < manyI t (g - 1) f + manyI t g (f - 1)) : unr (n + 1) t g f r = 70 :: unr n t g (f - 1) (r - manyI t (g - 1) f) := by rw [unr, if_neg h1, if_pos h]
theorem unr_toad {n : Nat} {t g f r : Int} (h1 : ¬ r < manyI t (g - 1) f) (h : ¬ r < manyI t (g - 1) f + manyI t g (f - 1)) : unr (n + 1) t g f r = 84 :: unr n (t - 1) g f (r - (manyI t (g - 1) f + manyI t g (f - 1))) := by rw [unr, if_neg h1, if_neg h]
theorem cntW_ranks (out : List UInt8 → Nat) (o : Nat) : ∀ (n : Nat) (t g f : Int) (p : List UInt8), 0 ≤ t → 0 ≤ g → 0 ≤ f → t + g + f = n → n ≤ 12 →
    sumTo (hitR out n t g f p o) (manyI t g f).toNat = cntW out n t g f p o
  | 0, t, g, f, p, ht, hg, hf, hn, _ => by
    obtain rfl : t = 0 := by omega
    obtain rfl : g = 0 := by omega
    obtain rfl : f = 0 := by omega
    rw [many_zero]
    show 0 + hitR out 0 0 0 0 p o 0 = _
    simp [hitR, unr, cntW]
  | n + 1, t, g, f, p, ht, hg, hf, hn, h12 => by
    have hs := many_sum t g f ht hg hf (by omega) (by omega)
    have a1 := (manyI_le t (g - 1) f (by omega)).1
    have a2 := (manyI_le t g (f - 1) (by omega)).1
    have a3 := (manyI_le (t - 1) g f (by omega)).1
    have eT : (manyI t g f).toNat = (manyI t (g - 1) f).toNat + (manyI t g (f - 1)).toNat + (manyI (t - 1) g f).toNat := by omega
    have p1 : sumTo (hitR out (n + 1) t g f p o) (manyI t (g - 1) f).toNat = if 0 < g then cntW out n t (g - 1) f (p ++ [46]) o else 0 := by
      by_cases h : 0 < g
      · rw [if_pos h, ← cntW_ranks out o n t (g - 1) f (p ++ [46]) ht (by omega) hf (by omega) (by omega)]
        refine sumTo_congr _ fun r hr => ?_
        unfold hitR
        rw [unr_gap (by omega), List.append_assoc]
        rfl
      · have e : manyI t (g - 1) f = 0 := manyI_neg (by omega)
        rw [if_neg h, e]; rfl
    have p2 : sumTo (fun r => hitR out (n + 1) t g f p o ((manyI t (g - 1) f).toNat + r)) (manyI t g (f - 1)).toNat = if 0 < f then cntW out n t g (f - 1) (p ++ [70]) o else 0 := by
      by_cases h : 0 < f
      · rw [if_pos h, ← cntW_ranks out o n t g (f - 1) (p ++ [70]) ht hg (by omega) (by omega) (by omega)]
        refine sumTo_congr _ fun r hr => ?_
        unfold hitR
        rw [unr_frog (by omega) (by omega), List.append_assoc, show (((manyI t (g - 1) f).toNat + r : Nat) : Int) - manyI t (g - 1) f = r by omega]
        rfl
      · have e : manyI t g (f - 1) = 0 := manyI_neg (by omega)
        rw [if_neg h, e]; rfl
    have p3 : sumTo (fun r => hitR out (n + 1) t g f p o ((manyI t (g - 1) f).toNat + (manyI t g (f - 1)).toNat + r)) (manyI (t - 1) g f).toNat = if 0 < t then cntW out n (t - 1) g f (p ++ [84]) o else 0 := by
      by_cases h : 0 < t
      · rw [if_pos h, ← cntW_ranks out o n (t - 1) g f (p ++ [84]) (by omega) hg hf (by omega) (by omega)]
        refine sumTo_congr _ fun r hr => ?_
        unfold hitR
        rw [unr_toad (by omega) (by omega), List.append_assoc, show (((manyI t (g - 1) f).toNat + (manyI t g (f - 1)).toNat + r : Nat) : Int) - (manyI t (g - 1) f + manyI t g (f - 1)) = r by omega]
        rfl
      · have e : manyI (t - 1) g f = 0 := manyI_neg (by omega)
        rw [if_neg h, e]; rfl
    rw [eT, sumTo_add, sumTo_add, p1, p2, p3]
    show _ = (if 0 < t then _ else _) + (if 0 < g then _ else _) + (if 0 < f then _ else _)
    omega
theorem cntW_le (out : List UInt8 → Nat) (o n : Nat) (t g f : Int) (p : List UInt8) (ht : 0 ≤ t) (hg : 0 ≤ g) (hf : 0 ≤ f) (hn : t + g + f = n) (h12 : n ≤ 12) : (cntW out n t g f p o : Int) ≤ manyI t g f := by
  rw [← cntW_ranks out o n t g f p ht hg hf hn h12]
  have h1 := sumTo_le (φ := hitR out n t g f p o) (fun r => by unfold hitR; split <;> omega) (manyI t g f).toNat
  have h2 := (manyI_le t g f (by omega)).1
  omega
end Go.Proofs.YtfjjdelmfohaeaaDoor

/- WayOnBoard: both sides' contracts. -/
import Derived.Test.YtjadnfnpbacfdaaDoorBdQ
import Derived.Test.YtjadnfnpbacfdaaDoorItr
import Derived.BigQuiet
namespace Go.Proofs.YtjadnfnpbacfdaaDoor
open Go.RowKit

def wtB (wd hi y x : Nat) (c : UInt8) : Nat := if c = 84 then (wd - 1 - x) + (hi - 1 - y) else if c = 70 then x + y else 0
def waP (wd hi y : Nat) (r : List UInt8) (k : Nat) : Nat := ((List.range k).map fun i => wtB wd hi y i (r.getD i 0)).sum
def waR (wd hi : Nat) (R : List (List UInt8)) (y : Nat) : Nat := ((List.range y).map fun j => waP wd hi j (R.getD j []) wd).sum
def waF (wd hi : Nat) (F : List UInt8) (k : Nat) : Nat := ((List.range k).map fun j => wtB wd hi (j / wd) (j % wd) (F.getD j 0)).sum
theorem sum_next (f : Nat → Nat) (k : Nat) : ((List.range (k + 1)).map f).sum = ((List.range k).map f).sum + f k := by
  rw [List.range_succ, List.map_append, List.sum_append]; simp
theorem waP_next (wd hi y : Nat) (r : List UInt8) (k : Nat) : waP wd hi y r (k + 1) = waP wd hi y r k + wtB wd hi y k (r.getD k 0) := sum_next _ _
theorem waR_next (wd hi : Nat) (R : List (List UInt8)) (y : Nat) : waR wd hi R (y + 1) = waR wd hi R y + waP wd hi y (R.getD y []) wd := sum_next _ _
theorem waF_next (wd hi : Nat) (F : List UInt8) (k : Nat) : waF wd hi F (k + 1) = waF wd hi F k + wtB wd hi (k / wd) (k % wd) (F.getD k 0) := sum_next _ _
theorem flat_get : ∀ (R : List (List UInt8)) (wd y x : Nat), (∀ r ∈ R, r.length = wd) → y < R.length → x < wd → R.flatten.getD (y * wd + x) 0 = (R.getD y []).getD x 0
  | [], _, _, _, _, h, _ => by simp at h
  | r :: R, wd, 0, x, h, _, hx => by
    have e := h r (by simp)
    simp only [List.flatten_cons, Nat.zero_mul, Nat.zero_add, List.getD_eq_getElem?_getD]
    rw [List.getElem?_append_left (by omega)]
    simp
  | r :: R, wd, y + 1, x, h, hy, hx => by
    have e := h r (by simp)
    have ih := flat_get R wd y x (fun q hq => h q (by simp [hq])) (by simpa using hy) hx
    simp only [List.flatten_cons, List.getD_eq_getElem?_getD] at ih ⊢
    rw [List.getElem?_append_right (by rw [e, Nat.add_mul]; omega)]
    rw [show (y + 1) * wd + x - r.length = y * wd + x by rw [e, Nat.add_mul]; omega]
    simpa using ih
theorem waF_rows (R : List (List UInt8)) (wd hi : Nat) (h : ∀ r ∈ R, r.length = wd) (y : Nat) (hy : y < R.length) : ∀ x, x ≤ wd → waF wd hi R.flatten (y * wd) = waR wd hi R y → waF wd hi R.flatten (y * wd + x) = waR wd hi R y + waP wd hi y (R.getD y []) x
  | 0, _, e => by rw [Nat.add_zero, e]; rfl
  | x + 1, hx, e => by
    have ih := waF_rows R wd hi h y hy x (by omega) e
    rw [← Nat.add_assoc, waF_next, ih, waP_next, flat_get R wd y x h hy (by omega)]
    have e1 : (y * wd + x) / wd = y := by
      rw [Nat.add_comm, Nat.add_mul_div_right _ _ (by omega), Nat.div_eq_of_lt (by omega)]; omega
    have e2 : (y * wd + x) % wd = x := by
      rw [Nat.add_comm, Nat.add_mul_mod_self_right, Nat.mod_eq_of_lt (by omega)]
    rw [e1, e2, Nat.add_assoc]
theorem waF_whole (R : List (List UInt8)) (wd hi : Nat) (h : ∀ r ∈ R, r.length = wd) : ∀ y, y ≤ R.length → waF wd hi R.flatten (y * wd) = waR wd hi R y
  | 0, _ => by rw [Nat.zero_mul]; rfl
  | y + 1, hy => by
    have ih := waF_whole R wd hi h y (by omega)
    have := waF_rows R wd hi h y (by omega) wd (Nat.le_refl _) ih
    rw [Nat.add_mul, Nat.one_mul, this, waR_next]
theorem wtB_le (wd hi y x : Nat) (c : UInt8) (h1 : wd ≤ 5) (h2 : hi ≤ 5) (hx : x < 5) (hy : y < 5) : wtB wd hi y x c ≤ 8 := by
  unfold wtB
  split
  · omega
  · split <;> omega
theorem waP_le (wd hi y : Nat) (r : List UInt8) (h1 : wd ≤ 5) (h2 : hi ≤ 5) (hy : y < 5) : ∀ k, k ≤ 5 → waP wd hi y r k ≤ 8 * k
  | 0, _ => by simp [waP]
  | k + 1, hk => by
    have := waP_le wd hi y r h1 h2 hy k (by omega)
    have := wtB_le wd hi y k (r.getD k 0) h1 h2 (by omega) hy
    rw [waP_next]; omega
theorem waR_le (wd hi : Nat) (R : List (List UInt8)) (h1 : wd ≤ 5) (h2 : hi ≤ 5) : ∀ y, y ≤ 5 → waR wd hi R y ≤ 40 * y
  | 0, _ => by simp [waR]
  | y + 1, hy => by
    have := waR_le wd hi R h1 h2 y (by omega)
    have := waP_le wd hi y (R.getD y []) h1 h2 (by omega) wd h1
    rw [waR_next]; omega
theorem waF_le (wd hi : Nat) (F : List UInt8) (h0 : 1 ≤ wd) (h1 : wd ≤ 5) (h2 : hi ≤ 5) : ∀ k, k ≤ hi * wd → waF wd hi F k ≤ 8 * k
  | 0, _ => by simp [waF]
  | k + 1, hk => by
    have := waF_le wd hi F h0 h1 h2 k (by omega)
    have hm : k % wd < wd := Nat.mod_lt _ (by omega)
    have hd : k / wd < hi := (Nat.div_lt_iff_lt_mul (by omega)).2 (by omega)
    have := wtB_le wd hi (k / wd) (k % wd) (F.getD k 0) h1 h2 (by omega) (by omega)
    rw [waF_next]; omega

theorem Below.drewN_of (w : World) (n : Nat) {b : Nat} : Below b w (w.drewN n) := by
  induction n with
  | zero => exact Below.refl _ _
  | succ n ih => exact ih.drew

end Go.Proofs.YtjadnfnpbacfdaaDoor

/- Counting plays in whatever order; numbers that wrap. -/
import Derived.Test.YtfiifjcjmnhbnaaDoorReachB
namespace Go.Proofs.YtfiifjcjmnhbnaaDoor
open Go.RowKit
/-- A number as an int of 64 bits holds it. -/
def wr (n : Nat) : Int := ((n : Int) + 9223372036854775808) % 18446744073709551616 - 9223372036854775808
theorem wr_add (a b : Nat) : (wr a + wr b + 9223372036854775808) % 18446744073709551616 - 9223372036854775808 = wr (a + b) := by unfold wr; omega
theorem wr_wrap (a b : Nat) : IntKind.i64.wrap (wr a + wr b) = wr (a + b) := by
  rw [IntKind.wrap_i64]
  exact wr_add a b
theorem wr_in (n : Nat) : -9223372036854775808 ≤ wr n ∧ wr n ≤ 9223372036854775807 := by unfold wr; omega
theorem wr_wf (n : Nat) : (Lit.int .i64 (wr n)).wf = true := by
  have := wr_in n
  show (decide (IntKind.i64.min ≤ wr n) && decide (wr n ≤ IntKind.i64.max)) = true
  rw [show IntKind.i64.min = -9223372036854775808 from rfl, show IntKind.i64.max = 9223372036854775807 from rfl]
  simp
  omega
theorem wr_small (n : Nat) (h : n < 9223372036854775808) : wr n = n := by unfold wr; omega
theorem wr_zero : wr 0 = 0 := by decide
/-- The plays that go through some lines, k steps on, to a line. -/
def part (nx : List UInt8 → List (List UInt8)) (c : List UInt8 → Nat) (us : List (List UInt8)) (v : List UInt8) : Nat := (us.map fun u => (nx u).count v * c u).sum
section
variable {nx : List UInt8 → List (List UInt8)} {c : List UInt8 → Nat}
theorem part_nil (v : List UInt8) : part nx c [] v = 0 := rfl
theorem part_snoc (us : List (List UInt8)) (u v : List UInt8) : part nx c (us ++ [u]) v = part nx c us v + (nx u).count v * c u := by simp [part]
theorem part_perm {us ws : List (List UInt8)} (h : us.Perm ws) (v : List UInt8) : part nx c us v = part nx c ws v := by
  unfold part
  induction h with
  | nil => rfl
  | cons x _ ih => simp [ih]
  | swap x y l => simp; omega
  | trans _ _ h1 h2 => exact h1.trans h2
theorem part_pc (w : List UInt8) (k : Nat) (v : List UInt8) : part nx (pc nx w k) (lay nx w k) v = pc nx w (k + 1) v := rfl
theorem part_none (us : List (List UInt8)) (v : List UInt8) (h : ∀ u ∈ us, v ∉ nx u) : part nx c us v = 0 := by
  induction us with
  | nil => rfl
  | cons u us ih =>
    have h1 := ih fun x hx => h x (by simp [hx])
    have h2 : (nx u).count v = 0 := List.count_eq_zero.2 (h u (by simp))
    unfold part at h1 ⊢
    simp [h1, h2]
end
theorem count_take_snoc (l : List (List UInt8)) (j : Nat) (h : j < l.length) (v : List UInt8) : (l.take (j + 1)).count v = (l.take j).count v + if l[j] = v then 1 else 0 := by
  rw [List.take_succ_eq_append_getElem h, List.count_append]
  by_cases e : l[j] = v <;> simp [e]
end Go.Proofs.YtfiifjcjmnhbnaaDoor

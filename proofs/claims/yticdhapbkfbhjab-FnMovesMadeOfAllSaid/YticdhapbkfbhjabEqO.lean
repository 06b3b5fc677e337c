/- Contracts: moves in order. -/
import Derived.Test.YticdhapbkfbhjabEqZ
import Derived.BigQuiet
import Derived.IntWalk
namespace Go.Proofs.Yticdhapbkfbhjab
open Go.RowKit

set_option maxRecDepth 100000 in
set_option maxHeartbeats 2000000 in
theorem yOrder_up (l : List (Int × Int)) (A1 : Option Addr) (c1 : Nat) (w : World) (h1 : MvAt w A1 l) (hl : l.length ≤ 2000000)
    (hup : ∀ k (h : k + 1 < l.length), l[k].1 < l[k + 1].1) :
    Calls Try.prog 34 #[.slice A1 l.length c1] w fun e w' => e = .returned (.bool true) ∧ Below w.heap.size w w' := by
  have H1 := Lib.hid h1
  have HU := Lib.hid hup
  clear h1 hup
  go_enter Try.func34, Try.ntmps34
  go_wp2
  go_loopw [3] (fun i wr => ∃ k : Nat, k ≤ l.length ∧ i = .int .i64 ((k : Int) + 1) ∧ Below w.heap.size w wr) (fun i _ => l.length + 1 - (intOf i).toNat)
  case atStart => exact ⟨0, Nat.zero_le _, rfl, Below.refl _ _⟩
  case round =>
    obtain ⟨k, hk, rfl, hB⟩ := hrel
    by_cases hlt : k + 1 < l.length
    · have hu := HU.out k hlt
      obtain ⟨g, rfl, z1, p1, q1⟩ := (H1.out.below hB) k (by omega)
      obtain ⟨g', e, z2, p2, q2⟩ := (H1.out.below hB) (k + 1) hlt
      injection e with e
      injection e with e
      subst e
      generalize l[k].1 = a at p1 hu
      generalize l[k].2 = b at q1
      generalize l[k + 1].1 = a' at p2 hu
      generalize l[k + 1].2 = b' at q2
      have i1 : (0 : Int) ≤ (k : Int) := by omega
      have i2 : (k : Int) < (l.length : Int) := by omega
      have i3 : (0 : Int) ≤ (k : Int) + 1 := by omega
      have i4 : (k : Int) + 1 < (l.length : Int) := by omega
      have d1 : decide (a' < a) = false := by simp; omega
      have d2 : (a == a') = false := by simp; omega
      have hwr : IntKind.i64.wrap ((k : Int) + 1 - 1) = k := by rw [IntWalk.i64_in _ (by omega)]; omega
      have n1 : ((k : Int) + 1).toNat = k + 1 := by omega
      go_wp2
      go_quiet (fail)
      clear hwr n1
      go_wp2
      refine ⟨⟨k + 1, by omega, by go_num, below_drewN hB _⟩, ?_⟩
      simp [intOf]; omega
    · go_wp2
      go_ret
      exact ⟨rfl, hB⟩
end Go.Proofs.Yticdhapbkfbhjab

/- Contracts: whether a move is in a list. -/
import Derived.Test.YticdhapbkfbhjabEqY
import Derived.WalkSmall
namespace Go.Proofs.Yticdhapbkfbhjab
open Go.RowKit

set_option maxRecDepth 100000 in
set_option maxHeartbeats 2000000 in
theorem yIn_any (l : List (Int × Int)) (A1 : Option Addr) (c1 : Nat) (x y : Int) (w : World) (h1 : MvAt w A1 l) (hl : l.length ≤ 2000000) :
    Calls Try.prog 38 #[.slice A1 l.length c1, .agg #[.int .i64 x, .int .i64 y]] w fun e w' => e = .returned (.bool (decide ((x, y) ∈ l))) ∧ Below w.heap.size w w' := by
  have H1 := Lib.hid h1
  clear h1
  go_enter Try.func38, Try.ntmps38
  go_wp2
  go_loopw [6, 9] (fun _ i wr => ∃ k : Nat, k ≤ l.length ∧ i = .int .i64 k ∧ Hid (∀ j (h : j < l.length), j < k → l[j] ≠ (x, y)) ∧ Below (w.heap.size + 1) (w.alloc (.cells #[.int .i64 x, .int .i64 y] 36)) wr) (fun _ i _ => l.length - (intOf i).toNat)
  case atStart => exact ⟨0, Nat.zero_le _, rfl, Lib.hid (fun j _ hj => absurd hj (Nat.not_lt_zero _)), Below.refl _ _⟩
  case round =>
    obtain ⟨k, hk, rfl, hN, hB1⟩ := hrel
    have hB : Below w.heap.size w wr := ((Below.refl w.heap.size w).alloc (Nat.le_refl _) _).trans (hB1.mono (Nat.le_succ _))
    have m1 : wr.cell? ⟨w.heap.size, 0, none⟩ = some (.int .i64 x) := (hB1.cell (p := ⟨w.heap.size, 0, none⟩) (Nat.lt_succ_self _)).trans (by rw [World.cell?_alloc_new]; rfl)
    have m2 : wr.cell? ⟨w.heap.size, 1, none⟩ = some (.int .i64 y) := (hB1.cell (p := ⟨w.heap.size, 1, none⟩) (Nat.lt_succ_self _)).trans (by rw [World.cell?_alloc_new]; rfl)
    have hz : w.heap.size < wr.heap.size := by have := hB1.size; simp at this; omega
    by_cases hlt : k < l.length
    · obtain ⟨g, rfl, z1, p1, q1⟩ := (H1.out.below hB) k hlt
      have hE : Hid (l[k] = (l[k].1, l[k].2)) := rfl
      have hM : Hid (l[k] ∈ l) := List.getElem_mem hlt
      have hN1 : Hid (l[k] ≠ (x, y) → ∀ j (h : j < l.length), j < k + 1 → l[j] ≠ (x, y)) := by
        intro hne j hj hj1
        by_cases hjk : j = k
        · subst hjk; exact hne
        · exact hN.out j hj (by omega)
      generalize l[k].1 = a at p1 hE
      generalize l[k].2 = b at q1 hE
      have i1 : (0 : Int) ≤ (k : Int) := by omega
      have i2 : (k : Int) < (l.length : Int) := by omega
      by_cases hab : a = x ∧ b = y
      · obtain ⟨rfl, rfl⟩ := hab
        have hR : Hid (decide ((a, b) ∈ l) = true) := by
          show _ = _
          rw [decide_eq_true_eq, ← hE.out]
          exact hM.out
        have heq := fun wx => eql_move a b a b wx
        clear hE hM hN hN1 hB1
        go_wp2
        go_ret
        exact ⟨congrArg (fun b => Ending.returned (.bool b)) hR.out.symm, hB.alloc (by omega) _⟩
      · have hne : (a == x && b == y) = false := by
          rcases Classical.em (a = x) with h | h
          · have : b ≠ y := fun e => hab ⟨h, e⟩
            simp [this]
          · simp [h]
        have hN2 := Lib.hid (hN1.out (by rw [hE.out]; intro e; injection e with e1 e2; exact hab ⟨e1, e2⟩))
        have heq := fun wx => eql_move a b x y wx
        rw [hne] at heq
        clear hE hM hN hN1 hne hab
        go_wp2
        refine ⟨⟨k + 1, by omega, by go_num, hN2, hB1.alloc (by omega) _⟩, ?_⟩
        simp [intOf]; omega
    · have hR : Hid (decide ((x, y) ∈ l) = false) := by
        show _ = _
        rw [decide_eq_false_iff_not]
        intro hm
        obtain ⟨j, hj, e⟩ := List.getElem_of_mem hm
        exact hN.out j hj (by omega) e
      clear hN
      go_wp2
      go_ret
      exact ⟨congrArg (fun b => Ending.returned (.bool b)) hR.out.symm, hB⟩
end Go.Proofs.Yticdhapbkfbhjab

/- Contracts: the library's chunks of bytes, gathered: the program's rows of a board. -/
import Derived.Test.YtmlffocbcfediaaDoorBdP
import Derived.RangeFuncNested
import Derived.RangeFuncBox
import Derived.RangeFuncLeaves
import Derived.Shelf.Abstract
import Derived.WalkKit
import Derived.OwnWalkIn
import Derived.TacticsInMore
import Derived.LoopNIn
import Derived.LoopIn
import Derived.Maps.AppendAt
namespace Go.Proofs.YtmlffocbcfediaaDoor
open Go.RowKit Go.Shelf

attribute [local go_sem] Oper.semAt_some

theorem Tryd.infoBS : (Tryd.prog.info? 49).map (fun i => (i.zero, i.size, i.bytes)) = some (some (.slice none 0 0), 1, 24) := by kernel_rfl
/-- The k-th row of a block of bytes. -/
def chV (g wd : Nat) (k : Nat) : Value := .slice (some ⟨g, k * wd, none⟩) wd wd
abbrev encCh (g wd : Nat) (k : Nat) : Array Value := #[.slice (some ⟨g, k * wd, none⟩) wd wd]

set_option maxRecDepth 100000 in
set_option maxHeartbeats 1000000 in
theorem chunk1_in (F : Fence) (n : Nat) (h7 : F.fn 157) (hro : F.round = none) (hn : 1 ≤ n) (lp B1 B2 n₀ g wd hi cap : Nat) (hwd : 1 ≤ wd) (hw5 : wd ≤ 1000) (hh5 : hi ≤ 1000) (hcap : hi * wd ≤ cap) (hB1 : B1 < n₀) (hB2 : B2 < n₀) (J Jx : List Nat → World → Prop) (W : World) (hJ : AbidesFrom W.heap.size J)
    (hY : ∀ pre x W, J pre W → pre.length < hi → YieldAt F (n - 1) Tryd.prog lp (encCh g wd x) W fun e W' =>
      (e = .returned (.bool true) ∧ J (pre ++ [x]) W' ∧ Below n₀ W W') ∨ (e = .returned (.bool false) ∧ Jx (pre ++ [x]) W'))
    (c1 : W.cell? ⟨B1, 0, none⟩ = some (.slice (some ⟨g, 0, none⟩) (hi * wd) cap)) (c2 : W.cell? ⟨B2, 0, none⟩ = some (.int .i64 wd)) (h0 : J [] W) :
    CallsIn F n Tryd.prog 157 #[.func (.yield lp) #[] #[], .pointer (some ⟨B1, 0, none⟩), .pointer (some ⟨B2, 0, none⟩)] W fun e W' => (∃ v, e = .returned v) ∧
      ((∃ ys, ys = List.range hi ∧ J ys W') ∨ (∃ pre, (∃ k, k ≤ hi ∧ pre = List.range k) ∧ Jx pre W')) := by
  have C1 := Lib.hid c1
  have C2 := Lib.hid c2
  clear c1 c2
  refine callsIn_of_wp Tryd.func157 rfl h7 ?_ hro
  simp only [Tryd.ntmps157, List.size_toArray, List.length_cons, List.length_nil, Nat.reduceAdd, Nat.reduceSub, Array.replicate_succ, Array.replicate_zero, List.push_toArray, List.append_toArray, List.nil_append, List.cons_append]
  gi_wp2
  gi_loopw [4, 5] (fun i _ wr => ∃ (k m : Nat), k ≤ hi ∧ m = k * wd ∧ i = .int .i64 m ∧ J (List.range k) wr ∧ Below n₀ W wr)
    (fun i _ _ => hi * wd - (intOf i).toNat)
  case atStart => exact ⟨0, 0, Nat.zero_le _, by simp, rfl, h0, Below.refl _ _⟩
  case round =>
    obtain ⟨k, m, hk, hm, rfl, hJs, hB⟩ := hrel
    have b1 := (hB.cell (p := ⟨B1, 0, none⟩) hB1).trans C1.out
    have b2 := (hB.cell (p := ⟨B2, 0, none⟩) hB2).trans C2.out
    have HH : hi * wd ≤ 1000000 := by have := Nat.mul_le_mul hh5 hw5; omega
    obtain ⟨N, hN⟩ : ∃ N, N = hi * wd := ⟨_, rfl⟩
    rw [← hN] at b1 HH hcap
    by_cases hlt : k < hi
    · have hmN : m + wd ≤ N := by
        rw [hm, hN, ← Nat.succ_mul]
        exact Nat.mul_le_mul_right wd hlt
      have hJd : J (List.range k) wr.drew := hJ _ _ _ none hJs ⟨rfl, rfl, rfl, Nat.le_refl _, fun _ _ _ => rfl⟩ (fun r e => by cases e)
      have hBd : Below n₀ W wr.drew := hB.drew
      obtain ⟨fn, tmps, assign, body, hy, hR⟩ := hY _ k wr.drew hJd (by rw [List.length_range]; exact hlt)
      dsimp only [encCh] at hy
      rw [← hm] at hy
      have HM := Lib.hid hm
      have HN := Lib.hid hN
      clear hm hN
      have l1 : (m : Int) < (N : Int) := by omega
      have l2 : (0 : Int) ≤ (m : Int) := by omega
      have l3 : min (wd : Int) ((N - m : Nat) : Int) = wd := by omega
      have l7 : ((m : Int) + wd).toNat - m = wd := by omega
      have l4 : (m : Int) ≤ (N : Int) := by omega
      have l5 : (m : Int) + wd ≤ (cap : Int) := by omega
      have l6 : (m : Int) ≤ m + wd := by omega
      clear hJs hB
      gi_wp2
      gi_region
      all_goals
        gi_wp2
        refine hR.mono ?_
        rintro e W3 (⟨rfl, hJ3, hk3⟩ | ⟨rfl, hJx3⟩)
        · have hJ4 : J (List.range (k + 1)) W3 := by rw [List.range_succ]; exact hJ3
          have hB3 := hBd.trans hk3
          have d2 := (hB3.cell (p := ⟨B2, 0, none⟩) hB2).trans C2.out
          clear hJ3 hk3 hBd b1 b2 hy hR hJd
          gi_wp2
          go_roundw
          case rel => exact ⟨k + 1, m + wd, by omega, by rw [HM.out, Nat.succ_mul], by go_num, hJ4, hB3⟩
          case measure => have := HN.out; simp [intOf]; omega
        · have hJ4 : Jx (List.range (k + 1)) W3 := by rw [List.range_succ]; exact hJx3
          clear hy hR
          gi_wp2
          refine bodyPost_ret (results_none rfl _ _ _) rfl ?_
          exact ⟨⟨_, rfl⟩, .inr ⟨_, ⟨k + 1, by omega, rfl⟩, hJ4⟩⟩
    · obtain rfl : k = hi := by omega
      rw [← hN] at hm
      subst hm
      gi_wp2
      go_end0
      exact ⟨⟨_, rfl⟩, .inl ⟨_, rfl, hJs⟩⟩

end Go.Proofs.YtmlffocbcfediaaDoor
